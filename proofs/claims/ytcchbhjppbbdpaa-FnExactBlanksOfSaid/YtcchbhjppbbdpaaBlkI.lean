/- The blanks of a graph: the program's way. -/
import Derived.Test.YtcchbhjppbbdpaaTxtKeys
import Derived.Test.YtcchbhjppbbdpaaGraph
import Derived.Test.YtcchbhjppbbdpaaSetM
import Derived.Test.YtcchbhjppbbdpaaRowM
namespace Go.Proofs.Ytcchbhjppbbdpaa
open Go.RowKit Go.Maps Go.Sort Go.Shelf
theorem keysSet (b : Nat) (W : World) : Calls Try.prog 21 #[.map (some b)] W fun e w' =>
    e = .returned (.func (.func 33) #[] #[.pointer (some ⟨W.heap.size, 0, none⟩)]) ∧ w' = W.alloc (.cells #[.map (some b)] 40) :=
  (callsIn_wide (n := 5)).1 (AnyZ.keys_in Try.keysS Fence.wide 5 trivial rfl (some b) W)
set_option maxHeartbeats 1000000 in
theorem sortedSet (b n : Nat) (ts : List Txt) (w : World) (h : OwnSetS w b n ts) (ht : ts.length ≤ 1000000) :
    Calls Try.prog 20 #[.func (.func 33) #[] #[.pointer (some ⟨w.heap.size, 0, none⟩)]] (w.alloc (.cells #[.map (some b)] 40)) fun e w' =>
      ∃ v, e = .returned v ∧ OwnS w.heap.size w' v ((ts.mergeSort leB).map bs) ∧ Below w.heap.size w w' := by
  obtain ⟨D, hown, hD⟩ := h
  have hbl := hown.lt
  have hsz : Maps.size D = ts.length := hD.size
  have hseq : SeqGives Fence.wide 2 Try.prog 33 #[.pointer (some ⟨w.heap.size, 0, none⟩)] encStr (fun ss => ss.Perm (strKeys D)) (Maps.size D) (w.alloc (.cells #[.map (some b)] 40)) :=
    AnyZ.keys_gives (ρ := Try.keysS_ren) { Try.keysS with } Fence.wide _ trivial rfl (by omega) w.heap.size b n D _ (by simp) (by simp) (hown.alloc _)
  have hc := (callsIn_wide (n := 5)).1 (AnyZ.sorted_in Try.sortedS Fence.wide 5 trivial trivial trivial trivial rfl (by omega) (sortsTxt _) (enters_of Try.func32 (by kernel_rfl) rfl) 33 #[.pointer (some ⟨w.heap.size, 0, none⟩)] trivial (enters_of Try.func33 (by kernel_rfl) rfl) _ _ (by unfold maxLen; omega) (by omega) _ hseq)
  refine hc.mono ?_
  rintro e w' ⟨v, ss, rfl, hS, hrow, _, hb⟩
  have hp : ss.mergeSort leB = ts.mergeSort leB := mergeSort_of_perm (hS.trans (set_keys hown hD).symm)
  have hl : ss.length = ((ts.mergeSort leB).map bs).length := by rw [List.length_map, ← hp, (List.mergeSort_perm ss leB).length_eq]
  refine ⟨v, rfl, ?_, ((Below.refl _ w).alloc (Nat.le_refl _) _).trans (hb.mono (by simp))⟩
  refine ownS_base (B := (w.alloc (.cells #[.map (some b)] 40)).heap.size) ?_ (by simp)
  have hv : ((ts.mergeSort leB).map bs).map strV = (ss.mergeSort leB).map encStr := by rw [hp, List.map_map]; rfl
  unfold OwnS
  rw [hv, ← hl]
  exact hrow
open Go.RowKit Go.WideShapes Go.Maps
theorem wpList_putB (w : World) {ops : Array Oper} {rest : List Oper} {o : Oper} {a : Act} {Q : Exit → Act → World → Prop} (hg : o.guard = none) (m x v : Operand) (hop : o.op = Op.mapUpdate 40 m x v) (b n : Nat) (ts : List Txt) (hm : a.eval m = .map (some b)) (h : OwnSetS w b n ts) (hn : n < maxLen) (t : ByteArray) (ht : t.size ≤ maxLen)
    (hx : a.eval x = .string t) (hv : a.eval v = .bool true) (hK : ∀ w', OwnSetS w' b (n + 1) (addS ts t.data.toList) → w.grownBy w' (some b) → wpList Try.prog ops Q rest (a.put o.dst undef) w') : wpList Try.prog ops Q (o :: rest) a w := by
  obtain ⟨D, hown, hD⟩ := h
  exact wpList_mapUpdate_own w hg m x v _ hop _ 4 lawTxt Try.underlying40 (plainElem (H := Unit) Try.prog 4) b n D hm hown hn _ _ (litS t.data.toList) hx hv (Go.WideMaps.keyOf_string_mk Try.underlying9 ht) _ [] true_elemS (fun w' h1 h2 => hK w' ⟨_, h1, hD.put (hown.tidy lawTxt) _⟩ h2)
def isBlankK (l : List UInt8) : Bool := decide (kindL l = 3)
theorem implIsBlank (s : ByteArray) (hs : s.size ≤ 2097152) (w : World) :
    Calls Try.prog 19 #[.string s] w fun e w' => e = .returned (.bool (isBlankK s.data.toList)) ∧ Below w.heap.size w w' := by
  have C' := implKindOf s hs
  unfold isBlankK
  generalize kindL s.data.toList = k at C' ⊢
  have C := Lib.hid C'
  clear C'
  have EK : (((k : Int) == 3) = true ∧ decide (k = 3) = true) ∨ (((k : Int) == 3) = false ∧ decide (k = 3) = false) := by
    simp only [beq_iff_eq, beq_eq_false_iff_ne, decide_eq_true_eq, decide_eq_false_iff_not]; omega
  generalize decide (k = 3) = q at EK ⊢
  go_enter Try.func19, Try.ntmps19
  go_wp2_with fail
  refine (C.out _).mono ?_
  rintro e w1 ⟨rfl, hb1⟩
  rcases EK with ⟨k1, rfl⟩ | ⟨k1, rfl⟩
  all_goals
    go_wp2_with fail
    go_ret
    exact ⟨rfl, hb1⟩
def wordsB (t : Tri3) : List ByteArray := [t.1, t.2.1, t.2.2]
def blanksIn (l : List ByteArray) : List Txt := (l.map fun s => s.data.toList).filter isBlankK
def blankWords (ts : List Tri3) : List Txt := ts.flatMap fun t => blanksIn (wordsB t)
def blanksT (ts : List Tri3) : List Txt := if graphOk ts = true then putAllS [] (blankWords ts) else []
theorem blankWords_snoc (ts : List Tri3) (t : Tri3) : blankWords (ts ++ [t]) = blankWords ts ++ blanksIn (wordsB t) := by simp [blankWords]
theorem blanksIn_snoc (l : List ByteArray) (s : ByteArray) : blanksIn (l ++ [s]) = blanksIn l ++ (if isBlankK s.data.toList then [s.data.toList] else []) := by
  unfold blanksIn; simp [List.filter_cons]
theorem blanksIn_len (l : List ByteArray) : (blanksIn l).length ≤ l.length := by
  unfold blanksIn; exact Nat.le_trans (List.length_filter_le _ _) (by simp)
theorem blankWords_len (ts : List Tri3) : (blankWords ts).length ≤ 3 * ts.length := by
  induction ts with
  | nil => simp [blankWords]
  | cons t r ih =>
    have h3 : (blanksIn (wordsB t)).length ≤ 3 := blanksIn_len (wordsB t)
    simp only [blankWords, List.flatMap_cons, List.length_append, List.length_cons] at *
    omega
theorem implPartsB (s p o : ByteArray) (w : World) : Calls Try.prog 18 #[.agg #[.string s, .string p, .string o]] w fun e w' => e = .returned (.agg #[.string s, .string p, .string o]) ∧ Below w.heap.size w w' := by
  go_enter Try.func18, Try.ntmps18
  go_wp2_with fail
  refine bodyPost_ret (v := .agg #[.string s, .string p, .string o]) (by simp [results, Try.results18, go_sem, *]) rfl ⟨rfl, ?_⟩
  exact ((Below.refl _ _).alloc (Nat.le_refl _) _).alloc (by simp) _
theorem indexB0 (s p o : ByteArray) (w : World) : (Instr.index 41 (.agg #[.string s, .string p, .string o]) (.int .i64 0)).run Try.prog w = .ok (.string s) w := by kernel_rfl
theorem indexB1 (s p o : ByteArray) (w : World) : (Instr.index 41 (.agg #[.string s, .string p, .string o]) (.int .i64 1)).run Try.prog w = .ok (.string p) w := by kernel_rfl
theorem indexB2 (s p o : ByteArray) (w : World) : (Instr.index 41 (.agg #[.string s, .string p, .string o]) (.int .i64 2)).run Try.prog w = .ok (.string o) w := by kernel_rfl
theorem indexB (s p o : ByteArray) (j : Nat) (x : ByteArray) (h : (wordsB (s, p, o))[j]? = some x) (w : World) : (Instr.index 41 (.agg #[.string s, .string p, .string o]) (.int .i64 (j : Int))).run Try.prog w = .ok (.string x) w := by
  have hj : j = 0 ∨ j = 1 ∨ j = 2 := by
    have := (List.getElem?_eq_some_iff.1 h).1
    simp only [wordsB, List.length_cons, List.length_nil] at this; omega
  rcases hj with rfl | rfl | rfl
  · obtain rfl : s = x := by simpa [wordsB] using h
    exact indexB0 _ _ _ w
  · obtain rfl : p = x := by simpa [wordsB] using h
    exact indexB1 _ _ _ w
  · obtain rfl : o = x := by simpa [wordsB] using h
    exact indexB2 _ _ _ w
set_option maxRecDepth 100000 in
set_option maxHeartbeats 3200000 in
theorem implBlanksOf (a : Option Addr) (len cap : Nat) (ts : List Tri3) (w : World) (h : IsTris w a len cap ts) (hsm : Sm ts) :
    Calls Try.prog 7 #[.slice a len cap] w fun e w' => ∃ v, e = .returned v ∧ OwnS w.heap.size w' v ((blanksT ts).map bs) ∧ Below w.heap.size w w' := by
  have C' := implGraphOk a len cap ts w h hsm
  have HL := Lib.hid h.len
  have HM := Lib.hid hsm
  have H := Lib.hid h
  clear h hsm
  unfold blanksT
  cases hq : graphOk ts
  · rw [hq] at C'
    have C := Lib.hid C'
    clear C' hq
    go_enter Try.func7, Try.ntmps7
    go_wp2_with fail
    refine C.out.mono ?_
    rintro e w1 ⟨rfl, hb⟩
    go_wp2_with fail
    go_ret
    exact ⟨.slice none 0 0, rfl, ⟨rfl, .inl ⟨rfl, rfl⟩⟩, hb⟩
  have hl4 : ts.length ≤ 80 := graphOk_len hq
  have hlen : len ≤ 80 := by have := HL.out; omega
  have hmm := @run_makeMap Try.prog
  rw [hq] at C'
  have C := Lib.hid C'
  clear C' hq
  go_enter Try.func7, Try.ntmps7
  go_wp2_with fail
  refine C.out.mono ?_
  rintro e w1 ⟨rfl, hb⟩
  have O0 := Lib.hid (OwnSetS.made w1)
  have B0 := hb.alloc hb.size (.map #[] 0)
  have HB1 := Lib.hid hb.size
  clear hb
  go_wp2_with fail
  clear hmm
  go_loopw [14] (fun i wr => ∃ k n : Nat, k ≤ len ∧ i = .int .i64 k ∧ n ≤ 3 * k ∧ Hid (OwnSetS wr w1.heap.size n (addAllS [] (blankWords (ts.take k)))) ∧ Below w.heap.size w wr) (fun i _ => len - (intOf i).toNat)
  case atStart => exact ⟨0, 0, Nat.zero_le _, rfl, Nat.le_refl _, by simpa [blankWords, addAllS] using O0, B0⟩
  case round =>
    obtain ⟨k, n, hk, rfl, hn, hown, hnx⟩ := hrel
    clear O0 B0
    by_cases hlt : k < len
    · obtain ⟨b, off, rfl, hb, _, _, hts, hcs⟩ := H.out.cells (by omega)
      have ht : ts[k]? = some (ts[k]'(by omega)) := List.getElem?_eq_getElem (by omega)
      obtain ⟨d0, d1, d2, m0, m1, m2⟩ := hcs k _ ht
      have HS : Hid (blankWords (ts.take (k + 1)) = blankWords (ts.take k) ++ blanksIn (wordsB (ts[k]'(by omega)))) := Lib.hid (by rw [List.take_succ_eq_append_getElem (by omega), blankWords_snoc])
      have hsm := HM.out (ts[k]'(by omega)) (List.getElem_mem _)
      rw [← hnx.cell (p := ⟨b, _, none⟩) hb] at d0 d1 d2
      generalize ts[k]'(by omega) = t at ht d0 d1 d2 HS m0 m1 m2 hsm
      obtain ⟨s, p, o⟩ := t
      try simp only at d0 d1 d2
      try simp only at m0 m1 m2
      have hk6 : (0 : Int) ≤ (k : Int) := by omega
      have hk7 : (k : Int) < (len : Int) := by omega
      have E2 := Box.new wr (.string s) (.string p) (.string o) 37
      have B2 := hnx.alloc hnx.size (.cells #[.string s, .string p, .string o] 37)
      have O2 := hown.out.alloc (.cells #[.string s, .string p, .string o] 37)
      obtain ⟨z0, z1, z2⟩ := E2.cells
      have CP := Lib.hid (fun W => implPartsB s p o W)
      clear ht hts hcs hown hnx
      go_wp2_with fail
      refine (CP.out _).mono ?_
      rintro e w2 ⟨rfl, hb2⟩
      have B3 := B2.trans (hb2.mono B2.size)
      have O3 := Lib.hid (O2.next hb2)
      clear hb2 B2 O2 E2 z0 z1 z2 d0 d1 d2 CP
      have hX : ∀ (j : Nat) (x : ByteArray), (wordsB (s, p, o))[j]? = some x → x.size ≤ 2097152 ∧ x.size ≤ maxLen := by
        intro j x hx
        have hj : j = 0 ∨ j = 1 ∨ j = 2 := by
          have := (List.getElem?_eq_some_iff.1 hx).1
          simp only [wordsB, List.length_cons, List.length_nil] at this; omega
        obtain ⟨q1, q2, q3⟩ := hsm
        try simp only at q1 q2 q3
        rcases hj with rfl | rfl | rfl
        · obtain rfl : s = x := by simpa [wordsB] using hx
          exact ⟨q1, m0⟩
        · obtain rfl : p = x := by simpa [wordsB] using hx
          exact ⟨q2, m1⟩
        · obtain rfl : o = x := by simpa [wordsB] using hx
          exact ⟨q3, m2⟩
      have HX := Lib.hid hX
      clear hX hsm m0 m1 m2
      obtain ⟨base, hbase⟩ : ∃ l, blankWords (ts.take k) = l := ⟨_, rfl⟩
      rw [hbase] at HS O3
      clear hbase
      obtain ⟨wd, hwd⟩ : ∃ l, wordsB (s, p, o) = l := ⟨_, rfl⟩
      have hwl : wd.length = 3 := by rw [← hwd]; rfl
      rw [hwd] at HS HX
      have HWD := Lib.hid hwd
      clear hwd
      go_wp2_with fail
      obtain ⟨wo, hwo⟩ : ∃ wo : World, wo = wr := ⟨_, rfl⟩
      go_loopw [20] (fun i w3 => ∃ j m : Nat, j ≤ 3 ∧ i = .int .i64 j ∧ m ≤ n + j ∧ Hid (OwnSetS w3 w1.heap.size m (addAllS [] (base ++ blanksIn (wd.take j)))) ∧ Below w.heap.size w w3) (fun i _ => 3 - (intOf i).toNat)
      case atStart => exact ⟨0, n, by omega, rfl, by omega, by simpa [blanksIn] using O3, B3⟩
      case round =>
        obtain ⟨j, m, hj, rfl, hm, hown, hnx⟩ := hrel
        clear O3 B3 hwo
        by_cases hlj : j < 3
        · have hxx : wd[j]? = some (wd[j]'(by omega)) := List.getElem?_eq_getElem (by omega)
          obtain ⟨x, hxe⟩ : ∃ x, wd[j]'(by omega) = x := ⟨_, rfl⟩
          have HT1 : Hid (blanksIn (wd.take (j + 1)) = blanksIn (wd.take j) ++ (if isBlankK x.data.toList then [x.data.toList] else [])) := Lib.hid (by rw [List.take_succ_eq_append_getElem (by omega), hxe, blanksIn_snoc])
          rw [hxe] at hxx
          obtain ⟨hx1, hx2⟩ := HX.out j x hxx
          have hidx := indexB s p o j x (by rw [HWD.out]; exact hxx)
          have CV' := implIsBlank x hx1
          have hj6 : (0 : Int) ≤ (j : Int) := by omega
          have hj7 : (j : Int) < 3 := by omega
          clear hxx hxe
          obtain ⟨bb, hbb⟩ : ∃ bb, isBlankK x.data.toList = bb := ⟨_, rfl⟩
          rw [hbb] at CV' HT1
          have CV := Lib.hid CV'
          clear CV' hbb
          go_wp2_with fail
          clear hidx
          refine (CV.out _).mono ?_
          rintro e w4 ⟨rfl, hb4⟩
          have B4 := hnx.trans (hb4.mono hnx.size)
          have O4 := Lib.hid (hown.out.next hb4)
          clear hb4 hnx hown CV
          cases bb
          · have HN : Hid (OwnSetS w4 w1.heap.size m (addAllS [] (base ++ blanksIn (wd.take (j + 1))))) := Lib.hid (by rw [HT1.out]; simpa using O4.out)
            clear O4 HT1
            go_wp2_with fail
            go_roundw
            case rel => exact ⟨j + 1, m, by omega, by go_num, by omega, HN, B4⟩
            case measure => simp [intOf]; omega
          · have hml : m < maxLen := by unfold maxLen; omega
            go_wp2_with (at_mapUpdate; refine wpList_putB _ rfl _ _ _ rfl w1.heap.size m (addAllS [] (base ++ blanksIn (wd.take j))) rfl O4.out hml x hx2 rfl rfl ?_)
            intro w5 hown5 hg5
            have B5 : Below w.heap.size w w5 := B4.grown hg5 B4.size (fun r e => by cases e; exact HB1.out)
            have HN : Hid (OwnSetS w5 w1.heap.size (m + 1) (addAllS [] (base ++ blanksIn (wd.take (j + 1))))) := Lib.hid (by rw [HT1.out]; simp only [if_true]; rw [← List.append_assoc, addAllS_snoc]; exact hown5)
            clear hown5 hg5 O4 B4 HT1
            go_wp2_with fail
            go_roundw
            case rel => exact ⟨j + 1, m + 1, by omega, by go_num, by omega, HN, B5⟩
            case measure => simp [intOf]; omega
        · obtain rfl : j = 3 := by omega
          have HN : Hid (OwnSetS wr w1.heap.size m (addAllS [] (blankWords (ts.take (k + 1))))) := Lib.hid (by
            have := hown.out
            rw [List.take_of_length_le (by omega)] at this
            rw [HS.out]; exact this)
          clear hown
          go_wp2_with fail
          go_roundw
          case rel => exact ⟨k + 1, m, by omega, by go_num, by omega, HN, hnx⟩
          case measure => simp [intOf]; omega
    · obtain rfl : k = len := by omega
      have HN : Hid (OwnSetS wr w1.heap.size n (addAllS [] (blankWords ts))) := Lib.hid (by
        have := hown.out
        rwa [List.take_of_length_le (by rw [HL.out]; exact Nat.le_refl _)] at this)
      have hlw := blankWords_len ts
      have hla := addAllS_len (blankWords ts) []
      have SK := Lib.hid (sortedSet w1.heap.size n (addAllS [] (blankWords ts)) wr HN.out (by simp at hla; omega))
      clear hown hla hlw
      go_wp2_with fail
      refine (keysSet _ _).mono ?_
      rintro e w6 ⟨rfl, rfl⟩
      go_wp2_with fail
      refine SK.out.mono ?_
      rintro e w7 ⟨v, rfl, o7, hb7⟩
      rw [sorted_words] at o7
      have B7 := hnx.trans (hb7.mono hnx.size)
      have O7 := Lib.hid (ownS_base o7 hnx.size)
      clear o7 hb7 SK
      go_wp2_with fail
      go_ret
      exact ⟨v, rfl, by simpa using O7.out, B7⟩
end Go.Proofs.Ytcchbhjppbbdpaa
