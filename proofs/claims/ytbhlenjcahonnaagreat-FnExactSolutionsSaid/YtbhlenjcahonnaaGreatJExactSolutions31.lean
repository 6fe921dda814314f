/- The variables of patterns: the program's way. -/
import Derived.Test.YtbhlenjcahonnaaGreatJExactSolutions23
import Derived.Test.YtbhlenjcahonnaaGreatJExactSolutions30
import Derived.Test.YtbhlenjcahonnaaGreatJExactSolutions12
import Derived.Test.YtbhlenjcahonnaaGreatJExactSolutions06
namespace Go.Proofs.YtbhlenjcahonnaaGreat
open Go.RowKit Go.WideShapes Go.Maps
def wordsT (t : Tri3) : List ByteArray := [t.1, t.2.1, t.2.2]
def varsIn (l : List ByteArray) : List Txt := (l.map fun s => s.data.toList).filter isVarK
def varWords (ts : List Tri3) : List Txt := ts.flatMap fun t => varsIn (wordsT t)
def varsT (ts : List Tri3) : List Txt := if bgpOk ts = true then putAllS [] (varWords ts) else []
theorem varWords_snoc (ts : List Tri3) (t : Tri3) : varWords (ts ++ [t]) = varWords ts ++ varsIn (wordsT t) := by simp [varWords]
theorem varsIn_snoc (l : List ByteArray) (s : ByteArray) : varsIn (l ++ [s]) = varsIn l ++ (if isVarK s.data.toList then [s.data.toList] else []) := by
  unfold varsIn; simp [List.filter_cons]
theorem varsIn_len (l : List ByteArray) : (varsIn l).length ≤ l.length := by
  unfold varsIn; exact Nat.le_trans (List.length_filter_le _ _) (by simp)
theorem varWords_len (ts : List Tri3) : (varWords ts).length ≤ 3 * ts.length := by
  induction ts with
  | nil => simp [varWords]
  | cons t r ih =>
    have h3 : (varsIn (wordsT t)).length ≤ 3 := varsIn_len (wordsT t)
    simp only [varWords, List.flatMap_cons, List.length_append, List.length_cons] at *
    omega
theorem implParts (s p o : ByteArray) (w : World) : Calls Tryz.prog 137 #[.agg #[.string s, .string p, .string o]] w fun e w' => e = .returned (.agg #[.string s, .string p, .string o]) ∧ Below w.heap.size w w' := by
  go_enter Tryz.func137, Tryz.ntmps137
  go_wp2_with fail
  refine bodyPost_ret (v := .agg #[.string s, .string p, .string o]) (by simp [results, Tryz.results137, go_sem, *]) rfl ⟨rfl, ?_⟩
  exact ((Below.refl _ _).alloc (Nat.le_refl _) _).alloc (by simp) _
theorem index30 (s p o : ByteArray) (w : World) : (Instr.index 169 (.agg #[.string s, .string p, .string o]) (.int .i64 0)).run Tryz.prog w = .ok (.string s) w := by kernel_rfl
theorem index31 (s p o : ByteArray) (w : World) : (Instr.index 169 (.agg #[.string s, .string p, .string o]) (.int .i64 1)).run Tryz.prog w = .ok (.string p) w := by kernel_rfl
theorem index32 (s p o : ByteArray) (w : World) : (Instr.index 169 (.agg #[.string s, .string p, .string o]) (.int .i64 2)).run Tryz.prog w = .ok (.string o) w := by kernel_rfl
theorem index3 (s p o : ByteArray) (j : Nat) (x : ByteArray) (h : (wordsT (s, p, o))[j]? = some x) (w : World) : (Instr.index 169 (.agg #[.string s, .string p, .string o]) (.int .i64 (j : Int))).run Tryz.prog w = .ok (.string x) w := by
  have hj : j = 0 ∨ j = 1 ∨ j = 2 := by
    have := (List.getElem?_eq_some_iff.1 h).1
    simp only [wordsT, List.length_cons, List.length_nil] at this; omega
  rcases hj with rfl | rfl | rfl
  · obtain rfl : s = x := by simpa [wordsT] using h
    exact index30 _ _ _ w
  · obtain rfl : p = x := by simpa [wordsT] using h
    exact index31 _ _ _ w
  · obtain rfl : o = x := by simpa [wordsT] using h
    exact index32 _ _ _ w
set_option maxRecDepth 100000 in
set_option maxHeartbeats 3200000 in
theorem implVarsOf (a : Option Addr) (len cap : Nat) (ts : List Tri3) (w : World) (h : IsTris w a len cap ts) (hsm : Sm ts) :
    Calls Tryz.prog 124 #[.slice a len cap] w fun e w' => ∃ v, e = .returned v ∧ OwnS w.heap.size w' v ((varsT ts).map bs) ∧ Below w.heap.size w w' := by
  have C' := implBgpOk a len cap ts w h hsm
  have HL := Lib.hid h.len
  have HM := Lib.hid hsm
  have H := Lib.hid h
  clear h hsm
  unfold varsT
  cases hq : bgpOk ts
  · rw [hq] at C'
    have C := Lib.hid C'
    clear C' hq
    go_enter Tryz.func124, Tryz.ntmps124
    go_wp2_with fail
    refine C.out.mono ?_
    rintro e w1 ⟨rfl, hb⟩
    go_wp2_with fail
    go_ret
    exact ⟨.slice none 0 0, rfl, ⟨rfl, .inl ⟨rfl, rfl⟩⟩, hb⟩
  have hl4 : ts.length ≤ 4 := by unfold bgpOk at hq; simp only [Bool.and_eq_true, decide_eq_true_eq] at hq; exact hq.1
  have hlen : len ≤ 4 := by have := HL.out; omega
  have hmm := @run_makeMap Tryz.prog
  rw [hq] at C'
  have C := Lib.hid C'
  clear C' hq
  go_enter Tryz.func124, Tryz.ntmps124
  go_wp2_with fail
  refine C.out.mono ?_
  rintro e w1 ⟨rfl, hb⟩
  have O0 := Lib.hid (OwnSetS.made w1)
  have B0 := hb.alloc hb.size (.map #[] 0)
  have HB1 := Lib.hid hb.size
  clear hb
  go_wp2_with fail
  clear hmm
  go_loopw [14] (fun i wr => ∃ k n : Nat, k ≤ len ∧ i = .int .i64 k ∧ n ≤ 3 * k ∧ Hid (OwnSetS wr w1.heap.size n (addAllS [] (varWords (ts.take k)))) ∧ Below w.heap.size w wr) (fun i _ => len - (intOf i).toNat)
  case atStart => exact ⟨0, 0, Nat.zero_le _, rfl, Nat.le_refl _, by simpa [varWords, addAllS] using O0, B0⟩
  case round =>
    obtain ⟨k, n, hk, rfl, hn, hown, hnx⟩ := hrel
    clear O0 B0
    by_cases hlt : k < len
    · obtain ⟨b, off, rfl, hb, _, _, hts, hcs⟩ := H.out.cells (by omega)
      have ht : ts[k]? = some (ts[k]'(by omega)) := List.getElem?_eq_getElem (by omega)
      obtain ⟨d0, d1, d2, m0, m1, m2⟩ := hcs k _ ht
      have HS : Hid (varWords (ts.take (k + 1)) = varWords (ts.take k) ++ varsIn (wordsT (ts[k]'(by omega)))) := Lib.hid (by rw [List.take_succ_eq_append_getElem (by omega), varWords_snoc])
      have hsm := HM.out (ts[k]'(by omega)) (List.getElem_mem _)
      rw [← hnx.cell (p := ⟨b, _, none⟩) hb] at d0 d1 d2
      generalize ts[k]'(by omega) = t at ht d0 d1 d2 HS m0 m1 m2 hsm
      obtain ⟨s, p, o⟩ := t
      try simp only at d0 d1 d2
      try simp only at m0 m1 m2
      have hk6 : (0 : Int) ≤ (k : Int) := by omega
      have hk7 : (k : Int) < (len : Int) := by omega
      have E2 := Box.new wr (.string s) (.string p) (.string o) 79
      have B2 := hnx.alloc hnx.size (.cells #[.string s, .string p, .string o] 79)
      have O2 := hown.out.alloc (.cells #[.string s, .string p, .string o] 79)
      obtain ⟨z0, z1, z2⟩ := E2.cells
      have CP := Lib.hid (fun W => implParts s p o W)
      clear ht hts hcs hown hnx
      go_wp2_with fail
      refine (CP.out _).mono ?_
      rintro e w2 ⟨rfl, hb2⟩
      have B3 := B2.trans (hb2.mono B2.size)
      have O3 := Lib.hid (O2.next hb2)
      clear hb2 B2 O2 E2 z0 z1 z2 d0 d1 d2 CP
      have hX : ∀ (j : Nat) (x : ByteArray), (wordsT (s, p, o))[j]? = some x → x.size ≤ 2097152 ∧ x.size ≤ maxLen := by
        intro j x hx
        have hj : j = 0 ∨ j = 1 ∨ j = 2 := by
          have := (List.getElem?_eq_some_iff.1 hx).1
          simp only [wordsT, List.length_cons, List.length_nil] at this; omega
        obtain ⟨q1, q2, q3⟩ := hsm
        try simp only at q1 q2 q3
        rcases hj with rfl | rfl | rfl
        · obtain rfl : s = x := by simpa [wordsT] using hx
          exact ⟨q1, m0⟩
        · obtain rfl : p = x := by simpa [wordsT] using hx
          exact ⟨q2, m1⟩
        · obtain rfl : o = x := by simpa [wordsT] using hx
          exact ⟨q3, m2⟩
      have HX := Lib.hid hX
      clear hX hsm m0 m1 m2
      obtain ⟨base, hbase⟩ : ∃ l, varWords (ts.take k) = l := ⟨_, rfl⟩
      rw [hbase] at HS O3
      clear hbase
      obtain ⟨wd, hwd⟩ : ∃ l, wordsT (s, p, o) = l := ⟨_, rfl⟩
      have hwl : wd.length = 3 := by rw [← hwd]; rfl
      rw [hwd] at HS HX
      have HWD := Lib.hid hwd
      clear hwd
      go_wp2_with fail
      obtain ⟨wo, hwo⟩ : ∃ wo : World, wo = wr := ⟨_, rfl⟩
      go_loopw [20] (fun i w3 => ∃ j m : Nat, j ≤ 3 ∧ i = .int .i64 j ∧ m ≤ n + j ∧ Hid (OwnSetS w3 w1.heap.size m (addAllS [] (base ++ varsIn (wd.take j)))) ∧ Below w.heap.size w w3) (fun i _ => 3 - (intOf i).toNat)
      case atStart => exact ⟨0, n, by omega, rfl, by omega, by simpa [varsIn] using O3, B3⟩
      case round =>
        obtain ⟨j, m, hj, rfl, hm, hown, hnx⟩ := hrel
        clear O3 B3 hwo
        by_cases hlj : j < 3
        · have hxx : wd[j]? = some (wd[j]'(by omega)) := List.getElem?_eq_getElem (by omega)
          obtain ⟨x, hxe⟩ : ∃ x, wd[j]'(by omega) = x := ⟨_, rfl⟩
          have HT1 : Hid (varsIn (wd.take (j + 1)) = varsIn (wd.take j) ++ (if isVarK x.data.toList then [x.data.toList] else [])) := Lib.hid (by rw [List.take_succ_eq_append_getElem (by omega), hxe, varsIn_snoc])
          rw [hxe] at hxx
          obtain ⟨hx1, hx2⟩ := HX.out j x hxx
          have hidx := index3 s p o j x (by rw [HWD.out]; exact hxx)
          have CV' := implIsVar x hx1
          have hj6 : (0 : Int) ≤ (j : Int) := by omega
          have hj7 : (j : Int) < 3 := by omega
          clear hxx hxe
          obtain ⟨bb, hbb⟩ : ∃ bb, isVarK x.data.toList = bb := ⟨_, rfl⟩
          rw [hbb] at CV' HT1
          have CV := Lib.hid CV'
          clear CV' hbb
          go_wp2_with fail
          clear hidx
          refine (CV.out _).mono ?_
          rintro e w4 ⟨rfl, hb4⟩
          have B4 := hnx.trans (hb4.mono hnx.size)
          have O4 := Lib.hid (hown.out.next hb4)
          clear hb4 hnx hown CV
          cases bb
          · have HN : Hid (OwnSetS w4 w1.heap.size m (addAllS [] (base ++ varsIn (wd.take (j + 1))))) := Lib.hid (by rw [HT1.out]; simpa using O4.out)
            clear O4 HT1
            go_wp2_with fail
            go_roundw
            case rel => exact ⟨j + 1, m, by omega, by go_num, by omega, HN, B4⟩
            case measure => simp [intOf]; omega
          · have hml : m < maxLen := by unfold maxLen; omega
            go_wp2_with (at_mapUpdate; refine wpList_putS _ rfl _ _ _ rfl w1.heap.size m (addAllS [] (base ++ varsIn (wd.take j))) rfl O4.out hml x hx2 rfl rfl ?_)
            intro w5 hown5 hg5
            have B5 : Below w.heap.size w w5 := B4.grown hg5 B4.size (fun r e => by cases e; exact HB1.out)
            have HN : Hid (OwnSetS w5 w1.heap.size (m + 1) (addAllS [] (base ++ varsIn (wd.take (j + 1))))) := Lib.hid (by rw [HT1.out]; simp only [if_true]; rw [← List.append_assoc, addAllS_snoc]; exact hown5)
            clear hown5 hg5 O4 B4 HT1
            go_wp2_with fail
            go_roundw
            case rel => exact ⟨j + 1, m + 1, by omega, by go_num, by omega, HN, B5⟩
            case measure => simp [intOf]; omega
        · obtain rfl : j = 3 := by omega
          have HN : Hid (OwnSetS wr w1.heap.size m (addAllS [] (varWords (ts.take (k + 1))))) := Lib.hid (by
            have := hown.out
            rw [List.take_of_length_le (by omega)] at this
            rw [HS.out]; exact this)
          clear hown
          go_wp2_with fail
          go_roundw
          case rel => exact ⟨k + 1, m, by omega, by go_num, by omega, HN, hnx⟩
          case measure => simp [intOf]; omega
    · obtain rfl : k = len := by omega
      have HN : Hid (OwnSetS wr w1.heap.size n (addAllS [] (varWords ts))) := Lib.hid (by
        have := hown.out
        rwa [List.take_of_length_le (by rw [HL.out]; exact Nat.le_refl _)] at this)
      have hlw := varWords_len ts
      have hla := addAllS_len (varWords ts) []
      have SK := Lib.hid (sortedTxt w1.heap.size n (addAllS [] (varWords ts)) wr HN.out (by simp at hla; omega))
      clear hown hla hlw
      go_wp2_with fail
      refine (keysTxt _ _).mono ?_
      rintro e w6 ⟨rfl, rfl⟩
      go_wp2_with fail
      refine SK.out.mono ?_
      rintro e w7 ⟨v, rfl, o7, hb7⟩
      rw [sorted_words] at o7
      have B7 := hnx.trans (hb7.mono hnx.size)
      have O7 := Lib.hid (ownS_base o7 hnx.size)
      clear o7 hb7 SK
      go_wp2_with fail
      go_ret
      exact ⟨v, rfl, by simpa using O7.out, B7⟩
end Go.Proofs.YtbhlenjcahonnaaGreat
/- The contracts of the search of a name in a row, and of what a row gives for a word. -/
namespace Go.Proofs.YtbhlenjcahonnaaGreat
open Go.RowKit Go.WideShapes
set_option maxRecDepth 100000 in
theorem implCmpPair (s p x : ByteArray) (w : World) :
    Calls Tryz.prog 160 #[.agg #[.string s, .string p], .string x] w fun e w' => e = .returned (.int .i64 (Lib.compareBytes s.data.toList x.data.toList)) ∧ Below w.heap.size w w' := by
  go_enter Tryz.func160, Tryz.ntmps160
  go_wp2_with fail
  refine (Tryz.strings_Compare s x _).mono ?_
  rintro e w1 ⟨rfl, rfl⟩
  go_wp2_with fail
  go_ret
  exact ⟨rfl, (Below.refl _ _).alloc (Nat.le_refl _) _⟩
def SearchPost (ts : List Pre2) (x : ByteArray) (w : World) (e : Ending) (w' : World) : Prop :=
  ∃ (lo : Nat) (f : Bool), e = .returned (.tuple #[.int .i64 lo, .bool f]) ∧ lo ≤ ts.length ∧ posP x ts = lo ∧ (f = true → ∃ t, ts[lo]? = some t ∧ t.1 = x) ∧ (f = false → ∀ t ∈ ts, t.1 ≠ x) ∧ Below w.heap.size w w'
theorem search_no {ts : List Pre2} {x : ByteArray} {lo : Nat} (ha : Asc ts) (h1 : ∀ (i : Nat) (t : Pre2), i < lo → ts[i]? = some t → Op.bytesLess t.1.data.toList x.data.toList = true)
    (h2 : ∀ t : Pre2, ts[lo]? = some t → Op.bytesLess x.data.toList t.1.data.toList = true) : ∀ t ∈ ts, t.1 ≠ x := by
  intro t ht hx
  obtain ⟨i, hi⟩ := List.mem_iff_getElem?.1 ht
  subst hx
  have hl := (List.getElem?_eq_some_iff.1 hi).1
  rcases Nat.lt_trichotomy i lo with h | rfl | h
  · have := h1 i t h hi
    rw [ltb_irrefl] at this; cases this
  · have := h2 t hi
    rw [ltb_irrefl] at this; cases this
  · have hm : ts[lo]? = some ts[lo] := List.getElem?_eq_getElem (by omega)
    have a := h2 _ hm
    have b := ha lo i _ _ h hm hi
    unfold lessP at b
    rw [ByteArray.toList_eq, ByteArray.toList_eq] at b
    have := ltb_trans _ _ _ a b
    rw [ltb_irrefl] at this; cases this
set_option maxRecDepth 100000 in
set_option maxHeartbeats 1600000 in
theorem implSearch (a : Option Addr) (len cap : Nat) (ts : List Pre2) (x : ByteArray) (w : World) (h : IsPres w a len cap ts) (ha : Asc ts) (hlen : len ≤ 1048576) :
    Calls Tryz.prog 159 #[.slice a len cap, .string x, .func (.func 160) #[] #[]] w (SearchPost ts x w) := by
  have HT := Lib.hid h.len
  have H := Lib.hid h
  have HA := Lib.hid ha
  clear h ha
  go_enter Tryz.func159, Tryz.ntmps159
  go_wp2_with fail
  go_loopw [9, 10] (fun s9 s10 wr => ∃ lo hi : Nat, s9 = .int .i64 lo ∧ s10 = .int .i64 hi ∧ lo ≤ hi ∧ hi ≤ len ∧ Below w.heap.size w wr ∧
    Hid ((∀ (i : Nat) (t : Pre2), i < lo → ts[i]? = some t → Op.bytesLess t.1.data.toList x.data.toList = true) ∧ (∀ (i : Nat) (t : Pre2), hi ≤ i → ts[i]? = some t → Op.bytesLess t.1.data.toList x.data.toList = false))) (fun s9 s10 _ => (intOf s10).toNat - (intOf s9).toNat)
  case atStart =>
    exact ⟨0, len, rfl, rfl, Nat.zero_le _, Nat.le_refl _, Below.refl _ _, Lib.hid ⟨fun i t hi => by omega, fun i t hi ht => by have := (List.getElem?_eq_some_iff.1 ht).1; have := HT.out; omega⟩⟩
  case round =>
    obtain ⟨lo, hi, rfl, rfl, hlh, hin, hnx, I⟩ := hrel
    by_cases hlt : lo < hi
    · obtain ⟨b, off, rfl, hb, hl, hm, hts, hc⟩ := H.out.cells (by omega)
      obtain ⟨m, hmd⟩ : ∃ m, (lo + hi) / 2 = m := ⟨_, rfl⟩
      have hm1 : lo ≤ m := by omega
      have hm2 : m < hi := by omega
      have hmi : ((lo : Int) + (hi : Int)) / 2 = (m : Int) := by omega
      have ht : ts[m]? = some ts[m] := List.getElem?_eq_getElem (by omega)
      obtain ⟨c0, c1, m0, m1⟩ := hc m _ ht
      clear m0 m1 hmd
      rw [← hnx.cell (p := ⟨b, _, none⟩) hb] at c0 c1
      obtain ⟨t, htt⟩ : ∃ t, ts[m] = t := ⟨_, rfl⟩
      rw [htt] at c0 c1 ht
      clear htt
      have C := Lib.hid (implCmpPair t.1 t.2 x)
      have hml : m < len := by omega
      have hk6 : (0 : Int) ≤ (m : Int) := by omega
      have hk7 : (m : Int) < (len : Int) := by omega
      clear hts hc hm
      have K : (Lib.compareBytes t.1.data.toList x.data.toList < 0 ∧ Op.bytesLess t.1.data.toList x.data.toList = true) ∨ (¬ Lib.compareBytes t.1.data.toList x.data.toList < 0 ∧ Op.bytesLess t.1.data.toList x.data.toList = false) := by
        rcases cmp_cases t.1.data.toList x.data.toList with ⟨g, g'⟩ | ⟨g, g'⟩ | ⟨g, g'⟩
        · exact .inl ⟨g, g'⟩
        · exact .inr ⟨by omega, by rw [g', ltb_irrefl]⟩
        · exact .inr ⟨by omega, ltb_asymm _ _ g'⟩
      rcases K with ⟨g, g'⟩ | ⟨g, g'⟩
      · have J : Hid ((∀ (i : Nat) (t : Pre2), i < m + 1 → ts[i]? = some t → Op.bytesLess t.1.data.toList x.data.toList = true) ∧ (∀ (i : Nat) (t : Pre2), hi ≤ i → ts[i]? = some t → Op.bytesLess t.1.data.toList x.data.toList = false)) := Lib.hid ⟨fun i u hi' hu => by
          rcases Nat.lt_or_eq_of_le (show i ≤ m by omega) with hlt' | rfl
          · have := HA.out i m u t hlt' hu ht
            unfold lessP at this
            rw [ByteArray.toList_eq, ByteArray.toList_eq] at this
            exact ltb_trans _ _ _ this g'
          · obtain rfl : u = t := by rw [hu] at ht; exact Option.some.inj ht
            exact g', I.out.2⟩
        clear g' ht
        generalize Lib.compareBytes t.1.data.toList x.data.toList = cc at C g
        go_wp2_with fail
        refine (C.out _).mono ?_
        rintro e w1 ⟨rfl, hb1⟩
        have B : Below w.heap.size w w1 := hnx.trans (hb1.mono hnx.size)
        clear hb1 hnx c0 c1
        go_wp2_with fail
        go_roundw
        case rel => exact ⟨m + 1, hi, by go_num, rfl, by omega, hin, B, J⟩
        case measure => simp [intOf]; omega
      · have J : Hid ((∀ (i : Nat) (t : Pre2), i < lo → ts[i]? = some t → Op.bytesLess t.1.data.toList x.data.toList = true) ∧ (∀ (i : Nat) (t : Pre2), m ≤ i → ts[i]? = some t → Op.bytesLess t.1.data.toList x.data.toList = false)) := Lib.hid ⟨I.out.1, fun i u hi' hu => by
          rcases Nat.lt_or_eq_of_le hi' with hlt' | rfl
          · have := HA.out m i t u hlt' ht hu
            unfold lessP at this
            rw [ByteArray.toList_eq, ByteArray.toList_eq] at this
            cases hux : Op.bytesLess u.1.data.toList x.data.toList
            · rfl
            · rw [ltb_trans _ _ _ this hux] at g'; cases g'
          · obtain rfl : u = t := by rw [hu] at ht; exact Option.some.inj ht
            exact g'⟩
        clear g' ht
        generalize Lib.compareBytes t.1.data.toList x.data.toList = cc at C g
        go_wp2_with fail
        refine (C.out _).mono ?_
        rintro e w1 ⟨rfl, hb1⟩
        have B : Below w.heap.size w w1 := hnx.trans (hb1.mono hnx.size)
        clear hb1 hnx c0 c1
        go_wp2_with fail
        go_roundw
        case rel => exact ⟨lo, m, rfl, rfl, by omega, by omega, B, J⟩
        case measure => simp [intOf]; omega
    · obtain rfl : lo = hi := by omega
      by_cases hll : lo < len
      · obtain ⟨b, off, rfl, hb, hl, hm, hts, hc⟩ := H.out.cells (by omega)
        have ht : ts[lo]? = some ts[lo] := List.getElem?_eq_getElem (by omega)
        obtain ⟨c0, c1, m0, m1⟩ := hc lo _ ht
        clear m0 m1
        rw [← hnx.cell (p := ⟨b, _, none⟩) hb] at c0 c1
        obtain ⟨t, htt⟩ : ∃ t, ts[lo] = t := ⟨_, rfl⟩
        rw [htt] at c0 c1 ht
        clear htt
        have C := Lib.hid (implCmpPair t.1 t.2 x)
        have hk6 : (0 : Int) ≤ (lo : Int) := by omega
        have hk7 : (lo : Int) < (len : Int) := by omega
        have hle : lo ≤ ts.length := by omega
        have HL := Lib.hid hle
        have HP := Lib.hid (posP_is I.out.1 hle (fun u hu => I.out.2 lo u (Nat.le_refl _) hu))
        clear hts hc hm hle
        have K : ((Lib.compareBytes t.1.data.toList x.data.toList == 0) = true ∧ t.1 = x) ∨ ((Lib.compareBytes t.1.data.toList x.data.toList == 0) = false ∧ Op.bytesLess x.data.toList t.1.data.toList = true) := by
          rcases cmp_cases t.1.data.toList x.data.toList with ⟨g, g'⟩ | ⟨g, g'⟩ | ⟨g, g'⟩
          · rw [I.out.2 lo t (Nat.le_refl _) ht] at g'; cases g'
          · exact .inl ⟨by rw [g]; rfl, data_inj g'⟩
          · exact .inr ⟨by rw [beq_eq_false_iff_ne]; omega, g'⟩
        rcases K with ⟨g, g'⟩ | ⟨g, g'⟩
        · have J : Hid (∃ t, ts[lo]? = some t ∧ t.1 = x) := Lib.hid ⟨t, ht, g'⟩
          clear g' ht
          generalize Lib.compareBytes t.1.data.toList x.data.toList = cc at C g
          go_wp2_with fail
          refine (C.out _).mono ?_
          rintro e w1 ⟨rfl, hb1⟩
          have B : Below w.heap.size w w1 := hnx.trans (hb1.mono hnx.size)
          clear hb1 hnx c0 c1
          go_wp2_with fail
          go_ret2
          exact ⟨lo, true, rfl, HL.out, HP.out, fun _ => J.out, (fun h => by cases h), B⟩
        · have J : Hid (∀ t ∈ ts, t.1 ≠ x) := Lib.hid (search_no HA.out I.out.1 (fun u hu => by
            obtain rfl : u = t := by rw [hu] at ht; exact Option.some.inj ht
            exact g'))
          clear g' ht
          generalize Lib.compareBytes t.1.data.toList x.data.toList = cc at C g
          go_wp2_with fail
          refine (C.out _).mono ?_
          rintro e w1 ⟨rfl, hb1⟩
          have B : Below w.heap.size w w1 := hnx.trans (hb1.mono hnx.size)
          clear hb1 hnx c0 c1
          go_wp2_with fail
          go_ret2
          exact ⟨lo, false, rfl, HL.out, HP.out, (fun h => by cases h), fun _ => J.out, B⟩
      · have HP := Lib.hid (posP_is I.out.1 (show lo ≤ ts.length by have := HT.out; omega) (fun u hu => I.out.2 lo u (Nat.le_refl _) hu))
        have J : Hid (lo ≤ ts.length ∧ ∀ t ∈ ts, t.1 ≠ x) := Lib.hid ⟨by have := HT.out; omega, search_no HA.out I.out.1 (fun u hu => by have := (List.getElem?_eq_some_iff.1 hu).1; have := HT.out; omega)⟩
        go_wp2_with fail
        go_ret2
        exact ⟨lo, false, rfl, J.out.1, HP.out, (fun h => by cases h), fun _ => J.out.2, hnx⟩
end Go.Proofs.YtbhlenjcahonnaaGreat
