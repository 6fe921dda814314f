/- The variables of patterns: the specification's way.; The variables of patterns: the specification.; A set of texts (the generic set): one made of slices; whether it has one, all of some. -/
import Derived.Test.YtiajdnhmjdfeeaaGreatK12
import Derived.Test.YtiajdnhmjdfeeaaGreatK11
import Derived.StillTailTactics
import Derived.Test.YtiajdnhmjdfeeaaGreatK10
namespace Go.Proofs.YtiajdnhmjdfeeaaGreat
open Go.RowKit Go.WideShapes Go.Maps
theorem box_word {w : World} {g : Nat} {s p o : ByteArray} {T : TypeId} (h : Box w g (.string s) (.string p) (.string o) T) (j : Nat) (x : ByteArray) (hx : (wordsT (s, p, o))[j]? = some x) : w.cell? ⟨g, j, none⟩ = some (.string x) := by
  obtain ⟨c0, c1, c2⟩ := h.cells
  have hj : j = 0 ∨ j = 1 ∨ j = 2 := by
    have := (List.getElem?_eq_some_iff.1 hx).1
    simp only [wordsT, List.length_cons, List.length_nil] at this; omega
  rcases hj with rfl | rfl | rfl
  · obtain rfl : s = x := by simpa [wordsT] using hx
    exact c0
  · obtain rfl : p = x := by simpa [wordsT] using hx
    exact c1
  · obtain rfl : o = x := by simpa [wordsT] using hx
    exact c2
theorem word_small {s p o : ByteArray} (h : s.size ≤ 2097152 ∧ p.size ≤ 2097152 ∧ o.size ≤ 2097152) (j : Nat) (x : ByteArray) (hx : (wordsT (s, p, o))[j]? = some x) : x.size ≤ 2097152 := by
  obtain ⟨q1, q2, q3⟩ := h
  have hj : j = 0 ∨ j = 1 ∨ j = 2 := by
    have := (List.getElem?_eq_some_iff.1 hx).1
    simp only [wordsT, List.length_cons, List.length_nil] at this; omega
  rcases hj with rfl | rfl | rfl
  · obtain rfl : s = x := by simpa [wordsT] using hx
    exact q1
  · obtain rfl : p = x := by simpa [wordsT] using hx
    exact q2
  · obtain rfl : o = x := by simpa [wordsT] using hx
    exact q3
def allVars (ts : List Tri3) : List Txt := putAllS [] (varWords ts)
set_option maxRecDepth 100000 in
set_option maxHeartbeats 3200000 in
theorem specVars (a : Option Addr) (len cap : Nat) (ts : List Tri3) (w : World) (h : IsTris w a len cap ts) (hsm : Sm ts) (hlen : len ≤ 1000) :
    Calls Tryz.prog 100 #[.slice a len cap] w fun e w' => ∃ g n c, e = .returned (.slice (some ⟨g, 0, none⟩) n c) ∧ OwnS w.heap.size w' (.slice (some ⟨g, 0, none⟩) n c) ((allVars ts).map bs) ∧ (allVars ts).length = n ∧ Below w.heap.size w w' := by
  have HL := Lib.hid h.len
  have HM := Lib.hid hsm
  have H := Lib.hid h
  have B0 := (Below.refl w.heap.size w).alloc (Nat.le_refl _) (.cells #[] 9)
  have O0 : OwnS w.heap.size (w.alloc (.cells #[] 9)) (.slice (some ⟨w.heap.size, 0, none⟩) 0 0) [] := World.ownsRow_lit (size := 1) (e := 9) w #[] 0 (Nat.le_refl _) (by decide) rfl
  clear h hsm
  go_enter Tryz.func100, Tryz.ntmps100
  go_wp2_with fail
  go_loopw [3, 4] (fun v i wr => ∃ k g n c : Nat, k ≤ len ∧ i = .int .i64 k ∧ v = .slice (some ⟨g, 0, none⟩) n c ∧ n ≤ 3 * k ∧ Hid (OwnS w.heap.size wr (.slice (some ⟨g, 0, none⟩) n c) ((allVars (ts.take k)).map bs) ∧ (allVars (ts.take k)).length = n) ∧ Below w.heap.size w wr) (fun _ i _ => len - (intOf i).toNat)
  case atStart => exact ⟨0, w.heap.size, 0, 0, Nat.zero_le _, rfl, rfl, Nat.le_refl _, Lib.hid ⟨by simpa [allVars, varWords, putAllS] using O0, by simp [allVars, varWords, putAllS]⟩, B0⟩
  case round =>
    obtain ⟨k, g, n, c, hk, rfl, rfl, hn, hown, hnx⟩ := hrel
    clear O0 B0
    by_cases hlt : k < len
    · obtain ⟨b, off, rfl, hb, _, _, hts, hcs⟩ := H.out.cells (by omega)
      have ht : ts[k]? = some (ts[k]'(by omega)) := List.getElem?_eq_getElem (by omega)
      obtain ⟨d0, d1, d2, m0, m1, m2⟩ := hcs k _ ht
      clear m0 m1 m2
      have HS : Hid (allVars (ts.take (k + 1)) = putAllS (allVars (ts.take k)) (varsIn (wordsT (ts[k]'(by omega))))) := Lib.hid (by unfold allVars; rw [List.take_succ_eq_append_getElem (by omega), varWords_snoc, putAllS_app])
      have hsm := HM.out (ts[k]'(by omega)) (List.getElem_mem _)
      rw [← hnx.cell (p := ⟨b, _, none⟩) hb, ← World.cell?_drew] at d0 d1 d2
      generalize ts[k]'(by omega) = t at ht d0 d1 d2 HS hsm
      obtain ⟨s, p, o⟩ := t
      try simp only at d0 d1 d2
      have hk6 : (0 : Int) ≤ (k : Int) := by omega
      have hk7 : (k : Int) < (len : Int) := by omega
      have HX := Lib.hid (word_small hsm)
      obtain ⟨acc, hacc⟩ : ∃ l, allVars (ts.take k) = l := ⟨_, rfl⟩
      rw [hacc] at HS hown
      clear ht hts hcs hsm hacc
      go_wp2_with fail
      go_still_tail 15, (by kernel_rfl)
      change wpList _ _ _ _ _ wr.drew
      have BD : Below w.heap.size w wr.drew := hnx.drew
      have OD : Hid (OwnS w.heap.size wr.drew (.slice (some ⟨g, 0, none⟩) n c) (acc.map bs) ∧ acc.length = n) := Lib.hid ⟨World.ownsRow.drew hown.out.1, hown.out.2⟩
      clear hown hnx d0 d1 d2
      generalize wr.drew = wq at BD OD ⊢
      have T2 := Lib.hid (Box.new wq (.string s) (.string p) (.string o) 9)
      have B2 := BD.alloc BD.size (.cells #[.string s, .string p, .string o] 9)
      have O2 : Hid (OwnS w.heap.size (wq.alloc (.cells #[.string s, .string p, .string o] 9)) (.slice (some ⟨g, 0, none⟩) n c) (acc.map bs) ∧ acc.length = n) := Lib.hid ⟨World.ownsRow.alloc OD.out.1 _, OD.out.2⟩
      clear BD OD
      obtain ⟨tb, htb⟩ : ∃ tb, wq.heap.size = tb := ⟨_, rfl⟩
      rw [htb] at T2
      obtain ⟨wd, hwd⟩ : ∃ l, wordsT (s, p, o) = l := ⟨_, rfl⟩
      have hwl : wd.length = 3 := by rw [← hwd]; rfl
      have HBW := Lib.hid (fun (W : World) (hb : Box W tb (.string s) (.string p) (.string o) 9) => box_word hb)
      rw [hwd] at HS HX
      have HWD := Lib.hid hwd
      clear hwd
      go_wp2_with fail
      try rw [htb]
      clear htb
      generalize wq.alloc (.cells #[.string s, .string p, .string o] 9) = w2 at T2 B2 O2 ⊢
      go_loopw [3, 6] (fun v i w3 => ∃ j g' n' c' : Nat, j ≤ 3 ∧ i = .int .i64 j ∧ v = .slice (some ⟨g', 0, none⟩) n' c' ∧ n' ≤ n + j ∧ Hid (OwnS w.heap.size w3 (.slice (some ⟨g', 0, none⟩) n' c') ((putAllS acc (varsIn (wd.take j))).map bs) ∧ (putAllS acc (varsIn (wd.take j))).length = n') ∧ Hid (Box w3 tb (.string s) (.string p) (.string o) 9) ∧ Below w.heap.size w w3) (fun _ i _ => 3 - (intOf i).toNat)
      case atStart => exact ⟨0, g, n, c, by omega, rfl, rfl, by omega, by simpa [varsIn, putAllS] using O2, T2, B2⟩
      case round =>
        obtain ⟨j, g', n', c', hj, rfl, rfl, hn', hown, htbx, hnx⟩ := hrel
        clear O2 T2 B2
        by_cases hlj : j < 3
        · have hxx : wd[j]? = some (wd[j]'(by omega)) := List.getElem?_eq_getElem (by omega)
          obtain ⟨x, hxe⟩ : ∃ x, wd[j]'(by omega) = x := ⟨_, rfl⟩
          have HT1 : Hid (varsIn (wd.take (j + 1)) = varsIn (wd.take j) ++ (if isVarK x.data.toList then [x.data.toList] else [])) := Lib.hid (by rw [List.take_succ_eq_append_getElem (by omega), hxe, varsIn_snoc])
          rw [hxe] at hxx
          have hx1 := HX.out j x hxx
          have hcx := HBW.out _ htbx.out j x (by rw [HWD.out]; exact hxx)
          have CV' := specKindOf x hx1
          have hj6 : (0 : Int) ≤ (j : Int) := by omega
          have hj7 : (j : Int) < 3 := by omega
          have HJX := Lib.hid hxx
          clear hxx hxe
          have EK : ((((kindL x.data.toList : Nat) : Int) == 4) = true ∧ isVarK x.data.toList = true) ∨ ((((kindL x.data.toList : Nat) : Int) == 4) = false ∧ isVarK x.data.toList = false) := by
            unfold isVarK
            simp only [beq_iff_eq, beq_eq_false_iff_ne, decide_eq_true_eq, decide_eq_false_iff_not]; omega
          generalize kindL x.data.toList = kk at CV' EK
          have CV := Lib.hid CV'
          clear CV'
          rcases EK with ⟨e1, e2⟩ | ⟨e1, e2⟩
          · rw [e2] at HT1
            have HPA : Hid (putAllS acc (varsIn (wd.take (j + 1))) = putS (putAllS acc (varsIn (wd.take j))) x.data.toList) := Lib.hid (by rw [HT1.out]; simp only [if_true]; rw [putAllS_snoc])
            clear e2 HT1
            go_wp2_with fail
            refine (CV.out _).mono ?_
            rintro e w4 ⟨rfl, hb4⟩
            have B4 := hnx.trans (hb4.mono hnx.size)
            have O4 := Lib.hid (And.intro (hown.out.1.kept hb4) hown.out.2)
            have T4 := Lib.hid (htbx.out.next hb4)
            have hcx2 := HBW.out _ T4.out j x (by rw [HWD.out]; exact HJX.out)
            have hsz : n' ≤ 1048576 := by omega
            have CP := Lib.hid (specPut1 w.heap.size g' n' c' (putAllS acc (varsIn (wd.take j))) x w4 O4.out.1 O4.out.2 hsz B4.size)
            have hpl := putS_len (putAllS acc (varsIn (wd.take j))) x.data.toList
            rw [O4.out.2] at hpl
            clear hb4 hnx htbx hown CV hcx
            go_wp2_with fail
            refine CP.out.mono ?_
            rintro e w5 ⟨g5, n5, c5, rfl, o5, hl5, hb5⟩
            rw [hl5] at hpl
            have B5 := B4.trans (hb5.mono B4.size)
            have T5 := Lib.hid (T4.out.next hb5)
            have O5 : Hid (OwnS w.heap.size w5 (.slice (some ⟨g5, 0, none⟩) n5 c5) ((putAllS acc (varsIn (wd.take (j + 1)))).map bs) ∧ (putAllS acc (varsIn (wd.take (j + 1)))).length = n5) := Lib.hid (by rw [HPA.out]; exact ⟨o5, hl5⟩)
            clear o5 hl5 hb5 B4 T4 O4 CP hcx2 HPA
            go_wp2_with fail
            go_roundw
            case rel => exact ⟨j + 1, g5, n5, c5, by omega, by go_num, rfl, by omega, O5, T5, B5⟩
            case measure => simp [intOf]; omega
          · rw [e2] at HT1
            have HPA : Hid (putAllS acc (varsIn (wd.take (j + 1))) = putAllS acc (varsIn (wd.take j))) := Lib.hid (by rw [HT1.out]; simp)
            clear e2 HT1
            go_wp2_with fail
            refine (CV.out _).mono ?_
            rintro e w4 ⟨rfl, hb4⟩
            have B4 := hnx.trans (hb4.mono hnx.size)
            have O4 : Hid (OwnS w.heap.size w4 (.slice (some ⟨g', 0, none⟩) n' c') ((putAllS acc (varsIn (wd.take (j + 1)))).map bs) ∧ (putAllS acc (varsIn (wd.take (j + 1)))).length = n') := Lib.hid (by rw [HPA.out]; exact ⟨hown.out.1.kept hb4, hown.out.2⟩)
            have T4 := Lib.hid (htbx.out.next hb4)
            clear hb4 hnx htbx hown CV hcx HPA
            go_wp2_with fail
            go_roundw
            case rel => exact ⟨j + 1, g', n', c', by omega, by go_num, rfl, by omega, O4, T4, B4⟩
            case measure => simp [intOf]; omega
        · obtain rfl : j = 3 := by omega
          have HN : Hid (OwnS w.heap.size wr (.slice (some ⟨g', 0, none⟩) n' c') ((allVars (ts.take (k + 1))).map bs) ∧ (allVars (ts.take (k + 1))).length = n') := Lib.hid (by
            have := hown.out
            rw [List.take_of_length_le (by omega)] at this
            rw [HS.out]; exact this)
          clear hown htbx
          go_wp2_with fail
          go_roundw
          case rel => exact ⟨k + 1, g', n', c', by omega, by go_num, rfl, by omega, HN, hnx⟩
          case measure => simp [intOf]; omega
    · obtain rfl : k = len := by omega
      have HN : Hid (OwnS w.heap.size wr (.slice (some ⟨g, 0, none⟩) n c) ((allVars ts).map bs) ∧ (allVars ts).length = n) := Lib.hid (by
        have := hown.out
        rwa [List.take_of_length_le (by rw [HL.out]; exact Nat.le_refl _)] at this)
      clear hown
      go_wp2_with fail
      go_ret
      exact ⟨g, n, c, rfl, HN.out.1, HN.out.2, hnx⟩
theorem varsT_is {ts : List Tri3} (h : bgpOk ts = true) : varsT ts = allVars ts := by unfold varsT allVars; rw [if_pos h]
end Go.Proofs.YtiajdnhmjdfeeaaGreat
namespace Go.Proofs.YtiajdnhmjdfeeaaGreat
open Go.RowKit Go.WideShapes Go.Maps
end Go.Proofs.YtiajdnhmjdfeeaaGreat
namespace Go.Proofs.YtiajdnhmjdfeeaaGreat
open Go.RowKit Go.WideShapes Go.Maps
section
variable (w : World) {ops : Array Oper} {rest : List Oper} {o : Oper} {a : Act} {Q : Exit → Act → World → Prop}
theorem wpList_putQ (hg : o.guard = none) (m x v : Operand) (hop : o.op = Op.mapUpdate 133 m x v) (b n : Nat) (ts : List Txt) (hm : a.eval m = .map (some b)) (h : OwnSetS w b n ts) (hn : n < maxLen) (t : ByteArray) (ht : t.size ≤ maxLen)
    (hx : a.eval x = .string t) (hv : a.eval v = .bool true) (hK : ∀ w', OwnSetS w' b (n + 1) (addS ts t.data.toList) → w.grownBy w' (some b) → wpList Tryz.prog ops Q rest (a.put o.dst undef) w') : wpList Tryz.prog ops Q (o :: rest) a w := by
  obtain ⟨D, hown, hD⟩ := h
  exact wpList_mapUpdate_own w hg m x v _ hop _ 4 lawTxt Tryz.underlying133 (plainElem (H := Unit) Tryz.prog 4) b n D hm hown hn _ _ (litS t.data.toList) hx hv (Go.WideMaps.keyOf_string_mk Tryz.underlying9 ht) _ [] true_elemS (fun w' h1 h2 => hK w' ⟨_, h1, hD.put (hown.tidy lawTxt) _⟩ h2)
theorem wpList_lookQ (hg : o.guard = none) (m x : Operand) (hop : o.op = Op.lookup 133 m x false) (b n : Nat) (ts : List Txt) (hm : a.eval m = .map (some b)) (h : OwnSetS w b n ts) (t : ByteArray) (ht : t.size ≤ maxLen)
    (hx : a.eval x = .string t) (hz : (zeroValue 4).run Tryz.prog w = .ok (.bool false) w) (hK : wpList Tryz.prog ops Q rest (a.put o.dst (.bool (decide (t.data.toList ∈ ts)))) w) : wpList Tryz.prog ops Q (o :: rest) a w := by
  obtain ⟨D, hown, hD⟩ := h
  refine wpList_plain hg fun K' hK' => ?_
  obtain ⟨v, ps, hrun, hv⟩ := hown.lookup lawTxt Tryz.underlying133 hz (plainElem_bool Tryz.underlying4 false) (Go.WideMaps.keyOf_string_mk Tryz.underlying9 ht)
  have hl := hD.look t.data.toList
  unfold litS at hl
  rw [hl] at hv
  obtain ⟨y, rfl, e⟩ := bool_elem_invS Tryz.underlying4 hv
  simp only [DataW.lit.injEq, Lit.bool.injEq] at e
  subst e
  unfold Oper.wp
  simp [execOp, hop, hm, hx, hrun, Result.andThen]
  exact hK' _ _ hK
end
theorem zeroBoolS (w : World) : (zeroValue 4).run Tryz.prog w = .ok (.bool false) w := by kernel_rfl
/-- A slice of texts as a value's parts, and the texts that its cells hold. -/
abbrev SlS := Option Addr × Nat × Nat × List ByteArray
def allS (LS : List SlS) : List Txt := LS.flatMap fun x => txts x.2.2.2
theorem allS_snoc (LS : List SlS) (x : SlS) : allS (LS ++ [x]) = allS LS ++ txts x.2.2.2 := by simp [allS]
theorem allS_take_le (LS : List SlS) (j : Nat) : (allS (LS.take j)).length ≤ (allS LS).length := by
  have : allS LS = allS (LS.take j) ++ allS (LS.drop j) := by unfold allS; rw [← List.flatMap_append, List.take_append_drop]
  rw [this, List.length_append]; omega
set_option maxRecDepth 100000 in
set_option maxHeartbeats 1600000 in
theorem implSetOfQ (B n : Nat) (LS : List SlS) (w : World) (hn : LS.length = n) (hB : B < w.heap.size) (hn2 : n ≤ 2) (hT : (allS LS).length ≤ 1000)
    (hLS : ∀ (i : Nat) (x : SlS), LS[i]? = some x → w.cell? ⟨B, i, none⟩ = some (.slice x.1 x.2.1 x.2.2.1) ∧ IsStrs w x.1 x.2.1 x.2.2.1 x.2.2.2 ∧ ∀ t ∈ x.2.2.2, t.size ≤ maxLen) :
    Calls Tryz.prog 106 #[.slice (some ⟨B, 0, none⟩) n n] w fun e w' => ∃ b m, e = .returned (.map (some b)) ∧ w.heap.size ≤ b ∧ m ≤ 1000 ∧ OwnSetS w' b m (addAllS [] (allS LS)) ∧ Below w.heap.size w w' := by
  have hmm := @run_makeMap Tryz.prog
  have O0 := OwnSetS.made w
  have B0 : Below w.heap.size w (w.alloc (.map #[] 0)) := (Below.refl w.heap.size w).alloc (Nat.le_refl _) _
  have HLS := Lib.hid hLS
  have HN := Lib.hid hn
  have HT := Lib.hid hT
  clear hLS hn hT
  go_enter Tryz.func106, Tryz.ntmps106
  go_wp2_with fail
  clear hmm
  go_loopw [11] (fun i wr => ∃ j : Nat, j ≤ n ∧ i = .int .i64 j ∧ Hid (OwnSetS wr w.heap.size (allS (LS.take j)).length (addAllS [] (allS (LS.take j)))) ∧ Below w.heap.size w wr) (fun i _ => n - (intOf i).toNat)
  case atStart => exact ⟨0, Nat.zero_le _, rfl, Lib.hid (by simpa [allS, addAllS] using O0), B0⟩
  case round =>
    obtain ⟨j, hj, rfl, hown, hnx⟩ := hrel
    clear O0 B0
    by_cases hlt : j < n
    · have hx : LS[j]? = some (LS[j]'(by rw [HN.out]; exact hlt)) := List.getElem?_eq_getElem (by rw [HN.out]; exact hlt)
      obtain ⟨hc, his, hsz⟩ := HLS.out j _ hx
      have HS : Hid (LS.take (j + 1) = LS.take j ++ [LS[j]'(by rw [HN.out]; exact hlt)]) := Lib.hid (List.take_succ_eq_append_getElem (by rw [HN.out]; exact hlt))
      generalize LS[j]'(by rw [HN.out]; exact hlt) = x at hx hc his HS hsz
      obtain ⟨a, len, cap, ts⟩ := x
      simp only at hc his hsz
      have HA : Hid (allS (LS.take (j + 1)) = allS (LS.take j) ++ txts ts) := Lib.hid (by rw [HS.out, allS_snoc])
      have hle := allS_take_le LS (j + 1)
      have hsum : (allS (LS.take j)).length + ts.length ≤ 1000 := by
        rw [HA.out, List.length_append, txts_len] at hle; have := HT.out; omega
      obtain ⟨p, hp⟩ : ∃ p, allS (LS.take j) = p := ⟨_, rfl⟩
      rw [hp] at HA hown hsum
      have hlen := his.len
      have hl1000 : len ≤ 1000 := by omega
      have HI := Lib.hid his
      have HL := Lib.hid hlen
      have HZ := Lib.hid hsz
      rw [← hnx.cell (p := ⟨B, j, none⟩) hB] at hc
      clear hx his hlen hp hle HS hsz
      have hj6 : (0 : Int) ≤ (j : Int) := by omega
      have hj7 : (j : Int) < (n : Int) := by omega
      go_wp2_with fail
      obtain ⟨wo, hwo⟩ : ∃ wo : World, wo = wr := ⟨_, rfl⟩
      go_loopw [17] (fun i w2 => ∃ k : Nat, k ≤ len ∧ i = .int .i64 k ∧ Hid (OwnSetS w2 w.heap.size (p.length + k) (addAllS [] (p ++ txts (ts.take k)))) ∧ Below w.heap.size w w2) (fun i _ => len - (intOf i).toNat)
      case atStart => exact ⟨0, Nat.zero_le _, rfl, Lib.hid (by simpa [txts] using hown.out), hnx⟩
      case round =>
        obtain ⟨k, hk, rfl, hown2, hnx2⟩ := hrel
        clear hown hnx hc hwo
        by_cases hlt2 : k < len
        · obtain ⟨b, off, rfl, hb, hl, hm, hts, hcs⟩ := HI.out.cells (by omega)
          have ht : ts[k]? = some (ts[k]'(by omega)) := List.getElem?_eq_getElem (by omega)
          have HS : Hid (ts.take (k + 1) = ts.take k ++ [ts[k]'(by omega)]) := Lib.hid (List.take_succ_eq_append_getElem (by omega))
          have c0 := hcs k _ ht
          have hsk := HZ.out (ts[k]'(by omega)) (List.getElem_mem _)
          generalize ts[k]'(by omega) = t at ht c0 hsk HS
          have HX : Hid (addAllS [] (p ++ txts (ts.take (k + 1))) = addS (addAllS [] (p ++ txts (ts.take k))) t.data.toList) := Lib.hid (by rw [HS.out, txts_snoc, ← List.append_assoc, addAllS_snoc])
          obtain ⟨acc, hacc⟩ : ∃ acc, addAllS [] (p ++ txts (ts.take k)) = acc := ⟨_, rfl⟩
          rw [hacc] at HX hown2
          rw [← hnx2.cell (p := ⟨b, _, none⟩) hb] at c0
          clear ht hts hcs hacc HS
          have hk6 : (0 : Int) ≤ (k : Int) := by omega
          have hk7 : (k : Int) < (len : Int) := by omega
          have hml : p.length + k < maxLen := by unfold maxLen; omega
          go_wp2_with (at_mapUpdate; refine wpList_putQ _ rfl _ _ _ rfl w.heap.size (p.length + k) acc rfl hown2.out hml t hsk rfl rfl ?_)
          intro w4 hown4 hg4
          have B4 : Below w.heap.size w w4 := hnx2.grown hg4 hnx2.size (fun r e => by cases e; exact Nat.le_refl _)
          have H4 : Hid (OwnSetS w4 w.heap.size (p.length + (k + 1)) (addAllS [] (p ++ txts (ts.take (k + 1))))) := Lib.hid (by rw [HX.out]; exact hown4)
          clear hown4 hg4 hnx2 hown2 HX c0
          go_wp2_with fail
          go_roundw
          case rel => exact ⟨k + 1, by omega, by go_num, H4, B4⟩
          case measure => simp [intOf]; omega
        · obtain rfl : k = len := by omega
          have H4 : Hid (OwnSetS wr w.heap.size (allS (LS.take (j + 1))).length (addAllS [] (allS (LS.take (j + 1))))) := Lib.hid (by
            have := hown2.out
            rw [List.take_of_length_le (by rw [HL.out]; exact Nat.le_refl _)] at this
            rw [HA.out, List.length_append, txts_len, HL.out]; exact this)
          clear hown2
          go_wp2_with fail
          go_roundw
          case rel => exact ⟨j + 1, by omega, by go_num, H4, hnx2⟩
          case measure => simp [intOf]; omega
    · obtain rfl : j = n := by omega
      have H4 : Hid (OwnSetS wr w.heap.size (allS LS).length (addAllS [] (allS LS))) := Lib.hid (by
        have := hown.out
        rwa [List.take_of_length_le (by rw [HN.out]; exact Nat.le_refl _)] at this)
      go_wp2_with fail
      go_ret
      exact ⟨_, _, rfl, Nat.le_refl _, HT.out, H4.out, hnx⟩
set_option maxRecDepth 100000 in
set_option maxHeartbeats 1600000 in
theorem implHasQ (b m : Nat) (us : List Txt) (s : ByteArray) (w : World) (h : OwnSetS w b m us) (hs : s.size ≤ maxLen) :
    Calls Tryz.prog 149 #[.map (some b), .string s] w fun e w' => e = .returned (.bool (decide (s.data.toList ∈ us))) ∧ Below w.heap.size w w' := by
  have O0 := Lib.hid h
  have HZ := Lib.hid zeroBoolS
  clear h
  go_enter Tryz.func149, Tryz.ntmps149
  go_wp2_with (at_lookup; refine wpList_lookQ _ rfl _ _ rfl b m us rfl O0.out s hs rfl (HZ.out _) ?_)
  go_ret
  exact ⟨rfl, Below.refl _ _⟩
set_option maxRecDepth 100000 in
set_option maxHeartbeats 1600000 in
theorem implHasAllQ1 (b m q : Nat) (us : List Txt) (s : ByteArray) (w : World) (h : OwnSetS w b m us) (hq : w.cell? ⟨q, 0, none⟩ = some (.map (some b))) (hs : s.size ≤ maxLen) :
    Calls Tryz.prog 148 #[.string s, .pointer (some ⟨q, 0, none⟩)] w fun e w' => e = .returned (.bool (!decide (s.data.toList ∈ us))) ∧ Below w.heap.size w w' := by
  have C := Lib.hid (implHasQ b m us s w h hs)
  clear h
  generalize decide (s.data.toList ∈ us) = bb at C ⊢
  go_enter Tryz.func148, Tryz.ntmps148
  go_wp2_with fail
  refine C.out.mono ?_
  rintro e w1 ⟨rfl, hb⟩
  cases bb
  all_goals
    go_wp2_with fail
    go_ret
    exact ⟨rfl, hb⟩
set_option maxRecDepth 100000 in
set_option maxHeartbeats 1600000 in
theorem implIndexAllQ (b m q : Nat) (us : List Txt) (a : Option Addr) (len cap : Nat) (ts : List ByteArray) (w : World) (hS : OwnSetS w b m us) (hq : w.cell? ⟨q, 0, none⟩ = some (.map (some b))) (h : IsStrs w a len cap ts) (hz : ∀ t ∈ ts, t.size ≤ maxLen) (hl : len ≤ 1048576) :
    Calls Tryz.prog 175 #[.slice a len cap, .func (.func 148) #[] #[.pointer (some ⟨q, 0, none⟩)]] w fun e w' => ∃ i : Int, e = .returned (.int .i64 i) ∧ decide (0 ≤ i) = (txts ts).any (fun t => !decide (t ∈ us)) ∧ Below w.heap.size w w' := by
  have H := Lib.hid h
  have HS := Lib.hid hS
  have HT := Lib.hid h.len
  have HZ := Lib.hid hz
  clear h hS hz
  go_enter Tryz.func175, Tryz.ntmps175
  go_wp2_with fail
  go_loopw [5, 8] (fun _ i wr => ∃ k : Nat, k ≤ len ∧ i = .int .i64 k ∧ Hid (∀ u ∈ ts.take k, (!decide (u.data.toList ∈ us)) = false) ∧ Below w.heap.size w wr) (fun _ i _ => len - (intOf i).toNat)
  case atStart => exact ⟨0, Nat.zero_le _, rfl, Lib.hid (by simp), Below.refl _ _⟩
  case round =>
    obtain ⟨k, hk, rfl, hno, hnx⟩ := hrel
    have hk6 : (0 : Int) ≤ (k : Int) := by omega
    by_cases hlt : k < len
    · have hk7 : (k : Int) < (len : Int) := by omega
      obtain ⟨b1, off, rfl, hb, _, _, hts, hcs⟩ := H.out.cells (by omega)
      have ht : ts[k]? = some (ts[k]'(by omega)) := List.getElem?_eq_getElem (by omega)
      have HX : Hid (ts.take (k + 1) = ts.take k ++ [ts[k]'(by omega)]) := Lib.hid (List.take_succ_eq_append_getElem (by omega))
      have d0 := hcs k _ ht
      have m0 := HZ.out (ts[k]'(by omega)) (List.getElem_mem _)
      rw [← hnx.cell (p := ⟨b1, _, none⟩) hb] at d0
      generalize ts[k]'(by omega) = u at ht d0 m0 HX
      have C := implHasAllQ1 b m q us u wr (HS.out.next hnx) ((hnx.cell (World.block_lt_of_cell? _ _ hq)).trans hq) m0
      have HTK := Lib.hid ht
      clear hts hcs m0 ht
      cases hq2 : (!decide (u.data.toList ∈ us))
      · rw [show (!decide (u.data.toList ∈ us)) = false from hq2] at C
        have HN : Hid (∀ u ∈ ts.take (k + 1), (!decide (u.data.toList ∈ us)) = false) := Lib.hid (by
          rw [HX.out]
          intro v hv
          rcases List.mem_append.1 hv with g | g
          · exact hno.out v g
          · rw [List.mem_singleton.1 g]; exact hq2)
        have HC := Lib.hid C
        clear C hq2 hno HX
        go_wp2_with fail
        refine HC.out.mono ?_
        rintro e w1 ⟨rfl, hb1⟩
        have B := hnx.trans (hb1.mono hnx.size)
        clear hb1 hnx d0
        go_wp2_with fail
        go_roundw
        case rel => exact ⟨k + 1, by omega, by go_num, HN, B⟩
        case measure => simp [intOf]; omega
      · rw [show (!decide (u.data.toList ∈ us)) = true from hq2] at C
        have HR : Hid (decide ((0 : Int) ≤ (k : Int)) = (txts ts).any (fun t => !decide (t ∈ us))) := Lib.hid (by
          rw [decide_eq_true hk6]
          exact (List.any_eq_true.2 ⟨u.data.toList, List.mem_map.2 ⟨u, List.mem_of_getElem? HTK.out, rfl⟩, hq2⟩).symm)
        have HC := Lib.hid C
        clear C HX hq2
        go_wp2_with fail
        refine HC.out.mono ?_
        rintro e w1 ⟨rfl, hb1⟩
        have B := hnx.trans (hb1.mono hnx.size)
        clear hb1 hnx d0
        go_wp2_with fail
        go_ret
        exact ⟨k, rfl, HR.out, B⟩
    · obtain rfl : k = len := by omega
      have HR : Hid (decide ((0 : Int) ≤ -1) = (txts ts).any (fun t => !decide (t ∈ us))) := Lib.hid (by
        have h1 := hno.out
        rw [List.take_of_length_le (by rw [HT.out]; exact Nat.le_refl _)] at h1
        have : (txts ts).any (fun t => !decide (t ∈ us)) = false := List.any_eq_false.2 fun t ht => by
          obtain ⟨u, hu, rfl⟩ := List.mem_map.1 ht
          rw [h1 u hu]; simp
        rw [this]; rfl)
      clear hno
      go_wp2_with fail
      go_ret
      exact ⟨-1, rfl, HR.out, hnx⟩
set_option maxRecDepth 100000 in
theorem implContainsAllQ (b m q : Nat) (us : List Txt) (a : Option Addr) (len cap : Nat) (ts : List ByteArray) (w : World) (hS : OwnSetS w b m us) (hq : w.cell? ⟨q, 0, none⟩ = some (.map (some b))) (h : IsStrs w a len cap ts) (hz : ∀ t ∈ ts, t.size ≤ maxLen) (hl : len ≤ 1048576) :
    Calls Tryz.prog 147 #[.slice a len cap, .func (.func 148) #[] #[.pointer (some ⟨q, 0, none⟩)]] w fun e w' => e = .returned (.bool ((txts ts).any fun t => !decide (t ∈ us))) ∧ Below w.heap.size w w' := by
  have C := Lib.hid (implIndexAllQ b m q us a len cap ts w hS hq h hz hl)
  clear h hS hz
  generalize (txts ts).any (fun t => !decide (t ∈ us)) = bb at C ⊢
  go_enter Tryz.func147, Tryz.ntmps147
  go_wp2_with fail
  refine C.out.mono ?_
  rintro e w1 ⟨i, rfl, hi, hb⟩
  subst hi
  go_wp2_with fail
  go_ret
  exact ⟨rfl, hb⟩
/-- All of some are there. -/
def subS (us ts : List Txt) : Bool := ts.all fun t => decide (t ∈ us)
theorem subS_any (us ts : List Txt) : subS us ts = !(ts.any fun t => !decide (t ∈ us)) := by
  unfold subS
  rw [List.not_any_eq_all_not]
  congr 1
  funext t
  simp
set_option maxRecDepth 100000 in
theorem implHasAllQ (b m : Nat) (us : List Txt) (a : Option Addr) (len cap : Nat) (ts : List ByteArray) (w : World) (hS : OwnSetS w b m us) (h : IsStrs w a len cap ts) (hz : ∀ t ∈ ts, t.size ≤ maxLen) (hl : len ≤ 1048576) :
    Calls Tryz.prog 107 #[.map (some b), .slice a len cap] w fun e w' => e = .returned (.bool (subS us (txts ts))) ∧ Below w.heap.size w w' := by
  have B0 := (Below.refl w.heap.size w).alloc (Nat.le_refl _) (.cells #[.map (some b)] 133)
  have C := Lib.hid (implContainsAllQ b m w.heap.size us a len cap ts _ (hS.alloc (.cells #[.map (some b)] 133)) (by simp) (h.next B0) hz hl)
  have HR := Lib.hid (subS_any us (txts ts))
  clear h hS hz
  go_enter Tryz.func107, Tryz.ntmps107
  go_wp2_with fail
  refine C.out.mono ?_
  rintro e w1 ⟨rfl, hb⟩
  generalize ((txts ts).any fun t => !decide (t ∈ us)) = bb at HR
  have B1 := B0.trans (hb.mono B0.size)
  clear hb B0 C
  cases bb
  all_goals
    go_wp2_with fail
    go_ret
    exact ⟨by rw [HR.out]; rfl, B1⟩
end Go.Proofs.YtiajdnhmjdfeeaaGreat
