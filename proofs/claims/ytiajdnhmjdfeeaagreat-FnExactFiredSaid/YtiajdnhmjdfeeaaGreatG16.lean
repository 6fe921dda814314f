/- The contracts of the functions that tell whether a list of patterns is right. -/
import Derived.Test.YtiajdnhmjdfeeaaGreatG15
import Derived.Test.YtiajdnhmjdfeeaaGreatG11
import Derived.StillTailTactics
namespace Go.Proofs.YtiajdnhmjdfeeaaGreat
open Go.RowKit Go.WideShapes
set_option maxRecDepth 100000 in
set_option maxHeartbeats 1600000 in
theorem implBgpOk (a : Option Addr) (len cap : Nat) (ts : List Tri3) (w : World) (h : IsTris w a len cap ts) (hsm : Sm ts) :
    Calls Tryz.prog 74 #[.slice a len cap] w fun e w' => e = .returned (.bool (bgpOk ts)) ∧ Below w.heap.size w w' := by
  have hts := h.len
  have hlen : len ≤ 9223372036854775807 := by
    rcases h with ⟨_, rfl, _, _⟩ | ⟨_, _, h1, h2, _⟩
    · omega
    · unfold maxLen at h2; omega
  by_cases g4 : (4 : Int) < len
  · have HG : Hid (bgpOk ts = false) := Lib.hid (by unfold bgpOk; rw [decide_eq_false (by omega)]; rfl)
    clear h hsm hts
    go_enter Tryz.func74, Tryz.ntmps74
    go_wp2_with fail
    go_ret
    exact ⟨by rw [HG.out]; rfl, Below.refl _ _⟩
  have HG : Hid (bgpOk ts = ts.all patT) := Lib.hid (by unfold bgpOk; rw [decide_eq_true (by omega)]; rfl)
  have HT := Lib.hid hts
  have H := Lib.hid h
  have HM := Lib.hid hsm
  clear hts h hsm
  go_enter Tryz.func74, Tryz.ntmps74
  go_wp2_with fail
  go_loopw [10] (fun i wr => ∃ k : Nat, k ≤ len ∧ i = .int .i64 k ∧ Hid ((ts.take k).all patT = true) ∧ Below w.heap.size w wr) (fun i _ => len - (intOf i).toNat)
  case atStart => exact ⟨0, Nat.zero_le _, rfl, Lib.hid rfl, Below.refl _ _⟩
  case round =>
    obtain ⟨k, hk, rfl, hok, hnx⟩ := hrel
    by_cases hlt : k < len
    · obtain ⟨b, off, rfl, hb, hl, hm, hts, hc⟩ := H.out.cells (by omega)
      have ht : ts[k]? = some ts[k] := List.getElem?_eq_getElem (by omega)
      have hmm := HM.out ts[k] (List.getElem_mem _)
      obtain ⟨c0, c1, c2, m0, m1, m2⟩ := hc k _ ht
      clear m0 m1 m2
      rw [← hnx.cell (p := ⟨b, _, none⟩) hb] at c0 c1 c2
      obtain ⟨t, htt⟩ : ∃ t, ts[k] = t := ⟨_, rfl⟩
      rw [htt] at c0 c1 c2 ht hmm
      clear htt
      obtain ⟨s1, s2, s3⟩ := hmm
      have A1 := implPatternOk t.1 t.2.1 t.2.2 s1 s2 s3
      change ∀ w, Calls _ _ _ w fun e w' => e = .returned (.bool (patT t)) ∧ Below w.heap.size w w' at A1
      have l0 : b < wr.heap.size := Nat.lt_of_lt_of_le hb hnx.size
      have T0 := Box.new wr (.string t.1) (.string t.2.1) (.string t.2.2) 65
      cases hq : patT t
      · have HR : Hid (bgpOk ts = false) := Lib.hid (by rw [HG.out]; exact pat_no ht hq)
        rw [hq] at A1
        have C1 := Lib.hid A1
        clear A1 hq ht hts hc hm
        obtain ⟨e0, e1, e2⟩ := T0.cells
        go_wp2_with fail
        refine (C1.out _).mono ?_
        rintro e wn ⟨rfl, hx⟩
        have B : Below w.heap.size w wn := (hnx.alloc hnx.size _).trans (hx.mono (by have := hnx.size; simp; omega))
        clear hx hnx c0 c1 c2 T0 e0 e1 e2
        go_wp2_with fail
        go_ret
        exact ⟨by rw [HR.out]; rfl, B⟩
      · have HN : Hid ((ts.take (k + 1)).all patT = true) := Lib.hid (by rw [pat_step ht hok.out]; exact hq)
        rw [hq] at A1
        have C1 := Lib.hid A1
        clear A1 hq ht hts hc hm
        obtain ⟨e0, e1, e2⟩ := T0.cells
        go_wp2_with fail
        refine (C1.out _).mono ?_
        rintro e wn ⟨rfl, hx⟩
        have B : Below w.heap.size w wn := (hnx.alloc hnx.size _).trans (hx.mono (by have := hnx.size; simp; omega))
        clear hx hnx c0 c1 c2 T0 e0 e1 e2
        go_wp2_with fail
        go_roundw
        case rel => exact ⟨k + 1, by omega, by go_num, HN, B⟩
        case measure => simp [intOf]; omega
    · have HF : Hid (bgpOk ts = true) := Lib.hid (by
        have := hok.out
        rw [List.take_of_length_le (by have := HT.out; omega)] at this
        rw [HG.out]; exact this)
      go_wp2_with fail
      go_ret
      exact ⟨by rw [HF.out]; rfl, hnx⟩
set_option maxRecDepth 100000 in
set_option maxHeartbeats 1600000 in
theorem specBgpOk (a : Option Addr) (len cap : Nat) (ts : List Tri3) (w : World) (h : IsTris w a len cap ts) (hsm : Sm ts) :
    Calls Tryz.prog 98 #[.slice a len cap] w fun e w' => e = .returned (.bool (bgpOk ts)) ∧ Below w.heap.size w w' := by
  have hts := h.len
  have hlen : len ≤ 9223372036854775807 := by
    rcases h with ⟨_, rfl, _, _⟩ | ⟨_, _, h1, h2, _⟩
    · omega
    · unfold maxLen at h2; omega
  have HT := Lib.hid hts
  have H := Lib.hid h
  have HM := Lib.hid hsm
  clear hts h hsm
  go_enter Tryz.func98, Tryz.ntmps98
  go_wp2_with fail
  go_loopw [3] (fun i wr => ∃ k : Nat, k ≤ len ∧ i = .int .i64 k ∧ Hid ((ts.take k).all patT = true) ∧ Below w.heap.size w wr) (fun i _ => len - (intOf i).toNat)
  case atStart => exact ⟨0, Nat.zero_le _, rfl, Lib.hid rfl, Below.refl _ _⟩
  case round =>
    obtain ⟨k, hk, rfl, hok, hnx⟩ := hrel
    by_cases hlt : k < len
    · obtain ⟨b, off, rfl, hb, hl, hm, hts, hc⟩ := H.out.cells (by omega)
      have ht : ts[k]? = some ts[k] := List.getElem?_eq_getElem (by omega)
      have hmm := HM.out ts[k] (List.getElem_mem _)
      obtain ⟨c0, c1, c2, m0, m1, m2⟩ := hc k _ ht
      clear m0 m1 m2
      rw [← hnx.cell (p := ⟨b, _, none⟩) hb] at c0 c1 c2
      obtain ⟨t, htt⟩ : ∃ t, ts[k] = t := ⟨_, rfl⟩
      rw [htt] at c0 c1 c2 ht hmm
      clear htt
      obtain ⟨s1, s2, s3⟩ := hmm
      have A1 := specPattern t.1 t.2.1 t.2.2 s1 s2 s3
      change ∀ w, Calls _ _ _ w fun e w' => e = .returned (.bool (patT t)) ∧ Below w.heap.size w w' at A1
      cases hq : patT t
      · have HR : Hid (bgpOk ts = false) := Lib.hid (by unfold bgpOk; rw [pat_no ht hq, Bool.and_false])
        rw [hq] at A1
        have C1 := Lib.hid A1
        clear A1 hq ht hts hc hm
        go_wp2_with fail
        refine (C1.out _).mono ?_
        rintro e wn ⟨rfl, hx⟩
        have B : Below w.heap.size w wn := hnx.trans (hx.mono hnx.size)
        clear hx hnx c0 c1 c2
        go_wp2_with fail
        go_ret
        exact ⟨by rw [HR.out]; rfl, B⟩
      · have HN : Hid ((ts.take (k + 1)).all patT = true) := Lib.hid (by rw [pat_step ht hok.out]; exact hq)
        rw [hq] at A1
        have C1 := Lib.hid A1
        clear A1 hq ht hts hc hm
        go_wp2_with fail
        refine (C1.out _).mono ?_
        rintro e wn ⟨rfl, hx⟩
        have B : Below w.heap.size w wn := hnx.trans (hx.mono hnx.size)
        clear hx hnx c0 c1 c2
        go_wp2_with fail
        go_roundw
        case rel => exact ⟨k + 1, by omega, by go_num, HN, B⟩
        case measure => simp [intOf]; omega
    · have HF : Hid (bgpOk ts = decide ((len : Int) ≤ 4)) := Lib.hid (by
        have := hok.out
        rw [List.take_of_length_le (by have := HT.out; omega)] at this
        unfold bgpOk
        rw [this, Bool.and_true, HT.out]
        exact decide_eq_decide.2 (by omega))
      by_cases h80 : (len : Int) ≤ 4
      · go_wp2_with fail
        go_ret
        exact ⟨by rw [HF.out, decide_eq_true h80]; rfl, hnx⟩
      · go_wp2_with fail
        go_ret
        exact ⟨by rw [HF.out, decide_eq_false (by omega)]; rfl, hnx⟩
end Go.Proofs.YtiajdnhmjdfeeaaGreat
/- The variables of patterns: the program's way. -/
namespace Go.Proofs.YtiajdnhmjdfeeaaGreat
open Go.RowKit Go.WideShapes Go.Maps
def wordsT (t : Tri3) : List ByteArray := [t.1, t.2.1, t.2.2]
def varsIn (l : List ByteArray) : List Txt := (l.map fun s => s.data.toList).filter isVarK
def varWords (ts : List Tri3) : List Txt := ts.flatMap fun t => varsIn (wordsT t)
def varsT (ts : List Tri3) : List Txt := if bgpOk ts = true then putAllS [] (varWords ts) else []
theorem varWords_snoc (ts : List Tri3) (t : Tri3) : varWords (ts ++ [t]) = varWords ts ++ varsIn (wordsT t) := by simp [varWords]
theorem varsIn_snoc (l : List ByteArray) (s : ByteArray) : varsIn (l ++ [s]) = varsIn l ++ (if isVarK s.data.toList then [s.data.toList] else []) := by
  unfold varsIn; simp [List.filter_cons]
theorem varsIn_len (l : List ByteArray) : (varsIn l).length ≤ l.length := by
  unfold varsIn; exact Nat.le_trans (List.length_filter_le _ _) (by simp)
theorem varWords_len (ts : List Tri3) : (varWords ts).length ≤ 3 * ts.length := by
  induction ts with
  | nil => simp [varWords]
  | cons t r ih =>
    have h3 : (varsIn (wordsT t)).length ≤ 3 := varsIn_len (wordsT t)
    simp only [varWords, List.flatMap_cons, List.length_append, List.length_cons] at *
    omega
theorem implParts (s p o : ByteArray) (w : World) : Calls Tryz.prog 82 #[.agg #[.string s, .string p, .string o]] w fun e w' => e = .returned (.agg #[.string s, .string p, .string o]) ∧ Below w.heap.size w w' := by
  go_enter Tryz.func82, Tryz.ntmps82
  go_wp2_with fail
  refine bodyPost_ret (v := .agg #[.string s, .string p, .string o]) (by simp [results, Tryz.results82, go_sem, *]) rfl ⟨rfl, ?_⟩
  exact ((Below.refl _ _).alloc (Nat.le_refl _) _).alloc (by simp) _
theorem index30 (s p o : ByteArray) (w : World) : (Instr.index 116 (.agg #[.string s, .string p, .string o]) (.int .i64 0)).run Tryz.prog w = .ok (.string s) w := by kernel_rfl
theorem index31 (s p o : ByteArray) (w : World) : (Instr.index 116 (.agg #[.string s, .string p, .string o]) (.int .i64 1)).run Tryz.prog w = .ok (.string p) w := by kernel_rfl
theorem index32 (s p o : ByteArray) (w : World) : (Instr.index 116 (.agg #[.string s, .string p, .string o]) (.int .i64 2)).run Tryz.prog w = .ok (.string o) w := by kernel_rfl
theorem index3 (s p o : ByteArray) (j : Nat) (x : ByteArray) (h : (wordsT (s, p, o))[j]? = some x) (w : World) : (Instr.index 116 (.agg #[.string s, .string p, .string o]) (.int .i64 (j : Int))).run Tryz.prog w = .ok (.string x) w := by
  have hj : j = 0 ∨ j = 1 ∨ j = 2 := by
    have := (List.getElem?_eq_some_iff.1 h).1
    simp only [wordsT, List.length_cons, List.length_nil] at this; omega
  rcases hj with rfl | rfl | rfl
  · obtain rfl : s = x := by simpa [wordsT] using h
    exact index30 _ _ _ w
  · obtain rfl : p = x := by simpa [wordsT] using h
    exact index31 _ _ _ w
  · obtain rfl : o = x := by simpa [wordsT] using h
    exact index32 _ _ _ w
set_option maxRecDepth 100000 in
set_option maxHeartbeats 3200000 in
theorem implVarsOf (a : Option Addr) (len cap : Nat) (ts : List Tri3) (w : World) (h : IsTris w a len cap ts) (hsm : Sm ts) :
    Calls Tryz.prog 30 #[.slice a len cap] w fun e w' => ∃ v, e = .returned v ∧ OwnS w.heap.size w' v ((varsT ts).map bs) ∧ Below w.heap.size w w' := by
  have C' := implBgpOk a len cap ts w h hsm
  have HL := Lib.hid h.len
  have HM := Lib.hid hsm
  have H := Lib.hid h
  clear h hsm
  unfold varsT
  cases hq : bgpOk ts
  · rw [hq] at C'
    have C := Lib.hid C'
    clear C' hq
    go_enter Tryz.func30, Tryz.ntmps30
    go_wp2_with fail
    refine C.out.mono ?_
    rintro e w1 ⟨rfl, hb⟩
    go_wp2_with fail
    go_ret
    exact ⟨.slice none 0 0, rfl, ⟨rfl, .inl ⟨rfl, rfl⟩⟩, hb⟩
  have hl4 : ts.length ≤ 4 := by unfold bgpOk at hq; simp only [Bool.and_eq_true, decide_eq_true_eq] at hq; exact hq.1
  have hlen : len ≤ 4 := by have := HL.out; omega
  have hmm := @run_makeMap Tryz.prog
  rw [hq] at C'
  have C := Lib.hid C'
  clear C' hq
  go_enter Tryz.func30, Tryz.ntmps30
  go_wp2_with fail
  refine C.out.mono ?_
  rintro e w1 ⟨rfl, hb⟩
  have O0 := Lib.hid (OwnSetS.made w1)
  have B0 := hb.alloc hb.size (.map #[] 0)
  have HB1 := Lib.hid hb.size
  clear hb
  go_wp2_with fail
  clear hmm
  go_loopw [14] (fun i wr => ∃ k n : Nat, k ≤ len ∧ i = .int .i64 k ∧ n ≤ 3 * k ∧ Hid (OwnSetS wr w1.heap.size n (addAllS [] (varWords (ts.take k)))) ∧ Below w.heap.size w wr) (fun i _ => len - (intOf i).toNat)
  case atStart => exact ⟨0, 0, Nat.zero_le _, rfl, Nat.le_refl _, by simpa [varWords, addAllS] using O0, B0⟩
  case round =>
    obtain ⟨k, n, hk, rfl, hn, hown, hnx⟩ := hrel
    clear O0 B0
    by_cases hlt : k < len
    · obtain ⟨b, off, rfl, hb, _, _, hts, hcs⟩ := H.out.cells (by omega)
      have ht : ts[k]? = some (ts[k]'(by omega)) := List.getElem?_eq_getElem (by omega)
      obtain ⟨d0, d1, d2, m0, m1, m2⟩ := hcs k _ ht
      have HS : Hid (varWords (ts.take (k + 1)) = varWords (ts.take k) ++ varsIn (wordsT (ts[k]'(by omega)))) := Lib.hid (by rw [List.take_succ_eq_append_getElem (by omega), varWords_snoc])
      have hsm := HM.out (ts[k]'(by omega)) (List.getElem_mem _)
      rw [← hnx.cell (p := ⟨b, _, none⟩) hb] at d0 d1 d2
      generalize ts[k]'(by omega) = t at ht d0 d1 d2 HS m0 m1 m2 hsm
      obtain ⟨s, p, o⟩ := t
      try simp only at d0 d1 d2
      try simp only at m0 m1 m2
      have hk6 : (0 : Int) ≤ (k : Int) := by omega
      have hk7 : (k : Int) < (len : Int) := by omega
      have E2 := Box.new wr (.string s) (.string p) (.string o) 65
      have B2 := hnx.alloc hnx.size (.cells #[.string s, .string p, .string o] 65)
      have O2 := hown.out.alloc (.cells #[.string s, .string p, .string o] 65)
      obtain ⟨z0, z1, z2⟩ := E2.cells
      have CP := Lib.hid (fun W => implParts s p o W)
      clear ht hts hcs hown hnx
      go_wp2_with fail
      refine (CP.out _).mono ?_
      rintro e w2 ⟨rfl, hb2⟩
      have B3 := B2.trans (hb2.mono B2.size)
      have O3 := Lib.hid (O2.next hb2)
      clear hb2 B2 O2 E2 z0 z1 z2 d0 d1 d2 CP
      have hX : ∀ (j : Nat) (x : ByteArray), (wordsT (s, p, o))[j]? = some x → x.size ≤ 2097152 ∧ x.size ≤ maxLen := by
        intro j x hx
        have hj : j = 0 ∨ j = 1 ∨ j = 2 := by
          have := (List.getElem?_eq_some_iff.1 hx).1
          simp only [wordsT, List.length_cons, List.length_nil] at this; omega
        obtain ⟨q1, q2, q3⟩ := hsm
        try simp only at q1 q2 q3
        rcases hj with rfl | rfl | rfl
        · obtain rfl : s = x := by simpa [wordsT] using hx
          exact ⟨q1, m0⟩
        · obtain rfl : p = x := by simpa [wordsT] using hx
          exact ⟨q2, m1⟩
        · obtain rfl : o = x := by simpa [wordsT] using hx
          exact ⟨q3, m2⟩
      have HX := Lib.hid hX
      clear hX hsm m0 m1 m2
      obtain ⟨base, hbase⟩ : ∃ l, varWords (ts.take k) = l := ⟨_, rfl⟩
      rw [hbase] at HS O3
      clear hbase
      obtain ⟨wd, hwd⟩ : ∃ l, wordsT (s, p, o) = l := ⟨_, rfl⟩
      have hwl : wd.length = 3 := by rw [← hwd]; rfl
      rw [hwd] at HS HX
      have HWD := Lib.hid hwd
      clear hwd
      go_wp2_with fail
      obtain ⟨wo, hwo⟩ : ∃ wo : World, wo = wr := ⟨_, rfl⟩
      go_loopw [20] (fun i w3 => ∃ j m : Nat, j ≤ 3 ∧ i = .int .i64 j ∧ m ≤ n + j ∧ Hid (OwnSetS w3 w1.heap.size m (addAllS [] (base ++ varsIn (wd.take j)))) ∧ Below w.heap.size w w3) (fun i _ => 3 - (intOf i).toNat)
      case atStart => exact ⟨0, n, by omega, rfl, by omega, by simpa [varsIn] using O3, B3⟩
      case round =>
        obtain ⟨j, m, hj, rfl, hm, hown, hnx⟩ := hrel
        clear O3 B3 hwo
        by_cases hlj : j < 3
        · have hxx : wd[j]? = some (wd[j]'(by omega)) := List.getElem?_eq_getElem (by omega)
          obtain ⟨x, hxe⟩ : ∃ x, wd[j]'(by omega) = x := ⟨_, rfl⟩
          have HT1 : Hid (varsIn (wd.take (j + 1)) = varsIn (wd.take j) ++ (if isVarK x.data.toList then [x.data.toList] else [])) := Lib.hid (by rw [List.take_succ_eq_append_getElem (by omega), hxe, varsIn_snoc])
          rw [hxe] at hxx
          obtain ⟨hx1, hx2⟩ := HX.out j x hxx
          have hidx := index3 s p o j x (by rw [HWD.out]; exact hxx)
          have CV' := implIsVar x hx1
          have hj6 : (0 : Int) ≤ (j : Int) := by omega
          have hj7 : (j : Int) < 3 := by omega
          clear hxx hxe
          obtain ⟨bb, hbb⟩ : ∃ bb, isVarK x.data.toList = bb := ⟨_, rfl⟩
          rw [hbb] at CV' HT1
          have CV := Lib.hid CV'
          clear CV' hbb
          go_wp2_with fail
          clear hidx
          refine (CV.out _).mono ?_
          rintro e w4 ⟨rfl, hb4⟩
          have B4 := hnx.trans (hb4.mono hnx.size)
          have O4 := Lib.hid (hown.out.next hb4)
          clear hb4 hnx hown CV
          cases bb
          · have HN : Hid (OwnSetS w4 w1.heap.size m (addAllS [] (base ++ varsIn (wd.take (j + 1))))) := Lib.hid (by rw [HT1.out]; simpa using O4.out)
            clear O4 HT1
            go_wp2_with fail
            go_roundw
            case rel => exact ⟨j + 1, m, by omega, by go_num, by omega, HN, B4⟩
            case measure => simp [intOf]; omega
          · have hml : m < maxLen := by unfold maxLen; omega
            go_wp2_with (at_mapUpdate; refine wpList_putS _ rfl _ _ _ rfl w1.heap.size m (addAllS [] (base ++ varsIn (wd.take j))) rfl O4.out hml x hx2 rfl rfl ?_)
            intro w5 hown5 hg5
            have B5 : Below w.heap.size w w5 := B4.grown hg5 B4.size (fun r e => by cases e; exact HB1.out)
            have HN : Hid (OwnSetS w5 w1.heap.size (m + 1) (addAllS [] (base ++ varsIn (wd.take (j + 1))))) := Lib.hid (by rw [HT1.out]; simp only [if_true]; rw [← List.append_assoc, addAllS_snoc]; exact hown5)
            clear hown5 hg5 O4 B4 HT1
            go_wp2_with fail
            go_roundw
            case rel => exact ⟨j + 1, m + 1, by omega, by go_num, by omega, HN, B5⟩
            case measure => simp [intOf]; omega
        · obtain rfl : j = 3 := by omega
          have HN : Hid (OwnSetS wr w1.heap.size m (addAllS [] (varWords (ts.take (k + 1))))) := Lib.hid (by
            have := hown.out
            rw [List.take_of_length_le (by omega)] at this
            rw [HS.out]; exact this)
          clear hown
          go_wp2_with fail
          go_roundw
          case rel => exact ⟨k + 1, m, by omega, by go_num, by omega, HN, hnx⟩
          case measure => simp [intOf]; omega
    · obtain rfl : k = len := by omega
      have HN : Hid (OwnSetS wr w1.heap.size n (addAllS [] (varWords ts))) := Lib.hid (by
        have := hown.out
        rwa [List.take_of_length_le (by rw [HL.out]; exact Nat.le_refl _)] at this)
      have hlw := varWords_len ts
      have hla := addAllS_len (varWords ts) []
      have SK := Lib.hid (sortedTxt w1.heap.size n (addAllS [] (varWords ts)) wr HN.out (by simp at hla; omega))
      clear hown hla hlw
      go_wp2_with fail
      refine (keysTxt _ _).mono ?_
      rintro e w6 ⟨rfl, rfl⟩
      go_wp2_with fail
      refine SK.out.mono ?_
      rintro e w7 ⟨v, rfl, o7, hb7⟩
      rw [sorted_words] at o7
      have B7 := hnx.trans (hb7.mono hnx.size)
      have O7 := Lib.hid (ownS_base o7 hnx.size)
      clear o7 hb7 SK
      go_wp2_with fail
      go_ret
      exact ⟨v, rfl, by simpa using O7.out, B7⟩
end Go.Proofs.YtiajdnhmjdfeeaaGreat
/- The variables of patterns: the specification's way. -/
namespace Go.Proofs.YtiajdnhmjdfeeaaGreat
open Go.RowKit Go.WideShapes Go.Maps
theorem box_word {w : World} {g : Nat} {s p o : ByteArray} {T : TypeId} (h : Box w g (.string s) (.string p) (.string o) T) (j : Nat) (x : ByteArray) (hx : (wordsT (s, p, o))[j]? = some x) : w.cell? ⟨g, j, none⟩ = some (.string x) := by
  obtain ⟨c0, c1, c2⟩ := h.cells
  have hj : j = 0 ∨ j = 1 ∨ j = 2 := by
    have := (List.getElem?_eq_some_iff.1 hx).1
    simp only [wordsT, List.length_cons, List.length_nil] at this; omega
  rcases hj with rfl | rfl | rfl
  · obtain rfl : s = x := by simpa [wordsT] using hx
    exact c0
  · obtain rfl : p = x := by simpa [wordsT] using hx
    exact c1
  · obtain rfl : o = x := by simpa [wordsT] using hx
    exact c2
theorem word_small {s p o : ByteArray} (h : s.size ≤ 2097152 ∧ p.size ≤ 2097152 ∧ o.size ≤ 2097152) (j : Nat) (x : ByteArray) (hx : (wordsT (s, p, o))[j]? = some x) : x.size ≤ 2097152 := by
  obtain ⟨q1, q2, q3⟩ := h
  have hj : j = 0 ∨ j = 1 ∨ j = 2 := by
    have := (List.getElem?_eq_some_iff.1 hx).1
    simp only [wordsT, List.length_cons, List.length_nil] at this; omega
  rcases hj with rfl | rfl | rfl
  · obtain rfl : s = x := by simpa [wordsT] using hx
    exact q1
  · obtain rfl : p = x := by simpa [wordsT] using hx
    exact q2
  · obtain rfl : o = x := by simpa [wordsT] using hx
    exact q3
def allVars (ts : List Tri3) : List Txt := putAllS [] (varWords ts)
set_option maxRecDepth 100000 in
set_option maxHeartbeats 3200000 in
theorem specVars (a : Option Addr) (len cap : Nat) (ts : List Tri3) (w : World) (h : IsTris w a len cap ts) (hsm : Sm ts) (hlen : len ≤ 1000) :
    Calls Tryz.prog 100 #[.slice a len cap] w fun e w' => ∃ g n c, e = .returned (.slice (some ⟨g, 0, none⟩) n c) ∧ OwnS w.heap.size w' (.slice (some ⟨g, 0, none⟩) n c) ((allVars ts).map bs) ∧ (allVars ts).length = n ∧ Below w.heap.size w w' := by
  have HL := Lib.hid h.len
  have HM := Lib.hid hsm
  have H := Lib.hid h
  have B0 := (Below.refl w.heap.size w).alloc (Nat.le_refl _) (.cells #[] 9)
  have O0 : OwnS w.heap.size (w.alloc (.cells #[] 9)) (.slice (some ⟨w.heap.size, 0, none⟩) 0 0) [] := World.ownsRow_lit (size := 1) (e := 9) w #[] 0 (Nat.le_refl _) (by decide) rfl
  clear h hsm
  go_enter Tryz.func100, Tryz.ntmps100
  go_wp2_with fail
  go_loopw [3, 4] (fun v i wr => ∃ k g n c : Nat, k ≤ len ∧ i = .int .i64 k ∧ v = .slice (some ⟨g, 0, none⟩) n c ∧ n ≤ 3 * k ∧ Hid (OwnS w.heap.size wr (.slice (some ⟨g, 0, none⟩) n c) ((allVars (ts.take k)).map bs) ∧ (allVars (ts.take k)).length = n) ∧ Below w.heap.size w wr) (fun _ i _ => len - (intOf i).toNat)
  case atStart => exact ⟨0, w.heap.size, 0, 0, Nat.zero_le _, rfl, rfl, Nat.le_refl _, Lib.hid ⟨by simpa [allVars, varWords, putAllS] using O0, by simp [allVars, varWords, putAllS]⟩, B0⟩
  case round =>
    obtain ⟨k, g, n, c, hk, rfl, rfl, hn, hown, hnx⟩ := hrel
    clear O0 B0
    by_cases hlt : k < len
    · obtain ⟨b, off, rfl, hb, _, _, hts, hcs⟩ := H.out.cells (by omega)
      have ht : ts[k]? = some (ts[k]'(by omega)) := List.getElem?_eq_getElem (by omega)
      obtain ⟨d0, d1, d2, m0, m1, m2⟩ := hcs k _ ht
      clear m0 m1 m2
      have HS : Hid (allVars (ts.take (k + 1)) = putAllS (allVars (ts.take k)) (varsIn (wordsT (ts[k]'(by omega))))) := Lib.hid (by unfold allVars; rw [List.take_succ_eq_append_getElem (by omega), varWords_snoc, putAllS_app])
      have hsm := HM.out (ts[k]'(by omega)) (List.getElem_mem _)
      rw [← hnx.cell (p := ⟨b, _, none⟩) hb, ← World.cell?_drew] at d0 d1 d2
      generalize ts[k]'(by omega) = t at ht d0 d1 d2 HS hsm
      obtain ⟨s, p, o⟩ := t
      try simp only at d0 d1 d2
      have hk6 : (0 : Int) ≤ (k : Int) := by omega
      have hk7 : (k : Int) < (len : Int) := by omega
      have HX := Lib.hid (word_small hsm)
      obtain ⟨acc, hacc⟩ : ∃ l, allVars (ts.take k) = l := ⟨_, rfl⟩
      rw [hacc] at HS hown
      clear ht hts hcs hsm hacc
      go_wp2_with fail
      go_still_tail 15, (by kernel_rfl)
      change wpList _ _ _ _ _ wr.drew
      have BD : Below w.heap.size w wr.drew := hnx.drew
      have OD : Hid (OwnS w.heap.size wr.drew (.slice (some ⟨g, 0, none⟩) n c) (acc.map bs) ∧ acc.length = n) := Lib.hid ⟨World.ownsRow.drew hown.out.1, hown.out.2⟩
      clear hown hnx d0 d1 d2
      generalize wr.drew = wq at BD OD ⊢
      have T2 := Lib.hid (Box.new wq (.string s) (.string p) (.string o) 9)
      have B2 := BD.alloc BD.size (.cells #[.string s, .string p, .string o] 9)
      have O2 : Hid (OwnS w.heap.size (wq.alloc (.cells #[.string s, .string p, .string o] 9)) (.slice (some ⟨g, 0, none⟩) n c) (acc.map bs) ∧ acc.length = n) := Lib.hid ⟨World.ownsRow.alloc OD.out.1 _, OD.out.2⟩
      clear BD OD
      obtain ⟨tb, htb⟩ : ∃ tb, wq.heap.size = tb := ⟨_, rfl⟩
      rw [htb] at T2
      obtain ⟨wd, hwd⟩ : ∃ l, wordsT (s, p, o) = l := ⟨_, rfl⟩
      have hwl : wd.length = 3 := by rw [← hwd]; rfl
      have HBW := Lib.hid (fun (W : World) (hb : Box W tb (.string s) (.string p) (.string o) 9) => box_word hb)
      rw [hwd] at HS HX
      have HWD := Lib.hid hwd
      clear hwd
      go_wp2_with fail
      try rw [htb]
      clear htb
      generalize wq.alloc (.cells #[.string s, .string p, .string o] 9) = w2 at T2 B2 O2 ⊢
      go_loopw [3, 6] (fun v i w3 => ∃ j g' n' c' : Nat, j ≤ 3 ∧ i = .int .i64 j ∧ v = .slice (some ⟨g', 0, none⟩) n' c' ∧ n' ≤ n + j ∧ Hid (OwnS w.heap.size w3 (.slice (some ⟨g', 0, none⟩) n' c') ((putAllS acc (varsIn (wd.take j))).map bs) ∧ (putAllS acc (varsIn (wd.take j))).length = n') ∧ Hid (Box w3 tb (.string s) (.string p) (.string o) 9) ∧ Below w.heap.size w w3) (fun _ i _ => 3 - (intOf i).toNat)
      case atStart => exact ⟨0, g, n, c, by omega, rfl, rfl, by omega, by simpa [varsIn, putAllS] using O2, T2, B2⟩
      case round =>
        obtain ⟨j, g', n', c', hj, rfl, rfl, hn', hown, htbx, hnx⟩ := hrel
        clear O2 T2 B2
        by_cases hlj : j < 3
        · have hxx : wd[j]? = some (wd[j]'(by omega)) := List.getElem?_eq_getElem (by omega)
          obtain ⟨x, hxe⟩ : ∃ x, wd[j]'(by omega) = x := ⟨_, rfl⟩
          have HT1 : Hid (varsIn (wd.take (j + 1)) = varsIn (wd.take j) ++ (if isVarK x.data.toList then [x.data.toList] else [])) := Lib.hid (by rw [List.take_succ_eq_append_getElem (by omega), hxe, varsIn_snoc])
          rw [hxe] at hxx
          have hx1 := HX.out j x hxx
          have hcx := HBW.out _ htbx.out j x (by rw [HWD.out]; exact hxx)
          have CV' := specKindOf x hx1
          have hj6 : (0 : Int) ≤ (j : Int) := by omega
          have hj7 : (j : Int) < 3 := by omega
          have HJX := Lib.hid hxx
          clear hxx hxe
          have EK : ((((kindL x.data.toList : Nat) : Int) == 4) = true ∧ isVarK x.data.toList = true) ∨ ((((kindL x.data.toList : Nat) : Int) == 4) = false ∧ isVarK x.data.toList = false) := by
            unfold isVarK
            simp only [beq_iff_eq, beq_eq_false_iff_ne, decide_eq_true_eq, decide_eq_false_iff_not]; omega
          generalize kindL x.data.toList = kk at CV' EK
          have CV := Lib.hid CV'
          clear CV'
          rcases EK with ⟨e1, e2⟩ | ⟨e1, e2⟩
          · rw [e2] at HT1
            have HPA : Hid (putAllS acc (varsIn (wd.take (j + 1))) = putS (putAllS acc (varsIn (wd.take j))) x.data.toList) := Lib.hid (by rw [HT1.out]; simp only [if_true]; rw [putAllS_snoc])
            clear e2 HT1
            go_wp2_with fail
            refine (CV.out _).mono ?_
            rintro e w4 ⟨rfl, hb4⟩
            have B4 := hnx.trans (hb4.mono hnx.size)
            have O4 := Lib.hid (And.intro (hown.out.1.kept hb4) hown.out.2)
            have T4 := Lib.hid (htbx.out.next hb4)
            have hcx2 := HBW.out _ T4.out j x (by rw [HWD.out]; exact HJX.out)
            have hsz : n' ≤ 1048576 := by omega
            have CP := Lib.hid (specPut1 w.heap.size g' n' c' (putAllS acc (varsIn (wd.take j))) x w4 O4.out.1 O4.out.2 hsz B4.size)
            have hpl := putS_len (putAllS acc (varsIn (wd.take j))) x.data.toList
            rw [O4.out.2] at hpl
            clear hb4 hnx htbx hown CV hcx
            go_wp2_with fail
            refine CP.out.mono ?_
            rintro e w5 ⟨g5, n5, c5, rfl, o5, hl5, hb5⟩
            rw [hl5] at hpl
            have B5 := B4.trans (hb5.mono B4.size)
            have T5 := Lib.hid (T4.out.next hb5)
            have O5 : Hid (OwnS w.heap.size w5 (.slice (some ⟨g5, 0, none⟩) n5 c5) ((putAllS acc (varsIn (wd.take (j + 1)))).map bs) ∧ (putAllS acc (varsIn (wd.take (j + 1)))).length = n5) := Lib.hid (by rw [HPA.out]; exact ⟨o5, hl5⟩)
            clear o5 hl5 hb5 B4 T4 O4 CP hcx2 HPA
            go_wp2_with fail
            go_roundw
            case rel => exact ⟨j + 1, g5, n5, c5, by omega, by go_num, rfl, by omega, O5, T5, B5⟩
            case measure => simp [intOf]; omega
          · rw [e2] at HT1
            have HPA : Hid (putAllS acc (varsIn (wd.take (j + 1))) = putAllS acc (varsIn (wd.take j))) := Lib.hid (by rw [HT1.out]; simp)
            clear e2 HT1
            go_wp2_with fail
            refine (CV.out _).mono ?_
            rintro e w4 ⟨rfl, hb4⟩
            have B4 := hnx.trans (hb4.mono hnx.size)
            have O4 : Hid (OwnS w.heap.size w4 (.slice (some ⟨g', 0, none⟩) n' c') ((putAllS acc (varsIn (wd.take (j + 1)))).map bs) ∧ (putAllS acc (varsIn (wd.take (j + 1)))).length = n') := Lib.hid (by rw [HPA.out]; exact ⟨hown.out.1.kept hb4, hown.out.2⟩)
            have T4 := Lib.hid (htbx.out.next hb4)
            clear hb4 hnx htbx hown CV hcx HPA
            go_wp2_with fail
            go_roundw
            case rel => exact ⟨j + 1, g', n', c', by omega, by go_num, rfl, by omega, O4, T4, B4⟩
            case measure => simp [intOf]; omega
        · obtain rfl : j = 3 := by omega
          have HN : Hid (OwnS w.heap.size wr (.slice (some ⟨g', 0, none⟩) n' c') ((allVars (ts.take (k + 1))).map bs) ∧ (allVars (ts.take (k + 1))).length = n') := Lib.hid (by
            have := hown.out
            rw [List.take_of_length_le (by omega)] at this
            rw [HS.out]; exact this)
          clear hown htbx
          go_wp2_with fail
          go_roundw
          case rel => exact ⟨k + 1, g', n', c', by omega, by go_num, rfl, by omega, HN, hnx⟩
          case measure => simp [intOf]; omega
    · obtain rfl : k = len := by omega
      have HN : Hid (OwnS w.heap.size wr (.slice (some ⟨g, 0, none⟩) n c) ((allVars ts).map bs) ∧ (allVars ts).length = n) := Lib.hid (by
        have := hown.out
        rwa [List.take_of_length_le (by rw [HL.out]; exact Nat.le_refl _)] at this)
      clear hown
      go_wp2_with fail
      go_ret
      exact ⟨g, n, c, rfl, HN.out.1, HN.out.2, hnx⟩
theorem varsT_is {ts : List Tri3} (h : bgpOk ts = true) : varsT ts = allVars ts := by unfold varsT allVars; rw [if_pos h]
end Go.Proofs.YtiajdnhmjdfeeaaGreat
