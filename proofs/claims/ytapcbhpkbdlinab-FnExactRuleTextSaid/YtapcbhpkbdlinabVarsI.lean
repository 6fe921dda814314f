/- The variables of patterns: the program's way. -/
import Derived.Test.YtapcbhpkbdlinabTxtKeys
import Derived.Test.YtapcbhpkbdlinabBgp2
import Derived.Test.YtapcbhpkbdlinabRowM
namespace Go.Proofs.Ytapcbhpkbdlinab
open Go.RowKit Go.WideShapes Go.Maps
def wordsT (t : Tri3) : List ByteArray := [t.1, t.2.1, t.2.2]
def varsIn (l : List ByteArray) : List Txt := (l.map fun s => s.data.toList).filter isVarK
def varWords (ts : List Tri3) : List Txt := ts.flatMap fun t => varsIn (wordsT t)
def varsT (ts : List Tri3) : List Txt := if bgpOk ts = true then putAllS [] (varWords ts) else []
theorem varWords_snoc (ts : List Tri3) (t : Tri3) : varWords (ts ++ [t]) = varWords ts ++ varsIn (wordsT t) := by simp [varWords]
theorem varsIn_snoc (l : List ByteArray) (s : ByteArray) : varsIn (l ++ [s]) = varsIn l ++ (if isVarK s.data.toList then [s.data.toList] else []) := by
  unfold varsIn; simp [List.filter_cons]
theorem varsIn_len (l : List ByteArray) : (varsIn l).length ≤ l.length := by
  unfold varsIn; exact Nat.le_trans (List.length_filter_le _ _) (by simp)
theorem varWords_len (ts : List Tri3) : (varWords ts).length ≤ 3 * ts.length := by
  induction ts with
  | nil => simp [varWords]
  | cons t r ih =>
    have h3 : (varsIn (wordsT t)).length ≤ 3 := varsIn_len (wordsT t)
    simp only [varWords, List.flatMap_cons, List.length_append, List.length_cons] at *
    omega
theorem addAllS_nodup : ∀ (us ts : List Txt), ts.Nodup → (addAllS ts us).Nodup
  | [], ts, h => h
  | t :: r, ts, h => addAllS_nodup r (addS ts t) (by
    unfold addS
    split
    · exact h
    · rename_i hn
      exact List.nodup_append.2 ⟨h, by simp, fun a ha b hb => by simp at hb; subst hb; exact fun e => hn (e ▸ ha)⟩)
theorem sorted_words (l : List Txt) : (addAllS [] l).mergeSort leB = putAllS [] l :=
  mergeSort_is (addAllS_nodup l [] List.nodup_nil) (putAllS_rising List.Pairwise.nil) (fun u => by rw [addAllS_mem, putAllS_mem])
theorem implParts (s p o : ByteArray) (w : World) : Calls Try.prog 94 #[.agg #[.string s, .string p, .string o]] w fun e w' => e = .returned (.agg #[.string s, .string p, .string o]) ∧ Below w.heap.size w w' := by
  go_enter Try.func94, Try.ntmps94
  go_wp2_with fail
  refine bodyPost_ret (v := .agg #[.string s, .string p, .string o]) (by simp [results, Try.results94, go_sem, *]) rfl ⟨rfl, ?_⟩
  exact ((Below.refl _ _).alloc (Nat.le_refl _) _).alloc (by simp) _
theorem index30 (s p o : ByteArray) (w : World) : (Instr.index 119 (.agg #[.string s, .string p, .string o]) (.int .i64 0)).run Try.prog w = .ok (.string s) w := by kernel_rfl
theorem index31 (s p o : ByteArray) (w : World) : (Instr.index 119 (.agg #[.string s, .string p, .string o]) (.int .i64 1)).run Try.prog w = .ok (.string p) w := by kernel_rfl
theorem index32 (s p o : ByteArray) (w : World) : (Instr.index 119 (.agg #[.string s, .string p, .string o]) (.int .i64 2)).run Try.prog w = .ok (.string o) w := by kernel_rfl
theorem index3 (s p o : ByteArray) (j : Nat) (x : ByteArray) (h : (wordsT (s, p, o))[j]? = some x) (w : World) : (Instr.index 119 (.agg #[.string s, .string p, .string o]) (.int .i64 (j : Int))).run Try.prog w = .ok (.string x) w := by
  have hj : j = 0 ∨ j = 1 ∨ j = 2 := by
    have := (List.getElem?_eq_some_iff.1 h).1
    simp only [wordsT, List.length_cons, List.length_nil] at this; omega
  rcases hj with rfl | rfl | rfl
  · obtain rfl : s = x := by simpa [wordsT] using h
    exact index30 _ _ _ w
  · obtain rfl : p = x := by simpa [wordsT] using h
    exact index31 _ _ _ w
  · obtain rfl : o = x := by simpa [wordsT] using h
    exact index32 _ _ _ w
set_option maxRecDepth 100000 in
set_option maxHeartbeats 3200000 in
theorem implVarsOf (a : Option Addr) (len cap : Nat) (ts : List Tri3) (w : World) (h : IsTris w a len cap ts) (hsm : Sm ts) :
    Calls Try.prog 70 #[.slice a len cap] w fun e w' => ∃ v, e = .returned v ∧ OwnS w.heap.size w' v ((varsT ts).map bs) ∧ Below w.heap.size w w' := by
  have C' := implBgpOk a len cap ts w h hsm
  have HL := Lib.hid h.len
  have HM := Lib.hid hsm
  have H := Lib.hid h
  clear h hsm
  unfold varsT
  cases hq : bgpOk ts
  · rw [hq] at C'
    have C := Lib.hid C'
    clear C' hq
    go_enter Try.func70, Try.ntmps70
    go_wp2_with fail
    refine C.out.mono ?_
    rintro e w1 ⟨rfl, hb⟩
    go_wp2_with fail
    go_ret
    exact ⟨.slice none 0 0, rfl, ⟨rfl, .inl ⟨rfl, rfl⟩⟩, hb⟩
  have hl4 : ts.length ≤ 4 := by unfold bgpOk at hq; simp only [Bool.and_eq_true, decide_eq_true_eq] at hq; exact hq.1
  have hlen : len ≤ 4 := by have := HL.out; omega
  have hmm := @run_makeMap Try.prog
  rw [hq] at C'
  have C := Lib.hid C'
  clear C' hq
  go_enter Try.func70, Try.ntmps70
  go_wp2_with fail
  refine C.out.mono ?_
  rintro e w1 ⟨rfl, hb⟩
  have O0 := Lib.hid (OwnSetS.made w1)
  have B0 := hb.alloc hb.size (.map #[] 0)
  have HB1 := Lib.hid hb.size
  clear hb
  go_wp2_with fail
  clear hmm
  go_loopw [14] (fun i wr => ∃ k n : Nat, k ≤ len ∧ i = .int .i64 k ∧ n ≤ 3 * k ∧ Hid (OwnSetS wr w1.heap.size n (addAllS [] (varWords (ts.take k)))) ∧ Below w.heap.size w wr) (fun i _ => len - (intOf i).toNat)
  case atStart => exact ⟨0, 0, Nat.zero_le _, rfl, Nat.le_refl _, by simpa [varWords, addAllS] using O0, B0⟩
  case round =>
    obtain ⟨k, n, hk, rfl, hn, hown, hnx⟩ := hrel
    clear O0 B0
    by_cases hlt : k < len
    · obtain ⟨b, off, rfl, hb, _, _, hts, hcs⟩ := H.out.cells (by omega)
      have ht : ts[k]? = some (ts[k]'(by omega)) := List.getElem?_eq_getElem (by omega)
      obtain ⟨d0, d1, d2, m0, m1, m2⟩ := hcs k _ ht
      have HS : Hid (varWords (ts.take (k + 1)) = varWords (ts.take k) ++ varsIn (wordsT (ts[k]'(by omega)))) := Lib.hid (by rw [List.take_succ_eq_append_getElem (by omega), varWords_snoc])
      have hsm := HM.out (ts[k]'(by omega)) (List.getElem_mem _)
      rw [← hnx.cell (p := ⟨b, _, none⟩) hb] at d0 d1 d2
      generalize ts[k]'(by omega) = t at ht d0 d1 d2 HS m0 m1 m2 hsm
      obtain ⟨s, p, o⟩ := t
      try simp only at d0 d1 d2
      try simp only at m0 m1 m2
      have hk6 : (0 : Int) ≤ (k : Int) := by omega
      have hk7 : (k : Int) < (len : Int) := by omega
      have E2 := Box.new wr (.string s) (.string p) (.string o) 30
      have B2 := hnx.alloc hnx.size (.cells #[.string s, .string p, .string o] 30)
      have O2 := hown.out.alloc (.cells #[.string s, .string p, .string o] 30)
      obtain ⟨z0, z1, z2⟩ := E2.cells
      have CP := Lib.hid (fun W => implParts s p o W)
      clear ht hts hcs hown hnx
      go_wp2_with fail
      refine (CP.out _).mono ?_
      rintro e w2 ⟨rfl, hb2⟩
      have B3 := B2.trans (hb2.mono B2.size)
      have O3 := Lib.hid (O2.next hb2)
      clear hb2 B2 O2 E2 z0 z1 z2 d0 d1 d2 CP
      have hX : ∀ (j : Nat) (x : ByteArray), (wordsT (s, p, o))[j]? = some x → x.size ≤ 2097152 ∧ x.size ≤ maxLen := by
        intro j x hx
        have hj : j = 0 ∨ j = 1 ∨ j = 2 := by
          have := (List.getElem?_eq_some_iff.1 hx).1
          simp only [wordsT, List.length_cons, List.length_nil] at this; omega
        obtain ⟨q1, q2, q3⟩ := hsm
        try simp only at q1 q2 q3
        rcases hj with rfl | rfl | rfl
        · obtain rfl : s = x := by simpa [wordsT] using hx
          exact ⟨q1, m0⟩
        · obtain rfl : p = x := by simpa [wordsT] using hx
          exact ⟨q2, m1⟩
        · obtain rfl : o = x := by simpa [wordsT] using hx
          exact ⟨q3, m2⟩
      have HX := Lib.hid hX
      clear hX hsm m0 m1 m2
      obtain ⟨base, hbase⟩ : ∃ l, varWords (ts.take k) = l := ⟨_, rfl⟩
      rw [hbase] at HS O3
      clear hbase
      obtain ⟨wd, hwd⟩ : ∃ l, wordsT (s, p, o) = l := ⟨_, rfl⟩
      have hwl : wd.length = 3 := by rw [← hwd]; rfl
      rw [hwd] at HS HX
      have HWD := Lib.hid hwd
      clear hwd
      go_wp2_with fail
      obtain ⟨wo, hwo⟩ : ∃ wo : World, wo = wr := ⟨_, rfl⟩
      go_loopw [20] (fun i w3 => ∃ j m : Nat, j ≤ 3 ∧ i = .int .i64 j ∧ m ≤ n + j ∧ Hid (OwnSetS w3 w1.heap.size m (addAllS [] (base ++ varsIn (wd.take j)))) ∧ Below w.heap.size w w3) (fun i _ => 3 - (intOf i).toNat)
      case atStart => exact ⟨0, n, by omega, rfl, by omega, by simpa [varsIn] using O3, B3⟩
      case round =>
        obtain ⟨j, m, hj, rfl, hm, hown, hnx⟩ := hrel
        clear O3 B3 hwo
        by_cases hlj : j < 3
        · have hxx : wd[j]? = some (wd[j]'(by omega)) := List.getElem?_eq_getElem (by omega)
          obtain ⟨x, hxe⟩ : ∃ x, wd[j]'(by omega) = x := ⟨_, rfl⟩
          have HT1 : Hid (varsIn (wd.take (j + 1)) = varsIn (wd.take j) ++ (if isVarK x.data.toList then [x.data.toList] else [])) := Lib.hid (by rw [List.take_succ_eq_append_getElem (by omega), hxe, varsIn_snoc])
          rw [hxe] at hxx
          obtain ⟨hx1, hx2⟩ := HX.out j x hxx
          have hidx := index3 s p o j x (by rw [HWD.out]; exact hxx)
          have CV' := implIsVar x hx1
          have hj6 : (0 : Int) ≤ (j : Int) := by omega
          have hj7 : (j : Int) < 3 := by omega
          clear hxx hxe
          obtain ⟨bb, hbb⟩ : ∃ bb, isVarK x.data.toList = bb := ⟨_, rfl⟩
          rw [hbb] at CV' HT1
          have CV := Lib.hid CV'
          clear CV' hbb
          go_wp2_with fail
          clear hidx
          refine (CV.out _).mono ?_
          rintro e w4 ⟨rfl, hb4⟩
          have B4 := hnx.trans (hb4.mono hnx.size)
          have O4 := Lib.hid (hown.out.next hb4)
          clear hb4 hnx hown CV
          cases bb
          · have HN : Hid (OwnSetS w4 w1.heap.size m (addAllS [] (base ++ varsIn (wd.take (j + 1))))) := Lib.hid (by rw [HT1.out]; simpa using O4.out)
            clear O4 HT1
            go_wp2_with fail
            go_roundw
            case rel => exact ⟨j + 1, m, by omega, by go_num, by omega, HN, B4⟩
            case measure => simp [intOf]; omega
          · have hml : m < maxLen := by unfold maxLen; omega
            go_wp2_with (at_mapUpdate; refine wpList_putS _ rfl _ _ _ rfl w1.heap.size m (addAllS [] (base ++ varsIn (wd.take j))) rfl O4.out hml x hx2 rfl rfl ?_)
            intro w5 hown5 hg5
            have B5 : Below w.heap.size w w5 := B4.grown hg5 B4.size (fun r e => by cases e; exact HB1.out)
            have HN : Hid (OwnSetS w5 w1.heap.size (m + 1) (addAllS [] (base ++ varsIn (wd.take (j + 1))))) := Lib.hid (by rw [HT1.out]; simp only [if_true]; rw [← List.append_assoc, addAllS_snoc]; exact hown5)
            clear hown5 hg5 O4 B4 HT1
            go_wp2_with fail
            go_roundw
            case rel => exact ⟨j + 1, m + 1, by omega, by go_num, by omega, HN, B5⟩
            case measure => simp [intOf]; omega
        · obtain rfl : j = 3 := by omega
          have HN : Hid (OwnSetS wr w1.heap.size m (addAllS [] (varWords (ts.take (k + 1))))) := Lib.hid (by
            have := hown.out
            rw [List.take_of_length_le (by omega)] at this
            rw [HS.out]; exact this)
          clear hown
          go_wp2_with fail
          go_roundw
          case rel => exact ⟨k + 1, m, by omega, by go_num, by omega, HN, hnx⟩
          case measure => simp [intOf]; omega
    · obtain rfl : k = len := by omega
      have HN : Hid (OwnSetS wr w1.heap.size n (addAllS [] (varWords ts))) := Lib.hid (by
        have := hown.out
        rwa [List.take_of_length_le (by rw [HL.out]; exact Nat.le_refl _)] at this)
      have hlw := varWords_len ts
      have hla := addAllS_len (varWords ts) []
      have SK := Lib.hid (sortedTxt w1.heap.size n (addAllS [] (varWords ts)) wr HN.out (by simp at hla; omega))
      clear hown hla hlw
      go_wp2_with fail
      refine (keysTxt _ _).mono ?_
      rintro e w6 ⟨rfl, rfl⟩
      go_wp2_with fail
      refine SK.out.mono ?_
      rintro e w7 ⟨v, rfl, o7, hb7⟩
      rw [sorted_words] at o7
      have B7 := hnx.trans (hb7.mono hnx.size)
      have O7 := Lib.hid (ownS_base o7 hnx.size)
      clear o7 hb7 SK
      go_wp2_with fail
      go_ret
      exact ⟨v, rfl, by simpa using O7.out, B7⟩
end Go.Proofs.Ytapcbhpkbdlinab
