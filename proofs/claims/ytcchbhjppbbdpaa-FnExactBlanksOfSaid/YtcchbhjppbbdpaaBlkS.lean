/- The blanks of a graph: the specification. -/
import Derived.Test.YtcchbhjppbbdpaaBlkI
import Derived.Test.YtcchbhjppbbdpaaSpecK
namespace Go.Proofs.Ytcchbhjppbbdpaa
open Go.RowKit Go.WideShapes Go.Maps
def sel (A : List Txt) (x : ByteArray) : List Txt := if isBlankK x.data.toList then putS A x.data.toList else A
def blankWords2 (ts : List Tri3) : List Txt := ts.flatMap fun t => blanksIn [t.1, t.2.2]
theorem blankWords2_snoc (ts : List Tri3) (t : Tri3) : blankWords2 (ts ++ [t]) = blankWords2 ts ++ blanksIn [t.1, t.2.2] := by simp [blankWords2]
theorem sel_two (A : List Txt) (s o : ByteArray) : putAllS A (blanksIn [s, o]) = sel (sel A s) o := by
  unfold sel blanksIn putAllS
  cases h1 : isBlankK s.data.toList <;> cases h2 : isBlankK o.data.toList <;> simp [h1, h2]
theorem blankWords_is : ∀ {ts : List Tri3}, (∀ t ∈ ts, okT t = true) → blankWords ts = blankWords2 ts
  | [], _ => rfl
  | t :: r, h => by
    have ih := blankWords_is (ts := r) fun u hu => h u (List.mem_cons_of_mem _ hu)
    have ht := h t (List.mem_cons_self ..)
    have hp : isBlankK t.2.1.data.toList = false := by
      unfold okT triOk at ht
      simp only [Bool.and_eq_true, decide_eq_true_eq] at ht
      unfold isBlankK
      rw [ht.1.2]
      rfl
    show blanksIn (wordsB t) ++ blankWords r = blanksIn [t.1, t.2.2] ++ blankWords2 r
    rw [ih]
    congr 1
    unfold blanksIn wordsB
    simp [List.filter_cons, hp]
theorem blank_cases {s : ByteArray} {kk : Nat} (h : kindL s.data.toList = kk) : ((((kk : Nat) : Int) == 3) = true ∧ isBlankK s.data.toList = true) ∨ ((((kk : Nat) : Int) == 3) = false ∧ isBlankK s.data.toList = false) := by
  unfold isBlankK
  rw [h]
  simp only [beq_iff_eq, beq_eq_false_iff_ne, decide_eq_true_eq, decide_eq_false_iff_not]; omega
set_option maxRecDepth 100000 in
set_option maxHeartbeats 3200000 in
theorem specBlanks (a : Option Addr) (len cap : Nat) (ts : List Tri3) (w : World) (h : IsTris w a len cap ts) (hsm : Sm ts) (hlen : len ≤ 1000) :
    Calls Try.prog 15 #[.slice a len cap] w fun e w' => ∃ g n c, e = .returned (.slice (some ⟨g, 0, none⟩) n c) ∧ OwnS w.heap.size w' (.slice (some ⟨g, 0, none⟩) n c) ((putAllS [] (blankWords2 ts)).map bs) ∧ (putAllS [] (blankWords2 ts)).length = n ∧ Below w.heap.size w w' := by
  have HL := Lib.hid h.len
  have HM := Lib.hid hsm
  have H := Lib.hid h
  have B0 := (Below.refl w.heap.size w).alloc (Nat.le_refl _) (.cells #[] 9)
  have O0 : OwnS w.heap.size (w.alloc (.cells #[] 9)) (.slice (some ⟨w.heap.size, 0, none⟩) 0 0) [] := World.ownsRow_lit (size := 1) (e := 9) w #[] 0 (Nat.le_refl _) (by decide) rfl
  clear h hsm
  go_enter Try.func15, Try.ntmps15
  go_wp2_with fail
  go_loopw [3, 4] (fun v i wr => ∃ k g n c : Nat, k ≤ len ∧ i = .int .i64 k ∧ v = .slice (some ⟨g, 0, none⟩) n c ∧ n ≤ 2 * k ∧ Hid (OwnS w.heap.size wr (.slice (some ⟨g, 0, none⟩) n c) ((putAllS [] (blankWords2 (ts.take k))).map bs) ∧ (putAllS [] (blankWords2 (ts.take k))).length = n) ∧ Below w.heap.size w wr) (fun _ i _ => len - (intOf i).toNat)
  case atStart => exact ⟨0, w.heap.size, 0, 0, Nat.zero_le _, rfl, rfl, Nat.le_refl _, Lib.hid ⟨by simpa [blankWords2, putAllS] using O0, by simp [blankWords2, putAllS]⟩, B0⟩
  case round =>
    obtain ⟨k, g2, n2, c2, hk, rfl, rfl, hn, O2, B2⟩ := hrel
    clear O0 B0
    by_cases hlt : k < len
    · obtain ⟨b, off, rfl, hb, _, _, hts, hcs⟩ := H.out.cells (by omega)
      have ht : ts[k]? = some (ts[k]'(by omega)) := List.getElem?_eq_getElem (by omega)
      obtain ⟨d0, d1, d2, m0, m1, m2⟩ := hcs k _ ht
      clear m0 m1 m2 d1
      have HS : Hid (putAllS [] (blankWords2 (ts.take (k + 1))) = sel (sel (putAllS [] (blankWords2 (ts.take k))) (ts[k]'(by omega)).1) (ts[k]'(by omega)).2.2) := Lib.hid (by rw [List.take_succ_eq_append_getElem (by omega), blankWords2_snoc, putAllS_app, sel_two])
      have hsz := HM.out (ts[k]'(by omega)) (List.getElem_mem _)
      rw [← B2.cell (p := ⟨b, _, none⟩) hb] at d0 d2
      have hb2 := Nat.lt_of_lt_of_le hb B2.size
      generalize ts[k]'(by omega) = t at ht d0 d2 HS hsz
      obtain ⟨s, p, o⟩ := t
      try simp only at d0 d2
      have hz0 : s.size ≤ 2097152 := hsz.1
      have hz1 : o.size ≤ 2097152 := hsz.2.2
      have hk6 : (0 : Int) ≤ (k : Int) := by omega
      have hk7 : (k : Int) < (len : Int) := by omega
      have HD2 := Lib.hid (And.intro d0 d2)
      obtain ⟨A0, hA0⟩ : ∃ l, putAllS [] (blankWords2 (ts.take k)) = l := ⟨_, rfl⟩
      rw [hA0] at HS O2
      clear ht hts hcs hsz hA0 d0 d2 hb
      obtain ⟨kk0, hkk0⟩ : ∃ q, kindL s.data.toList = q := ⟨_, rfl⟩
      have CV0 := specKindOf s hz0
      rw [hkk0] at CV0
      have HV0 := Lib.hid CV0
      clear CV0
      rcases blank_cases (s := s) hkk0 with ⟨e1, e2⟩ | ⟨e1, e2⟩
      · clear hkk0
        have HE0 := Lib.hid e2
        clear e2
        obtain ⟨d0, d2⟩ := HD2.out
        go_wp2_with fail
        refine (HV0.out _).mono ?_
        rintro e w3 ⟨rfl, hb⟩
        have O3 := Lib.hid (And.intro (O2.out.1.kept hb) O2.out.2)
        have B3 := B2.trans (hb.mono B2.size)
        have HD3 := Lib.hid (And.intro ((hb.cell (p := ⟨b, _, none⟩) hb2).trans d0) ((hb.cell (p := ⟨b, _, none⟩) hb2).trans d2))
        have hb3 := Nat.lt_of_lt_of_le hb2 hb.size
        obtain ⟨g3, n3, c3, rfl, rfl, rfl⟩ : ∃ x y z, x = g2 ∧ y = n2 ∧ z = c2 := ⟨_, _, _, rfl, rfl, rfl⟩
        clear hb d0 d2 HV0 O2 B2 HD2 hb2
        obtain ⟨d0, d2⟩ := HD3.out
        have hpl := putS_len A0 s.data.toList
        rw [O3.out.2] at hpl
        have CP := Lib.hid (specPut1 w.heap.size g3 n3 c3 A0 s w3 O3.out.1 O3.out.2 (by omega) B3.size)
        go_wp2_with fail
        refine CP.out.mono ?_
        rintro e w4 ⟨g4, n4, c4, rfl, o5, hl5, hb⟩
        rw [hl5] at hpl
        have B4 := B3.trans (hb.mono B3.size)
        have HD4 := Lib.hid (And.intro ((hb.cell (p := ⟨b, _, none⟩) hb3).trans d0) ((hb.cell (p := ⟨b, _, none⟩) hb3).trans d2))
        have hb4 := Nat.lt_of_lt_of_le hb3 hb.size
        have O4 := Lib.hid (And.intro o5 hl5)
        clear o5 hl5 hb CP d0 d2 O3 B3 HD3 hb3
        obtain ⟨A1, hA1⟩ : ∃ l, putS A0 s.data.toList = l := ⟨_, rfl⟩
        rw [hA1] at O4
        have HA1 : Hid (sel A0 s = A1) := Lib.hid (by unfold sel; rw [HE0.out]; exact hA1)
        clear hA1 HE0
        obtain ⟨kk1, hkk1⟩ : ∃ q, kindL o.data.toList = q := ⟨_, rfl⟩
        have CV1 := specKindOf o hz1
        rw [hkk1] at CV1
        have HV1 := Lib.hid CV1
        clear CV1
        rcases blank_cases (s := o) hkk1 with ⟨e1, e2⟩ | ⟨e1, e2⟩
        · clear hkk1
          have HE1 := Lib.hid e2
          clear e2
          obtain ⟨d0, d2⟩ := HD4.out
          go_wp2_with fail
          refine (HV1.out _).mono ?_
          rintro e w5 ⟨rfl, hb⟩
          have O5 := Lib.hid (And.intro (O4.out.1.kept hb) O4.out.2)
          have B5 := B4.trans (hb.mono B4.size)
          have HD5 := Lib.hid (And.intro ((hb.cell (p := ⟨b, _, none⟩) hb4).trans d0) ((hb.cell (p := ⟨b, _, none⟩) hb4).trans d2))
          have hb5 := Nat.lt_of_lt_of_le hb4 hb.size
          obtain ⟨g5, n5, c5, rfl, rfl, rfl⟩ : ∃ x y z, x = g4 ∧ y = n4 ∧ z = c4 := ⟨_, _, _, rfl, rfl, rfl⟩
          clear hb d0 d2 HV1 O4 B4 HD4 hb4
          obtain ⟨d0, d2⟩ := HD5.out
          have hpl := putS_len A1 o.data.toList
          rw [O5.out.2] at hpl
          have CP := Lib.hid (specPut1 w.heap.size g5 n5 c5 A1 o w5 O5.out.1 O5.out.2 (by omega) B5.size)
          go_wp2_with fail
          refine CP.out.mono ?_
          rintro e w6 ⟨g6, n6, c6, rfl, o5, hl5, hb⟩
          rw [hl5] at hpl
          have B6 := B5.trans (hb.mono B5.size)
          have HD6 := Lib.hid (And.intro ((hb.cell (p := ⟨b, _, none⟩) hb5).trans d0) ((hb.cell (p := ⟨b, _, none⟩) hb5).trans d2))
          have hb6 := Nat.lt_of_lt_of_le hb5 hb.size
          have O6 := Lib.hid (And.intro o5 hl5)
          clear o5 hl5 hb CP d0 d2 O5 B5 HD5 hb5
          obtain ⟨A2, hA2⟩ : ∃ l, putS A1 o.data.toList = l := ⟨_, rfl⟩
          rw [hA2] at O6
          have HA2 : Hid (sel A1 o = A2) := Lib.hid (by unfold sel; rw [HE1.out]; exact hA2)
          clear hA2 HE1
          go_wp2_with fail
          go_roundw
          case rel => exact ⟨k + 1, g6, n6, c6, by omega, by go_num, rfl, by omega, Lib.hid (by rw [HS.out, HA1.out, HA2.out]; exact O6.out), B6⟩
          case measure => simp [intOf]; omega
        · clear hkk1
          have HE1 := Lib.hid e2
          clear e2
          obtain ⟨d0, d2⟩ := HD4.out
          go_wp2_with fail
          refine (HV1.out _).mono ?_
          rintro e w5 ⟨rfl, hb⟩
          have O5 := Lib.hid (And.intro (O4.out.1.kept hb) O4.out.2)
          have B5 := B4.trans (hb.mono B4.size)
          have HD5 := Lib.hid (And.intro ((hb.cell (p := ⟨b, _, none⟩) hb4).trans d0) ((hb.cell (p := ⟨b, _, none⟩) hb4).trans d2))
          have hb5 := Nat.lt_of_lt_of_le hb4 hb.size
          obtain ⟨g5, n5, c5, rfl, rfl, rfl⟩ : ∃ x y z, x = g4 ∧ y = n4 ∧ z = c4 := ⟨_, _, _, rfl, rfl, rfl⟩
          clear hb d0 d2 HV1 O4 B4 HD4 hb4
          obtain ⟨A2, hA2⟩ : ∃ l, A1 = l := ⟨_, rfl⟩
          rw [hA2] at O5
          have HA2 : Hid (sel A1 o = A2) := Lib.hid (by unfold sel; rw [HE1.out]; exact hA2)
          clear hA2 HE1
          go_wp2_with fail
          go_roundw
          case rel => exact ⟨k + 1, g5, n5, c5, by omega, by go_num, rfl, by omega, Lib.hid (by rw [HS.out, HA1.out, HA2.out]; exact O5.out), B5⟩
          case measure => simp [intOf]; omega
      · clear hkk0
        have HE0 := Lib.hid e2
        clear e2
        obtain ⟨d0, d2⟩ := HD2.out
        go_wp2_with fail
        refine (HV0.out _).mono ?_
        rintro e w3 ⟨rfl, hb⟩
        have O3 := Lib.hid (And.intro (O2.out.1.kept hb) O2.out.2)
        have B3 := B2.trans (hb.mono B2.size)
        have HD3 := Lib.hid (And.intro ((hb.cell (p := ⟨b, _, none⟩) hb2).trans d0) ((hb.cell (p := ⟨b, _, none⟩) hb2).trans d2))
        have hb3 := Nat.lt_of_lt_of_le hb2 hb.size
        obtain ⟨g3, n3, c3, rfl, rfl, rfl⟩ : ∃ x y z, x = g2 ∧ y = n2 ∧ z = c2 := ⟨_, _, _, rfl, rfl, rfl⟩
        clear hb d0 d2 HV0 O2 B2 HD2 hb2
        obtain ⟨A1, hA1⟩ : ∃ l, A0 = l := ⟨_, rfl⟩
        rw [hA1] at O3
        have HA1 : Hid (sel A0 s = A1) := Lib.hid (by unfold sel; rw [HE0.out]; exact hA1)
        clear hA1 HE0
        obtain ⟨kk1, hkk1⟩ : ∃ q, kindL o.data.toList = q := ⟨_, rfl⟩
        have CV1 := specKindOf o hz1
        rw [hkk1] at CV1
        have HV1 := Lib.hid CV1
        clear CV1
        rcases blank_cases (s := o) hkk1 with ⟨e1, e2⟩ | ⟨e1, e2⟩
        · clear hkk1
          have HE1 := Lib.hid e2
          clear e2
          obtain ⟨d0, d2⟩ := HD3.out
          go_wp2_with fail
          refine (HV1.out _).mono ?_
          rintro e w5 ⟨rfl, hb⟩
          have O4 := Lib.hid (And.intro (O3.out.1.kept hb) O3.out.2)
          have B4 := B3.trans (hb.mono B3.size)
          have HD4 := Lib.hid (And.intro ((hb.cell (p := ⟨b, _, none⟩) hb3).trans d0) ((hb.cell (p := ⟨b, _, none⟩) hb3).trans d2))
          have hb4 := Nat.lt_of_lt_of_le hb3 hb.size
          obtain ⟨g4, n4, c4, rfl, rfl, rfl⟩ : ∃ x y z, x = g3 ∧ y = n3 ∧ z = c3 := ⟨_, _, _, rfl, rfl, rfl⟩
          clear hb d0 d2 HV1 O3 B3 HD3 hb3
          obtain ⟨d0, d2⟩ := HD4.out
          have hpl := putS_len A1 o.data.toList
          rw [O4.out.2] at hpl
          have CP := Lib.hid (specPut1 w.heap.size g4 n4 c4 A1 o w5 O4.out.1 O4.out.2 (by omega) B4.size)
          go_wp2_with fail
          refine CP.out.mono ?_
          rintro e w6 ⟨g5, n5, c5, rfl, o5, hl5, hb⟩
          rw [hl5] at hpl
          have B5 := B4.trans (hb.mono B4.size)
          have HD5 := Lib.hid (And.intro ((hb.cell (p := ⟨b, _, none⟩) hb4).trans d0) ((hb.cell (p := ⟨b, _, none⟩) hb4).trans d2))
          have hb5 := Nat.lt_of_lt_of_le hb4 hb.size
          have O5 := Lib.hid (And.intro o5 hl5)
          clear o5 hl5 hb CP d0 d2 O4 B4 HD4 hb4
          obtain ⟨A2, hA2⟩ : ∃ l, putS A1 o.data.toList = l := ⟨_, rfl⟩
          rw [hA2] at O5
          have HA2 : Hid (sel A1 o = A2) := Lib.hid (by unfold sel; rw [HE1.out]; exact hA2)
          clear hA2 HE1
          go_wp2_with fail
          go_roundw
          case rel => exact ⟨k + 1, g5, n5, c5, by omega, by go_num, rfl, by omega, Lib.hid (by rw [HS.out, HA1.out, HA2.out]; exact O5.out), B5⟩
          case measure => simp [intOf]; omega
        · clear hkk1
          have HE1 := Lib.hid e2
          clear e2
          obtain ⟨d0, d2⟩ := HD3.out
          go_wp2_with fail
          refine (HV1.out _).mono ?_
          rintro e w5 ⟨rfl, hb⟩
          have O4 := Lib.hid (And.intro (O3.out.1.kept hb) O3.out.2)
          have B4 := B3.trans (hb.mono B3.size)
          have HD4 := Lib.hid (And.intro ((hb.cell (p := ⟨b, _, none⟩) hb3).trans d0) ((hb.cell (p := ⟨b, _, none⟩) hb3).trans d2))
          have hb4 := Nat.lt_of_lt_of_le hb3 hb.size
          obtain ⟨g4, n4, c4, rfl, rfl, rfl⟩ : ∃ x y z, x = g3 ∧ y = n3 ∧ z = c3 := ⟨_, _, _, rfl, rfl, rfl⟩
          clear hb d0 d2 HV1 O3 B3 HD3 hb3
          obtain ⟨A2, hA2⟩ : ∃ l, A1 = l := ⟨_, rfl⟩
          rw [hA2] at O4
          have HA2 : Hid (sel A1 o = A2) := Lib.hid (by unfold sel; rw [HE1.out]; exact hA2)
          clear hA2 HE1
          go_wp2_with fail
          go_roundw
          case rel => exact ⟨k + 1, g4, n4, c4, by omega, by go_num, rfl, by omega, Lib.hid (by rw [HS.out, HA1.out, HA2.out]; exact O4.out), B4⟩
          case measure => simp [intOf]; omega
    · obtain rfl : k = len := by omega
      have HN : Hid (OwnS w.heap.size wr (.slice (some ⟨g2, 0, none⟩) n2 c2) ((putAllS [] (blankWords2 ts)).map bs) ∧ (putAllS [] (blankWords2 ts)).length = n2) := Lib.hid (by
        have := O2.out
        rwa [List.take_of_length_le (by rw [HL.out]; exact Nat.le_refl _)] at this)
      clear O2
      go_wp2_with fail
      go_ret
      exact ⟨g2, n2, c2, rfl, HN.out.1, HN.out.2, B2⟩
set_option maxRecDepth 100000 in
theorem specBlanksOf (a : Option Addr) (len cap : Nat) (ts : List Tri3) (w : World) (h : IsTris w a len cap ts) (hsm : Sm ts) :
    Calls Try.prog 5 #[.slice a len cap] w fun e w' => ∃ v, e = .returned v ∧ OwnS w.heap.size w' v ((blanksT ts).map bs) ∧ Below w.heap.size w w' := by
  have C' := specGraphOk a len cap ts w h hsm
  have HL := Lib.hid h.len
  have HM := Lib.hid hsm
  have H := Lib.hid h
  clear h hsm
  cases hq : graphOk ts
  · have HV : Hid (blanksT ts = []) := Lib.hid (by unfold blanksT; rw [hq]; rfl)
    rw [hq] at C'
    have C := Lib.hid C'
    clear C' hq
    go_enter Try.func5, Try.ntmps5
    go_wp2_with fail
    refine C.out.mono ?_
    rintro e w1 ⟨rfl, hb⟩
    have O0 : Hid (OwnS w1.heap.size (w1.alloc (.cells #[] 9)) (.slice (some ⟨w1.heap.size, 0, none⟩) 0 0) []) := Lib.hid (World.ownsRow_lit (size := 1) (e := 9) w1 #[] 0 (Nat.le_refl _) (by decide) rfl)
    go_wp2_with fail
    go_ret
    exact ⟨_, rfl, by rw [HV.out]; exact ownS_base O0.out hb.size, hb.alloc hb.size _⟩
  · have hl4 : ts.length ≤ 80 := graphOk_len hq
    have HV : Hid (blanksT ts = putAllS [] (blankWords2 ts)) := Lib.hid (by unfold blanksT; rw [if_pos hq, blankWords_is (graphOk_okT hq)])
    rw [hq] at C'
    have C := Lib.hid C'
    clear C' hq
    go_enter Try.func5, Try.ntmps5
    go_wp2_with fail
    refine C.out.mono ?_
    rintro e w1 ⟨rfl, hb⟩
    go_wp2_with fail
    refine (specBlanks a len cap ts w1 (H.out.next hb) HM.out (by have := HL.out; omega)).mono ?_
    rintro e w2 ⟨g, n, c, rfl, o2, hl2, hb2⟩
    go_wp2_with fail
    go_ret
    exact ⟨_, rfl, by rw [HV.out]; exact ownS_base o2 hb.size, hb.trans (hb2.mono hb.size)⟩
end Go.Proofs.Ytcchbhjppbbdpaa
