/- The contracts of StoreOk, the program's and the specification's. -/
import Derived.Test.YteejpceliodcfaaStoL
import Derived.Test.YteejpceliodcfaaEqT
import Derived.Deep.RegionHeld3
import Derived.Deep.RegionWith
namespace Go.Proofs.Yteejpceliodcfaa
open Go.RowKit Go.WideShapes
def storeOk (t1 t2 t3 : List Tri3) : Bool := graphOk t1 && (decide (t2 = sortH 1 t1) && decide (t3 = sortH 2 t1))
set_option maxRecDepth 100000 in
set_option maxHeartbeats 3200000 in
theorem implStoreOk (a1 a2 a3 : Option Addr) (n1 n2 n3 c1 c2 c3 : Nat) (t1 t2 t3 : List Tri3) (w : World) (h : Is3 w a1 a2 a3 n1 n2 n3 c1 c2 c3 t1 t2 t3) (hs : Sm t1) (l1 : n1 ≤ 1048576) (l2 : n2 ≤ 1048576) (l3 : n3 ≤ 1048576) :
    Calls Try.prog 26 #[.agg #[.slice a1 n1 c1, .slice a2 n2 c2, .slice a3 n3 c3]] w fun e w' => e = .returned (.bool (storeOk t1 t2 t3)) ∧ Below w.heap.size w w' := by
  have B0 := (Below.refl w.heap.size w).alloc (Nat.le_refl _) (.cells #[.slice a1 n1 c1, .slice a2 n2 c2, .slice a3 n3 c3] 39)
  have X0 := Box.new w (.slice a1 n1 c1) (.slice a2 n2 c2) (.slice a3 n3 c3) 39
  have HH := Lib.hid h
  have HSM := Lib.hid h.1.small
  have HS1 : Hid (SmV (sortH 1 t1)) := Lib.hid (fun t ht => HSM.out t (sortH_mem.1 ht))
  have HS2 : Hid (SmV (sortH 2 t1)) := Lib.hid (fun t ht => HSM.out t (sortH_mem.1 ht))
  have HT := Lib.hid h.1.len
  have G1 := Lib.hid (fun W hi => implGraphOk a1 n1 c1 t1 W hi hs)
  have P1 := Lib.hid (fun W (hi : IsTris W a1 n1 c1 t1) => implSortedPos a1 n1 c1 t1 W hi l1)
  have P2 := Lib.hid (fun W (hi : IsTris W a1 n1 c1 t1) => implSortedOsp a1 n1 c1 t1 W hi l1)
  have E1 := Lib.hid (fun (b : Option Addr) (d : Nat) W (hi : IsTris W a2 n2 c2 t2) hj (hm : (sortH 1 t1).length ≤ 9223372036854775807) => implEqT a2 b n2 c2 (sortH 1 t1).length d t2 (sortH 1 t1) W hi hj l2 hm)
  have E2 := Lib.hid (fun (b : Option Addr) (d : Nat) W (hi : IsTris W a3 n3 c3 t3) hj (hm : (sortH 2 t1).length ≤ 9223372036854775807) => implEqT a3 b n3 c3 (sortH 2 t1).length d t3 (sortH 2 t1) W hi hj l3 hm)
  have hm1 : (sortH 1 t1).length ≤ 9223372036854775807 := by rw [sortH_len, HT.out]; omega
  have hm2 : (sortH 2 t1).length ≤ 9223372036854775807 := by rw [sortH_len, HT.out]; omega
  have BH := Lib.hid B0
  have XH := Lib.hid X0
  clear h B0 hs
  cases hg : graphOk t1
  · have HR : Hid (storeOk t1 t2 t3 = false) := Lib.hid (by unfold storeOk; rw [hg]; rfl)
    have C := G1.out _ (HH.out.1.next BH.out)
    rw [hg] at C
    have HC := Lib.hid C
    clear C hg
    obtain ⟨y0, y1, y2⟩ := X0.cells
    go_enter Try.func26, Try.ntmps26
    go_wp2_with fail
    refine HC.out.mono ?_
    rintro e w1 ⟨rfl, hb⟩
    go_wp2_with fail
    go_ret
    exact ⟨by rw [HR.out]; rfl, BH.out.trans (hb.mono BH.out.size)⟩
  have C := G1.out _ (HH.out.1.next BH.out)
  rw [hg] at C
  have HC := Lib.hid C
  have HG := Lib.hid hg
  have HST : Hid (storeOk t1 t2 t3 = (decide (t2 = sortH 1 t1) && decide (t3 = sortH 2 t1))) := Lib.hid (by unfold storeOk; rw [hg]; rfl)
  clear C hg
  cases hq1 : decide (t2 = sortH 1 t1)
  · have HR : Hid (storeOk t1 t2 t3 = false) := Lib.hid (by rw [HST.out, hq1]; rfl)
    obtain ⟨y0, y1, y2⟩ := X0.cells
    go_enter Try.func26, Try.ntmps26
    go_wp2_with fail
    refine HC.out.mono ?_
    rintro e w1 ⟨rfl, hb⟩
    have B1 := Lib.hid (BH.out.trans (hb.mono BH.out.size))
    have X1 := Lib.hid (XH.out.next hb)
    clear hb y0 y1 y2 X0
    obtain ⟨q0, q1, q2⟩ := X1.out.drew.cells
    go_wp2_with fail
    refine wp_region_any (by kernel_rfl) ?_
    change wpAny _ _ _ _ _ _ _ (World.drew _)
    refine wpAny_take (i := 0) (v := ?_) rfl (by kernel_rfl) (by kernel_rfl) (by kernel_rfl) (fun _ _ _ h => h) (Or.inl ⟨by kernel_rfl, ?_⟩) ?_
    rotate_left
    · intro w; go_simp; try with_reducible rfl
    refine wpAny_take (i := 2) (v := ?_) rfl (by kernel_rfl) (by kernel_rfl) (by kernel_rfl) (fun _ _ _ h => h) (Or.inl ⟨by kernel_rfl, ?_⟩) ?_
    rotate_left
    · intro w; go_simp; try with_reducible rfl
    refine wpAny_ready (rs := [1, 3]) (by kernel_rfl) (by simp) ?_
    refine (AllReady.cons rfl (fun K hK => ?_) (AllReady.cons rfl (fun K hK => ?_) AllReady.nil))
    · go_simp
      refine hK _ _ ?_
      clear hK K
      refine wpAny_ready (rs := [3]) (by kernel_rfl) (by simp) ?_
      refine (AllReady.cons rfl (fun K hK => ?_) AllReady.nil)
      go_simp
      refine hK _ _ ?_
      clear hK K
      refine wpAny_ready (rs := [4]) (by kernel_rfl) (by simp) ?_
      refine (AllReady.cons rfl (fun K hK => ?_) AllReady.nil)
      go_simp
      refine (P1.out _ (HH.out.1.next B1.out.drew)).mono ?_
      rintro e w2 ⟨v, rfl, o2, hb⟩
      obtain ⟨x2, d2, rfl, io2⟩ := OwnT.is o2 HS1.out
      have B2 := Lib.hid (B1.out.drew.trans (hb.mono B1.out.size))
      have X2 := Lib.hid (X1.out.drew.next hb)
      clear hb o2
      obtain ⟨y0, y1, y2⟩ := X2.out.cells
      go_wp2_with fail
      refine wpAny_ready (rs := [5]) (by kernel_rfl) (by simp) ?_
      refine (AllReady.cons rfl (fun K hK => ?_) AllReady.nil)
      go_simp
      refine (E1.out _ _ _ (HH.out.2.1.next B2.out) io2 hm1).mono ?_
      rintro e w3 ⟨rfl, hb⟩
      rw [hq1]
      have B3 := B2.out.trans (hb.mono B2.out.size)
      clear hb
      go_wp2_with fail
      refine wpAny_take (i := 6) (v := ?_) rfl (by kernel_rfl) (by kernel_rfl) (by kernel_rfl) (fun _ _ _ h => h) (Or.inl ⟨by kernel_rfl, ?_⟩) ?_
      rotate_left
      · intro w; go_simp; try with_reducible rfl
      refine wpAny_take (i := 7) (v := undef) rfl (by kernel_rfl) (by kernel_rfl) (by kernel_rfl) (fun _ _ _ h => h) (Or.inr ⟨by kernel_rfl, rfl⟩) ?_
      refine wpAny_take (i := 8) (v := undef) rfl (by kernel_rfl) (by kernel_rfl) (by kernel_rfl) (fun _ _ _ h => h) (Or.inr ⟨by kernel_rfl, rfl⟩) ?_
      refine wpAny_take (i := 9) (v := undef) rfl (by kernel_rfl) (by kernel_rfl) (by kernel_rfl) (fun _ _ _ h => h) (Or.inr ⟨by kernel_rfl, rfl⟩) ?_
      refine wpAny_take (i := 10) (v := undef) rfl (by kernel_rfl) (by kernel_rfl) (by kernel_rfl) (fun _ _ _ h => h) (Or.inr ⟨by kernel_rfl, rfl⟩) ?_
      refine wpAny_take (i := 11) (v := undef) rfl (by kernel_rfl) (by kernel_rfl) (by kernel_rfl) (fun _ _ _ h => h) (Or.inr ⟨by kernel_rfl, rfl⟩) ?_
      refine wpAny_take (i := 12) (v := undef) rfl (by kernel_rfl) (by kernel_rfl) (by kernel_rfl) (fun _ _ _ h => h) (Or.inr ⟨by kernel_rfl, rfl⟩) ?_
      refine wpAny_take (i := 13) (v := ?_) rfl (by kernel_rfl) (by kernel_rfl) (by kernel_rfl) (fun _ _ _ h => h) (Or.inl ⟨by kernel_rfl, ?_⟩) ?_
      rotate_left
      · intro w; go_simp; try with_reducible rfl
      refine wpAny_take (i := 14) (v := ?_) rfl (by kernel_rfl) (by kernel_rfl) (by kernel_rfl) (fun _ _ _ h => h) (Or.inl ⟨by kernel_rfl, ?_⟩) ?_
      rotate_left
      · intro w; go_simp; try with_reducible rfl
      refine wpAny_done (by kernel_rfl) ?_ _
      try simp only [Act.put, List.setIfInBounds_toArray, List.set_cons_zero, List.set_cons_succ, List.getElem_toArray, List.getElem_cons_zero, List.getElem_cons_succ]
      clear io2 y0 y1 y2 q0 q1 q2
      go_wp2_with fail
      go_ret
      exact ⟨by rw [HR.out]; rfl, B3⟩
    · go_simp
      refine hK _ _ ?_
      clear hK K
      refine wpAny_ready (rs := [1, 4]) (by kernel_rfl) (by simp) ?_
      refine (AllReady.cons rfl (fun K hK => ?_) (AllReady.cons rfl (fun K hK => ?_) AllReady.nil))
      · go_simp
        refine hK _ _ ?_
        clear hK K
        refine wpAny_ready (rs := [4]) (by kernel_rfl) (by simp) ?_
        refine (AllReady.cons rfl (fun K hK => ?_) AllReady.nil)
        go_simp
        refine (P1.out _ (HH.out.1.next B1.out.drew)).mono ?_
        rintro e w2 ⟨v, rfl, o2, hb⟩
        obtain ⟨x2, d2, rfl, io2⟩ := OwnT.is o2 HS1.out
        have B2 := Lib.hid (B1.out.drew.trans (hb.mono B1.out.size))
        have X2 := Lib.hid (X1.out.drew.next hb)
        clear hb o2
        obtain ⟨y0, y1, y2⟩ := X2.out.cells
        go_wp2_with fail
        refine wpAny_ready (rs := [5]) (by kernel_rfl) (by simp) ?_
        refine (AllReady.cons rfl (fun K hK => ?_) AllReady.nil)
        go_simp
        refine (E1.out _ _ _ (HH.out.2.1.next B2.out) io2 hm1).mono ?_
        rintro e w3 ⟨rfl, hb⟩
        rw [hq1]
        have B3 := B2.out.trans (hb.mono B2.out.size)
        clear hb
        go_wp2_with fail
        refine wpAny_take (i := 6) (v := ?_) rfl (by kernel_rfl) (by kernel_rfl) (by kernel_rfl) (fun _ _ _ h => h) (Or.inl ⟨by kernel_rfl, ?_⟩) ?_
        rotate_left
        · intro w; go_simp; try with_reducible rfl
        refine wpAny_take (i := 7) (v := undef) rfl (by kernel_rfl) (by kernel_rfl) (by kernel_rfl) (fun _ _ _ h => h) (Or.inr ⟨by kernel_rfl, rfl⟩) ?_
        refine wpAny_take (i := 8) (v := undef) rfl (by kernel_rfl) (by kernel_rfl) (by kernel_rfl) (fun _ _ _ h => h) (Or.inr ⟨by kernel_rfl, rfl⟩) ?_
        refine wpAny_take (i := 9) (v := undef) rfl (by kernel_rfl) (by kernel_rfl) (by kernel_rfl) (fun _ _ _ h => h) (Or.inr ⟨by kernel_rfl, rfl⟩) ?_
        refine wpAny_take (i := 10) (v := undef) rfl (by kernel_rfl) (by kernel_rfl) (by kernel_rfl) (fun _ _ _ h => h) (Or.inr ⟨by kernel_rfl, rfl⟩) ?_
        refine wpAny_take (i := 11) (v := undef) rfl (by kernel_rfl) (by kernel_rfl) (by kernel_rfl) (fun _ _ _ h => h) (Or.inr ⟨by kernel_rfl, rfl⟩) ?_
        refine wpAny_take (i := 12) (v := undef) rfl (by kernel_rfl) (by kernel_rfl) (by kernel_rfl) (fun _ _ _ h => h) (Or.inr ⟨by kernel_rfl, rfl⟩) ?_
        refine wpAny_take (i := 13) (v := ?_) rfl (by kernel_rfl) (by kernel_rfl) (by kernel_rfl) (fun _ _ _ h => h) (Or.inl ⟨by kernel_rfl, ?_⟩) ?_
        rotate_left
        · intro w; go_simp; try with_reducible rfl
        refine wpAny_take (i := 14) (v := ?_) rfl (by kernel_rfl) (by kernel_rfl) (by kernel_rfl) (fun _ _ _ h => h) (Or.inl ⟨by kernel_rfl, ?_⟩) ?_
        rotate_left
        · intro w; go_simp; try with_reducible rfl
        refine wpAny_done (by kernel_rfl) ?_ _
        try simp only [Act.put, List.setIfInBounds_toArray, List.set_cons_zero, List.set_cons_succ, List.getElem_toArray, List.getElem_cons_zero, List.getElem_cons_succ]
        clear io2 y0 y1 y2 q0 q1 q2
        go_wp2_with fail
        go_ret
        exact ⟨by rw [HR.out]; rfl, B3⟩
      · go_simp
        refine (P1.out _ (HH.out.1.next B1.out.drew)).mono ?_
        rintro e w2 ⟨v, rfl, o2, hb⟩
        obtain ⟨x2, d2, rfl, io2⟩ := OwnT.is o2 HS1.out
        have B2 := Lib.hid (B1.out.drew.trans (hb.mono B1.out.size))
        have X2 := Lib.hid (X1.out.drew.next hb)
        clear hb o2
        obtain ⟨y0, y1, y2⟩ := X2.out.cells
        go_wp2_with fail
        refine wpAny_ready (rs := [1]) (by kernel_rfl) (by simp) ?_
        refine (AllReady.cons rfl (fun K hK => ?_) AllReady.nil)
        go_simp
        refine hK _ _ ?_
        clear hK K
        refine wpAny_ready (rs := [5]) (by kernel_rfl) (by simp) ?_
        refine (AllReady.cons rfl (fun K hK => ?_) AllReady.nil)
        go_simp
        refine (E1.out _ _ _ (HH.out.2.1.next B2.out) io2 hm1).mono ?_
        rintro e w3 ⟨rfl, hb⟩
        rw [hq1]
        have B3 := B2.out.trans (hb.mono B2.out.size)
        clear hb
        go_wp2_with fail
        refine wpAny_take (i := 6) (v := ?_) rfl (by kernel_rfl) (by kernel_rfl) (by kernel_rfl) (fun _ _ _ h => h) (Or.inl ⟨by kernel_rfl, ?_⟩) ?_
        rotate_left
        · intro w; go_simp; try with_reducible rfl
        refine wpAny_take (i := 7) (v := undef) rfl (by kernel_rfl) (by kernel_rfl) (by kernel_rfl) (fun _ _ _ h => h) (Or.inr ⟨by kernel_rfl, rfl⟩) ?_
        refine wpAny_take (i := 8) (v := undef) rfl (by kernel_rfl) (by kernel_rfl) (by kernel_rfl) (fun _ _ _ h => h) (Or.inr ⟨by kernel_rfl, rfl⟩) ?_
        refine wpAny_take (i := 9) (v := undef) rfl (by kernel_rfl) (by kernel_rfl) (by kernel_rfl) (fun _ _ _ h => h) (Or.inr ⟨by kernel_rfl, rfl⟩) ?_
        refine wpAny_take (i := 10) (v := undef) rfl (by kernel_rfl) (by kernel_rfl) (by kernel_rfl) (fun _ _ _ h => h) (Or.inr ⟨by kernel_rfl, rfl⟩) ?_
        refine wpAny_take (i := 11) (v := undef) rfl (by kernel_rfl) (by kernel_rfl) (by kernel_rfl) (fun _ _ _ h => h) (Or.inr ⟨by kernel_rfl, rfl⟩) ?_
        refine wpAny_take (i := 12) (v := undef) rfl (by kernel_rfl) (by kernel_rfl) (by kernel_rfl) (fun _ _ _ h => h) (Or.inr ⟨by kernel_rfl, rfl⟩) ?_
        refine wpAny_take (i := 13) (v := ?_) rfl (by kernel_rfl) (by kernel_rfl) (by kernel_rfl) (fun _ _ _ h => h) (Or.inl ⟨by kernel_rfl, ?_⟩) ?_
        rotate_left
        · intro w; go_simp; try with_reducible rfl
        refine wpAny_take (i := 14) (v := ?_) rfl (by kernel_rfl) (by kernel_rfl) (by kernel_rfl) (fun _ _ _ h => h) (Or.inl ⟨by kernel_rfl, ?_⟩) ?_
        rotate_left
        · intro w; go_simp; try with_reducible rfl
        refine wpAny_done (by kernel_rfl) ?_ _
        try simp only [Act.put, List.setIfInBounds_toArray, List.set_cons_zero, List.set_cons_succ, List.getElem_toArray, List.getElem_cons_zero, List.getElem_cons_succ]
        clear io2 y0 y1 y2 q0 q1 q2
        go_wp2_with fail
        go_ret
        exact ⟨by rw [HR.out]; rfl, B3⟩
  · have E1q := E1.out
    rw [hq1] at E1q
    have HE1 := Lib.hid E1q
    have HR : Hid (storeOk t1 t2 t3 = decide (t3 = sortH 2 t1)) := Lib.hid (by rw [HST.out, hq1]; rfl)
    clear E1 E1q hq1
    obtain ⟨qq, hqq⟩ : ∃ q, decide (t3 = sortH 2 t1) = q := ⟨_, rfl⟩
    have E2q := E2.out
    rw [hqq] at E2q
    have HE2 := Lib.hid E2q
    have HQ := Lib.hid hqq
    clear E2 E2q hqq
    obtain ⟨y0, y1, y2⟩ := X0.cells
    go_enter Try.func26, Try.ntmps26
    go_wp2_with fail
    refine HC.out.mono ?_
    rintro e w1 ⟨rfl, hb⟩
    have B1 := Lib.hid (BH.out.trans (hb.mono BH.out.size))
    have X1 := Lib.hid (XH.out.next hb)
    clear hb y0 y1 y2 X0
    obtain ⟨y0, y1, y2⟩ := X1.out.drew.cells
    go_wp2_with fail
    go_region_held3 (fun w' => w'.cell? ⟨w.heap.size, 0, none⟩ = some (.slice a1 n1 c1) ∧ w'.cell? ⟨w.heap.size, 1, none⟩ = some (.slice a2 n2 c2) ∧ w'.cell? ⟨w.heap.size, 2, none⟩ = some (.slice a3 n3 c3))
      (first | go_keep | with_reducible exact X5.out.cells | with_reducible exact X4.out.cells | with_reducible exact X3.out.cells | with_reducible exact X2.out.cells)
      (first
        | (go_at_call 65; have X33 := X3; clear X33; refine (P2.out _ (HH.out.1.next B3.out)).mono ?_; rintro e w4 ⟨v, rfl, o4, hb⟩; obtain ⟨x4, d4, rfl, io4⟩ := OwnT.is o4 HS2.out; have B4 := Lib.hid (B3.out.trans (hb.mono B3.out.size)); have X4 := Lib.hid (X3.out.next hb); clear hb o4)
        | (go_at_call 65; refine (P1.out _ (HH.out.1.next B1.out.drew)).mono ?_; rintro e w2 ⟨v, rfl, o2, hb⟩; obtain ⟨x2, d2, rfl, io2⟩ := OwnT.is o2 HS1.out; have B2 := Lib.hid (B1.out.drew.trans (hb.mono B1.out.size)); have X2 := Lib.hid (X1.out.drew.next hb); clear hb o2)
        | (go_at_call_of 72 (Value.slice a2 n2 c2); refine (HE1.out _ _ _ (HH.out.2.1.next B2.out) io2 hm1).mono ?_; rintro e w3 ⟨rfl, hb⟩; have B3 := Lib.hid (B2.out.trans (hb.mono B2.out.size)); have X3 := Lib.hid (X2.out.next hb); clear hb)
        | (go_at_call_of 72 (Value.slice a3 n3 c3); refine (HE2.out _ _ _ (HH.out.2.2.next B4.out) io4 hm2).mono ?_; rintro e w5 ⟨rfl, hb⟩; have B5 := Lib.hid (B4.out.trans (hb.mono B4.out.size)); have X5 := Lib.hid (X4.out.next hb); clear hb))
    all_goals
      go_wp2_with fail
      go_ret
      exact ⟨by rw [HR.out, HQ.out]; rfl, B5.out⟩
set_option maxRecDepth 100000 in
set_option maxHeartbeats 3200000 in
theorem specStoreOk (a1 a2 a3 : Option Addr) (n1 n2 n3 c1 c2 c3 : Nat) (t1 t2 t3 : List Tri3) (w : World) (h : Is3 w a1 a2 a3 n1 n2 n3 c1 c2 c3 t1 t2 t3) (hs : Sm t1) (l1 : n1 ≤ 1048576) (l2 : n2 ≤ 1048576) (l3 : n3 ≤ 1048576) :
    Calls Try.prog 27 #[.agg #[.slice a1 n1 c1, .slice a2 n2 c2, .slice a3 n3 c3]] w fun e w' => e = .returned (.bool (storeOk t1 t2 t3)) ∧ Below w.heap.size w w' := by
  have B0 := (Below.refl w.heap.size w).alloc (Nat.le_refl _) (.cells #[.slice a1 n1 c1, .slice a2 n2 c2, .slice a3 n3 c3] 39)
  have X0 := Box.new w (.slice a1 n1 c1) (.slice a2 n2 c2) (.slice a3 n3 c3) 39
  have HH := Lib.hid h
  have HSM := Lib.hid h.1.small
  have HS1 : Hid (SmV (sortH 1 t1)) := Lib.hid (fun t ht => HSM.out t (sortH_mem.1 ht))
  have HS2 : Hid (SmV (sortH 2 t1)) := Lib.hid (fun t ht => HSM.out t (sortH_mem.1 ht))
  have HT := Lib.hid h.1.len
  have G1 := Lib.hid (fun W hi => specGraphOk a1 n1 c1 t1 W hi hs)
  have P1 := Lib.hid (fun W (hi : IsTris W a1 n1 c1 t1) => specSorted1 a1 n1 c1 t1 W hi l1)
  have P2 := Lib.hid (fun W (hi : IsTris W a1 n1 c1 t1) => specSorted2 a1 n1 c1 t1 W hi l1)
  have E1 := Lib.hid (fun (b : Option Addr) (d : Nat) W (hi : IsTris W a2 n2 c2 t2) hj (hm : (sortH 1 t1).length ≤ 9223372036854775807) => specSameT a2 b n2 c2 (sortH 1 t1).length d t2 (sortH 1 t1) W hi hj l2 hm)
  have E2 := Lib.hid (fun (b : Option Addr) (d : Nat) W (hi : IsTris W a3 n3 c3 t3) hj (hm : (sortH 2 t1).length ≤ 9223372036854775807) => specSameT a3 b n3 c3 (sortH 2 t1).length d t3 (sortH 2 t1) W hi hj l3 hm)
  have hm1 : (sortH 1 t1).length ≤ 9223372036854775807 := by rw [sortH_len, HT.out]; omega
  have hm2 : (sortH 2 t1).length ≤ 9223372036854775807 := by rw [sortH_len, HT.out]; omega
  have BH := Lib.hid B0
  have XH := Lib.hid X0
  clear h B0 hs
  cases hg : graphOk t1
  · have HR : Hid (storeOk t1 t2 t3 = false) := Lib.hid (by unfold storeOk; rw [hg]; rfl)
    have C := fun W hi => G1.out W hi
    rw [hg] at C
    have HC := Lib.hid (C _ (HH.out.1.next BH.out.drew))
    clear C hg
    obtain ⟨y0, y1, y2⟩ := X0.drew.cells
    go_enter Try.func27, Try.ntmps27
    go_wp2_with fail
    refine wp_region_any (by kernel_rfl) ?_
    change wpAny _ _ _ _ _ _ _ (World.drew _)
    refine wpAny_take (i := 0) (v := ?_) rfl (by kernel_rfl) (by kernel_rfl) (by kernel_rfl) (fun _ _ _ h => h) (Or.inl ⟨by kernel_rfl, ?_⟩) ?_
    rotate_left
    · intro w; go_simp; try with_reducible rfl
    refine wpAny_ready (rs := [1]) (by kernel_rfl) (by simp) ?_
    refine (AllReady.cons rfl (fun K hK => ?_) AllReady.nil)
    go_simp
    refine hK _ _ ?_
    clear hK K
    refine wpAny_ready (rs := [2]) (by kernel_rfl) (by simp) ?_
    refine (AllReady.cons rfl (fun K hK => ?_) AllReady.nil)
    go_simp
    refine HC.out.mono ?_
    rintro e w1 ⟨rfl, hb⟩
    have B1 := BH.out.drew.trans (hb.mono BH.out.size)
    clear hb
    go_wp2_with fail
    refine wpAny_take (i := 3) (v := ?_) rfl (by kernel_rfl) (by kernel_rfl) (by kernel_rfl) (fun _ _ _ h => h) (Or.inl ⟨by kernel_rfl, ?_⟩) ?_
    rotate_left
    · intro w; go_simp; try with_reducible rfl
    refine wpAny_take (i := 4) (v := undef) rfl (by kernel_rfl) (by kernel_rfl) (by kernel_rfl) (fun _ _ _ h => h) (Or.inr ⟨by kernel_rfl, rfl⟩) ?_
    refine wpAny_take (i := 5) (v := undef) rfl (by kernel_rfl) (by kernel_rfl) (by kernel_rfl) (fun _ _ _ h => h) (Or.inr ⟨by kernel_rfl, rfl⟩) ?_
    refine wpAny_take (i := 6) (v := undef) rfl (by kernel_rfl) (by kernel_rfl) (by kernel_rfl) (fun _ _ _ h => h) (Or.inr ⟨by kernel_rfl, rfl⟩) ?_
    refine wpAny_take (i := 7) (v := undef) rfl (by kernel_rfl) (by kernel_rfl) (by kernel_rfl) (fun _ _ _ h => h) (Or.inr ⟨by kernel_rfl, rfl⟩) ?_
    refine wpAny_take (i := 8) (v := undef) rfl (by kernel_rfl) (by kernel_rfl) (by kernel_rfl) (fun _ _ _ h => h) (Or.inr ⟨by kernel_rfl, rfl⟩) ?_
    refine wpAny_take (i := 9) (v := undef) rfl (by kernel_rfl) (by kernel_rfl) (by kernel_rfl) (fun _ _ _ h => h) (Or.inr ⟨by kernel_rfl, rfl⟩) ?_
    refine wpAny_take (i := 10) (v := ?_) rfl (by kernel_rfl) (by kernel_rfl) (by kernel_rfl) (fun _ _ _ h => h) (Or.inl ⟨by kernel_rfl, ?_⟩) ?_
    rotate_left
    · intro w; go_simp; try with_reducible rfl
    refine wpAny_take (i := 11) (v := ?_) rfl (by kernel_rfl) (by kernel_rfl) (by kernel_rfl) (fun _ _ _ h => h) (Or.inl ⟨by kernel_rfl, ?_⟩) ?_
    rotate_left
    · intro w; go_simp; try with_reducible rfl
    refine wpAny_take (i := 12) (v := undef) rfl (by kernel_rfl) (by kernel_rfl) (by kernel_rfl) (fun _ _ _ h => h) (Or.inr ⟨by kernel_rfl, rfl⟩) ?_
    refine wpAny_take (i := 13) (v := undef) rfl (by kernel_rfl) (by kernel_rfl) (by kernel_rfl) (fun _ _ _ h => h) (Or.inr ⟨by kernel_rfl, rfl⟩) ?_
    refine wpAny_take (i := 14) (v := undef) rfl (by kernel_rfl) (by kernel_rfl) (by kernel_rfl) (fun _ _ _ h => h) (Or.inr ⟨by kernel_rfl, rfl⟩) ?_
    refine wpAny_take (i := 15) (v := undef) rfl (by kernel_rfl) (by kernel_rfl) (by kernel_rfl) (fun _ _ _ h => h) (Or.inr ⟨by kernel_rfl, rfl⟩) ?_
    refine wpAny_take (i := 16) (v := undef) rfl (by kernel_rfl) (by kernel_rfl) (by kernel_rfl) (fun _ _ _ h => h) (Or.inr ⟨by kernel_rfl, rfl⟩) ?_
    refine wpAny_take (i := 17) (v := undef) rfl (by kernel_rfl) (by kernel_rfl) (by kernel_rfl) (fun _ _ _ h => h) (Or.inr ⟨by kernel_rfl, rfl⟩) ?_
    refine wpAny_take (i := 18) (v := ?_) rfl (by kernel_rfl) (by kernel_rfl) (by kernel_rfl) (fun _ _ _ h => h) (Or.inl ⟨by kernel_rfl, ?_⟩) ?_
    rotate_left
    · intro w; go_simp; try with_reducible rfl
    refine wpAny_take (i := 19) (v := ?_) rfl (by kernel_rfl) (by kernel_rfl) (by kernel_rfl) (fun _ _ _ h => h) (Or.inl ⟨by kernel_rfl, ?_⟩) ?_
    rotate_left
    · intro w; go_simp; try with_reducible rfl
    refine wpAny_done (by kernel_rfl) ?_ _
    try simp only [Act.put, List.setIfInBounds_toArray, List.set_cons_zero, List.set_cons_succ, List.getElem_toArray, List.getElem_cons_zero, List.getElem_cons_succ]
    clear y0 y1 y2 X0
    go_wp2_with fail
    go_ret
    exact ⟨by rw [HR.out]; rfl, B1⟩
  have C := fun W hi => G1.out W hi
  rw [hg] at C
  have HC := Lib.hid (C _ (HH.out.1.next BH.out.drew))
  have HST : Hid (storeOk t1 t2 t3 = (decide (t2 = sortH 1 t1) && decide (t3 = sortH 2 t1))) := Lib.hid (by unfold storeOk; rw [hg]; rfl)
  have I1 : Hid (insH 1 t1 = sortH 1 t1) := Lib.hid (insH_is (graph_nodup hg))
  have I2 : Hid (insH 2 t1 = sortH 2 t1) := Lib.hid (insH_is (graph_nodup hg))
  clear C hg
  cases hq1 : decide (t2 = sortH 1 t1)
  · have HR : Hid (storeOk t1 t2 t3 = false) := Lib.hid (by rw [HST.out, hq1]; rfl)
    have E1q := E1.out
    rw [hq1] at E1q
    have HE1 := Lib.hid E1q
    clear E1 E1q hq1
    obtain ⟨y0, y1, y2⟩ := X0.drew.cells
    go_enter Try.func27, Try.ntmps27
    go_wp2_with fail
    refine wp_region_any (by kernel_rfl) ?_
    change wpAny _ _ _ _ _ _ _ (World.drew _)
    refine wpAny_take (i := 0) (v := ?_) rfl (by kernel_rfl) (by kernel_rfl) (by kernel_rfl) (fun _ _ _ h => h) (Or.inl ⟨by kernel_rfl, ?_⟩) ?_
    rotate_left
    · intro w; go_simp; try with_reducible rfl
    refine wpAny_ready (rs := [1]) (by kernel_rfl) (by simp) ?_
    refine (AllReady.cons rfl (fun K hK => ?_) AllReady.nil)
    go_simp
    refine hK _ _ ?_
    clear hK K
    refine wpAny_ready (rs := [2]) (by kernel_rfl) (by simp) ?_
    refine (AllReady.cons rfl (fun K hK => ?_) AllReady.nil)
    go_simp
    refine HC.out.mono ?_
    rintro e w1 ⟨rfl, hb⟩
    have B1 := Lib.hid (BH.out.drew.trans (hb.mono BH.out.size))
    have X1 := Lib.hid (XH.out.drew.next hb)
    clear hb y0 y1 y2
    obtain ⟨y0, y1, y2⟩ := X1.out.cells
    go_wp2_with fail
    refine wpAny_take (i := 3) (v := ?_) rfl (by kernel_rfl) (by kernel_rfl) (by kernel_rfl) (fun _ _ _ h => h) (Or.inl ⟨by kernel_rfl, ?_⟩) ?_
    rotate_left
    · intro w; go_simp; try with_reducible rfl
    refine wpAny_take (i := 4) (v := ?_) rfl (by kernel_rfl) (by kernel_rfl) (by kernel_rfl) (fun _ _ _ h => h) (Or.inl ⟨by kernel_rfl, ?_⟩) ?_
    rotate_left
    · intro w; go_simp; try with_reducible rfl
    refine wpAny_take (i := 6) (v := ?_) rfl (by kernel_rfl) (by kernel_rfl) (by kernel_rfl) (fun _ _ _ h => h) (Or.inl ⟨by kernel_rfl, ?_⟩) ?_
    rotate_left
    · intro w; go_simp; try with_reducible rfl
    refine wpAny_ready (rs := [5, 7]) (by kernel_rfl) (by simp) ?_
    refine (AllReady.cons rfl (fun K hK => ?_) (AllReady.cons rfl (fun K hK => ?_) AllReady.nil))
    · go_simp
      refine hK _ _ ?_
      clear hK K
      refine wpAny_ready (rs := [7]) (by kernel_rfl) (by simp) ?_
      refine (AllReady.cons rfl (fun K hK => ?_) AllReady.nil)
      go_simp
      refine hK _ _ ?_
      clear hK K
      refine wpAny_ready (rs := [8]) (by kernel_rfl) (by simp) ?_
      refine (AllReady.cons rfl (fun K hK => ?_) AllReady.nil)
      go_simp
      refine (P1.out _ (HH.out.1.next B1.out)).mono ?_
      rintro e w2 ⟨v, rfl, o2, hb⟩
      rw [I1.out] at o2
      obtain ⟨x2, d2, rfl, io2⟩ := OwnT.is o2 HS1.out
      have B2 := Lib.hid (B1.out.trans (hb.mono B1.out.size))
      have X2 := Lib.hid (X1.out.next hb)
      clear hb o2 y0 y1 y2
      obtain ⟨y0, y1, y2⟩ := X2.out.cells
      go_wp2_with fail
      refine wpAny_ready (rs := [9]) (by kernel_rfl) (by simp) ?_
      refine (AllReady.cons rfl (fun K hK => ?_) AllReady.nil)
      go_simp
      refine (HE1.out _ _ _ (HH.out.2.1.next B2.out) io2 hm1).mono ?_
      rintro e w3 ⟨rfl, hb⟩
      have B3 := B2.out.trans (hb.mono B2.out.size)
      clear hb
      go_wp2_with fail
      refine wpAny_take (i := 10) (v := ?_) rfl (by kernel_rfl) (by kernel_rfl) (by kernel_rfl) (fun _ _ _ h => h) (Or.inl ⟨by kernel_rfl, ?_⟩) ?_
      rotate_left
      · intro w; go_simp; try with_reducible rfl
      refine wpAny_take (i := 11) (v := ?_) rfl (by kernel_rfl) (by kernel_rfl) (by kernel_rfl) (fun _ _ _ h => h) (Or.inl ⟨by kernel_rfl, ?_⟩) ?_
      rotate_left
      · intro w; go_simp; try with_reducible rfl
      refine wpAny_take (i := 12) (v := undef) rfl (by kernel_rfl) (by kernel_rfl) (by kernel_rfl) (fun _ _ _ h => h) (Or.inr ⟨by kernel_rfl, rfl⟩) ?_
      refine wpAny_take (i := 13) (v := undef) rfl (by kernel_rfl) (by kernel_rfl) (by kernel_rfl) (fun _ _ _ h => h) (Or.inr ⟨by kernel_rfl, rfl⟩) ?_
      refine wpAny_take (i := 14) (v := undef) rfl (by kernel_rfl) (by kernel_rfl) (by kernel_rfl) (fun _ _ _ h => h) (Or.inr ⟨by kernel_rfl, rfl⟩) ?_
      refine wpAny_take (i := 15) (v := undef) rfl (by kernel_rfl) (by kernel_rfl) (by kernel_rfl) (fun _ _ _ h => h) (Or.inr ⟨by kernel_rfl, rfl⟩) ?_
      refine wpAny_take (i := 16) (v := undef) rfl (by kernel_rfl) (by kernel_rfl) (by kernel_rfl) (fun _ _ _ h => h) (Or.inr ⟨by kernel_rfl, rfl⟩) ?_
      refine wpAny_take (i := 17) (v := undef) rfl (by kernel_rfl) (by kernel_rfl) (by kernel_rfl) (fun _ _ _ h => h) (Or.inr ⟨by kernel_rfl, rfl⟩) ?_
      refine wpAny_take (i := 18) (v := ?_) rfl (by kernel_rfl) (by kernel_rfl) (by kernel_rfl) (fun _ _ _ h => h) (Or.inl ⟨by kernel_rfl, ?_⟩) ?_
      rotate_left
      · intro w; go_simp; try with_reducible rfl
      refine wpAny_take (i := 19) (v := ?_) rfl (by kernel_rfl) (by kernel_rfl) (by kernel_rfl) (fun _ _ _ h => h) (Or.inl ⟨by kernel_rfl, ?_⟩) ?_
      rotate_left
      · intro w; go_simp; try with_reducible rfl
      refine wpAny_done (by kernel_rfl) ?_ _
      try simp only [Act.put, List.setIfInBounds_toArray, List.set_cons_zero, List.set_cons_succ, List.getElem_toArray, List.getElem_cons_zero, List.getElem_cons_succ]
      clear io2 y0 y1 y2 X0
      go_wp2_with fail
      go_ret
      exact ⟨by rw [HR.out]; rfl, B3⟩
    · go_simp
      refine hK _ _ ?_
      clear hK K
      refine wpAny_ready (rs := [5, 8]) (by kernel_rfl) (by simp) ?_
      refine (AllReady.cons rfl (fun K hK => ?_) (AllReady.cons rfl (fun K hK => ?_) AllReady.nil))
      · go_simp
        refine hK _ _ ?_
        clear hK K
        refine wpAny_ready (rs := [8]) (by kernel_rfl) (by simp) ?_
        refine (AllReady.cons rfl (fun K hK => ?_) AllReady.nil)
        go_simp
        refine (P1.out _ (HH.out.1.next B1.out)).mono ?_
        rintro e w2 ⟨v, rfl, o2, hb⟩
        rw [I1.out] at o2
        obtain ⟨x2, d2, rfl, io2⟩ := OwnT.is o2 HS1.out
        have B2 := Lib.hid (B1.out.trans (hb.mono B1.out.size))
        have X2 := Lib.hid (X1.out.next hb)
        clear hb o2 y0 y1 y2
        obtain ⟨y0, y1, y2⟩ := X2.out.cells
        go_wp2_with fail
        refine wpAny_ready (rs := [9]) (by kernel_rfl) (by simp) ?_
        refine (AllReady.cons rfl (fun K hK => ?_) AllReady.nil)
        go_simp
        refine (HE1.out _ _ _ (HH.out.2.1.next B2.out) io2 hm1).mono ?_
        rintro e w3 ⟨rfl, hb⟩
        have B3 := B2.out.trans (hb.mono B2.out.size)
        clear hb
        go_wp2_with fail
        refine wpAny_take (i := 10) (v := ?_) rfl (by kernel_rfl) (by kernel_rfl) (by kernel_rfl) (fun _ _ _ h => h) (Or.inl ⟨by kernel_rfl, ?_⟩) ?_
        rotate_left
        · intro w; go_simp; try with_reducible rfl
        refine wpAny_take (i := 11) (v := ?_) rfl (by kernel_rfl) (by kernel_rfl) (by kernel_rfl) (fun _ _ _ h => h) (Or.inl ⟨by kernel_rfl, ?_⟩) ?_
        rotate_left
        · intro w; go_simp; try with_reducible rfl
        refine wpAny_take (i := 12) (v := undef) rfl (by kernel_rfl) (by kernel_rfl) (by kernel_rfl) (fun _ _ _ h => h) (Or.inr ⟨by kernel_rfl, rfl⟩) ?_
        refine wpAny_take (i := 13) (v := undef) rfl (by kernel_rfl) (by kernel_rfl) (by kernel_rfl) (fun _ _ _ h => h) (Or.inr ⟨by kernel_rfl, rfl⟩) ?_
        refine wpAny_take (i := 14) (v := undef) rfl (by kernel_rfl) (by kernel_rfl) (by kernel_rfl) (fun _ _ _ h => h) (Or.inr ⟨by kernel_rfl, rfl⟩) ?_
        refine wpAny_take (i := 15) (v := undef) rfl (by kernel_rfl) (by kernel_rfl) (by kernel_rfl) (fun _ _ _ h => h) (Or.inr ⟨by kernel_rfl, rfl⟩) ?_
        refine wpAny_take (i := 16) (v := undef) rfl (by kernel_rfl) (by kernel_rfl) (by kernel_rfl) (fun _ _ _ h => h) (Or.inr ⟨by kernel_rfl, rfl⟩) ?_
        refine wpAny_take (i := 17) (v := undef) rfl (by kernel_rfl) (by kernel_rfl) (by kernel_rfl) (fun _ _ _ h => h) (Or.inr ⟨by kernel_rfl, rfl⟩) ?_
        refine wpAny_take (i := 18) (v := ?_) rfl (by kernel_rfl) (by kernel_rfl) (by kernel_rfl) (fun _ _ _ h => h) (Or.inl ⟨by kernel_rfl, ?_⟩) ?_
        rotate_left
        · intro w; go_simp; try with_reducible rfl
        refine wpAny_take (i := 19) (v := ?_) rfl (by kernel_rfl) (by kernel_rfl) (by kernel_rfl) (fun _ _ _ h => h) (Or.inl ⟨by kernel_rfl, ?_⟩) ?_
        rotate_left
        · intro w; go_simp; try with_reducible rfl
        refine wpAny_done (by kernel_rfl) ?_ _
        try simp only [Act.put, List.setIfInBounds_toArray, List.set_cons_zero, List.set_cons_succ, List.getElem_toArray, List.getElem_cons_zero, List.getElem_cons_succ]
        clear io2 y0 y1 y2 X0
        go_wp2_with fail
        go_ret
        exact ⟨by rw [HR.out]; rfl, B3⟩
      · go_simp
        refine (P1.out _ (HH.out.1.next B1.out)).mono ?_
        rintro e w2 ⟨v, rfl, o2, hb⟩
        rw [I1.out] at o2
        obtain ⟨x2, d2, rfl, io2⟩ := OwnT.is o2 HS1.out
        have B2 := Lib.hid (B1.out.trans (hb.mono B1.out.size))
        have X2 := Lib.hid (X1.out.next hb)
        clear hb o2 y0 y1 y2
        obtain ⟨y0, y1, y2⟩ := X2.out.cells
        go_wp2_with fail
        refine wpAny_ready (rs := [5]) (by kernel_rfl) (by simp) ?_
        refine (AllReady.cons rfl (fun K hK => ?_) AllReady.nil)
        go_simp
        refine hK _ _ ?_
        clear hK K
        refine wpAny_ready (rs := [9]) (by kernel_rfl) (by simp) ?_
        refine (AllReady.cons rfl (fun K hK => ?_) AllReady.nil)
        go_simp
        refine (HE1.out _ _ _ (HH.out.2.1.next B2.out) io2 hm1).mono ?_
        rintro e w3 ⟨rfl, hb⟩
        have B3 := B2.out.trans (hb.mono B2.out.size)
        clear hb
        go_wp2_with fail
        refine wpAny_take (i := 10) (v := ?_) rfl (by kernel_rfl) (by kernel_rfl) (by kernel_rfl) (fun _ _ _ h => h) (Or.inl ⟨by kernel_rfl, ?_⟩) ?_
        rotate_left
        · intro w; go_simp; try with_reducible rfl
        refine wpAny_take (i := 11) (v := ?_) rfl (by kernel_rfl) (by kernel_rfl) (by kernel_rfl) (fun _ _ _ h => h) (Or.inl ⟨by kernel_rfl, ?_⟩) ?_
        rotate_left
        · intro w; go_simp; try with_reducible rfl
        refine wpAny_take (i := 12) (v := undef) rfl (by kernel_rfl) (by kernel_rfl) (by kernel_rfl) (fun _ _ _ h => h) (Or.inr ⟨by kernel_rfl, rfl⟩) ?_
        refine wpAny_take (i := 13) (v := undef) rfl (by kernel_rfl) (by kernel_rfl) (by kernel_rfl) (fun _ _ _ h => h) (Or.inr ⟨by kernel_rfl, rfl⟩) ?_
        refine wpAny_take (i := 14) (v := undef) rfl (by kernel_rfl) (by kernel_rfl) (by kernel_rfl) (fun _ _ _ h => h) (Or.inr ⟨by kernel_rfl, rfl⟩) ?_
        refine wpAny_take (i := 15) (v := undef) rfl (by kernel_rfl) (by kernel_rfl) (by kernel_rfl) (fun _ _ _ h => h) (Or.inr ⟨by kernel_rfl, rfl⟩) ?_
        refine wpAny_take (i := 16) (v := undef) rfl (by kernel_rfl) (by kernel_rfl) (by kernel_rfl) (fun _ _ _ h => h) (Or.inr ⟨by kernel_rfl, rfl⟩) ?_
        refine wpAny_take (i := 17) (v := undef) rfl (by kernel_rfl) (by kernel_rfl) (by kernel_rfl) (fun _ _ _ h => h) (Or.inr ⟨by kernel_rfl, rfl⟩) ?_
        refine wpAny_take (i := 18) (v := ?_) rfl (by kernel_rfl) (by kernel_rfl) (by kernel_rfl) (fun _ _ _ h => h) (Or.inl ⟨by kernel_rfl, ?_⟩) ?_
        rotate_left
        · intro w; go_simp; try with_reducible rfl
        refine wpAny_take (i := 19) (v := ?_) rfl (by kernel_rfl) (by kernel_rfl) (by kernel_rfl) (fun _ _ _ h => h) (Or.inl ⟨by kernel_rfl, ?_⟩) ?_
        rotate_left
        · intro w; go_simp; try with_reducible rfl
        refine wpAny_done (by kernel_rfl) ?_ _
        try simp only [Act.put, List.setIfInBounds_toArray, List.set_cons_zero, List.set_cons_succ, List.getElem_toArray, List.getElem_cons_zero, List.getElem_cons_succ]
        clear io2 y0 y1 y2 X0
        go_wp2_with fail
        go_ret
        exact ⟨by rw [HR.out]; rfl, B3⟩
  · have E1q := E1.out
    rw [hq1] at E1q
    have HE1 := Lib.hid E1q
    have HR : Hid (storeOk t1 t2 t3 = decide (t3 = sortH 2 t1)) := Lib.hid (by rw [HST.out, hq1]; rfl)
    clear E1 E1q hq1
    obtain ⟨qq, hqq⟩ : ∃ q, decide (t3 = sortH 2 t1) = q := ⟨_, rfl⟩
    have E2q := E2.out
    rw [hqq] at E2q
    have HE2 := Lib.hid E2q
    have HQ := Lib.hid hqq
    clear E2 E2q hqq
    obtain ⟨y0, y1, y2⟩ := X0.drew.cells
    go_enter Try.func27, Try.ntmps27
    go_wp2_with fail
    go_region_held3 (fun w' => w'.cell? ⟨w.heap.size, 0, none⟩ = some (.slice a1 n1 c1) ∧ w'.cell? ⟨w.heap.size, 1, none⟩ = some (.slice a2 n2 c2) ∧ w'.cell? ⟨w.heap.size, 2, none⟩ = some (.slice a3 n3 c3))
      (first | go_keep | with_reducible exact X5.out.cells | with_reducible exact X4.out.cells | with_reducible exact X3.out.cells | with_reducible exact X2.out.cells | with_reducible exact X1.out.cells)
      (first
        | (go_at_call 51; refine HC.out.mono ?_; rintro e w1 ⟨rfl, hb⟩; have B1 := Lib.hid (BH.out.drew.trans (hb.mono BH.out.size)); have X1 := Lib.hid (XH.out.drew.next hb); clear hb)
        | (go_at_call 68; have X33 := X3; clear X33; refine (P2.out _ (HH.out.1.next B3.out)).mono ?_; rintro e w4 ⟨v, rfl, o4, hb⟩; rw [I2.out] at o4; obtain ⟨x4, d4, rfl, io4⟩ := OwnT.is o4 HS2.out; have B4 := Lib.hid (B3.out.trans (hb.mono B3.out.size)); have X4 := Lib.hid (X3.out.next hb); clear hb o4)
        | (go_at_call 68; refine (P1.out _ (HH.out.1.next B1.out)).mono ?_; rintro e w2 ⟨v, rfl, o2, hb⟩; rw [I1.out] at o2; obtain ⟨x2, d2, rfl, io2⟩ := OwnT.is o2 HS1.out; have B2 := Lib.hid (B1.out.trans (hb.mono B1.out.size)); have X2 := Lib.hid (X1.out.next hb); clear hb o2)
        | (go_at_call_of 73 (Value.slice a2 n2 c2); refine (HE1.out _ _ _ (HH.out.2.1.next B2.out) io2 hm1).mono ?_; rintro e w3 ⟨rfl, hb⟩; have B3 := Lib.hid (B2.out.trans (hb.mono B2.out.size)); have X3 := Lib.hid (X2.out.next hb); clear hb)
        | (go_at_call_of 73 (Value.slice a3 n3 c3); refine (HE2.out _ _ _ (HH.out.2.2.next B4.out) io4 hm2).mono ?_; rintro e w5 ⟨rfl, hb⟩; have B5 := Lib.hid (B4.out.trans (hb.mono B4.out.size)); have X5 := Lib.hid (X4.out.next hb); clear hb))
    all_goals
      go_wp2_with fail
      go_ret
      exact ⟨by rw [HR.out, HQ.out]; rfl, B5.out⟩
end Go.Proofs.Yteejpceliodcfaa
