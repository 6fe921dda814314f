/- DataOk of the specification. -/
import Derived.Test.YthnpchcfjkepaaaG12
import Derived.Test.YthnpchcfjkepaaaG11
import Derived.Maps.AppendAt
namespace Go.Proofs.Ythnpchcfjkepaaa
open Go.RowKit Go.WideShapes
set_option maxRecDepth 100000 in
set_option maxHeartbeats 3200000 in
theorem specDataOk (a : Option Addr) (len cap : Nat) (ts : List NamV) (w : World) (h : IsNams w a len cap ts) (hsm : SmN ts) :
    Calls Try.prog 32 #[.slice a len cap] w fun e w' => e = .returned (.bool (dataOk ts)) ∧ Below w.heap.size w w' := by
  have hts := h.len
  have hlen := h.maxl
  have HG : Hid (gUpto namT lessN ts ts.length = false → dataOk ts = false) := Lib.hid (fun h => by unfold dataOk; rw [h, Bool.and_false])
  have HG2 : Hid (gUpto namT lessN ts ts.length = true → dataOk ts = decide (len ≤ 6)) := Lib.hid (fun h => by unfold dataOk; rw [h, Bool.and_true, hts])
  have HT := Lib.hid hts
  have H := Lib.hid h
  have HM := Lib.hid hsm
  clear hts h hsm
  go_enter Try.func32, Try.ntmps32
  go_wp2_with fail
  go_loopw [3] (fun i wr => ∃ k : Nat, k ≤ len ∧ i = .int .i64 k ∧ Hid (gUpto namT lessN ts k = true) ∧ Below w.heap.size w wr) (fun i _ => len - (intOf i).toNat)
  case atStart => exact ⟨0, Nat.zero_le _, rfl, Lib.hid rfl, Below.refl _ _⟩
  case round =>
    obtain ⟨k, hk, rfl, hok, hnx⟩ := hrel
    have hk6 : (0 : Int) ≤ (k : Int) := by omega
    by_cases hlt : k < len
    · obtain ⟨b, off, rfl, hb, hl, hm, hts, hc⟩ := H.out.cells (by omega)
      have ht : ts[k]? = some ts[k] := List.getElem?_eq_getElem (by omega)
      have hk7 : (k : Int) < (len : Int) := by omega
      obtain ⟨n1, n2⟩ := HM.out ts[k] (List.getElem_mem _)
      have hsm := HM.out.sm (List.getElem_mem (by omega : k < ts.length))
      obtain ⟨ga, gn, gc, c0, c1, hz, m0⟩ := hc k _ ht
      clear m0 n2
      have hzl := hz.len
      have hz' := hz.next hnx
      rw [← hnx.cell (p := ⟨b, _, none⟩) hb] at c0 c1
      generalize htt : ts[k] = t at c0 c1 ht n1 hsm hz hz' hzl
      clear htt hz
      obtain ⟨s, g⟩ := t
      simp only at c0 c1 n1 hsm hz' hzl
      have A1 := specKindOf s (by omega)
      have A2 := fun W (hb : Below wr.heap.size wr W) => specGraphOk ga gn gc g W (hz'.next hb) hsm
      have l0 : b < wr.heap.size := Nat.lt_of_lt_of_le hb hnx.size
      have BW := Below.refl wr.heap.size wr
      have hnx2 := hnx.drew
      have HZL := Lib.hid hzl
      have HC : Hid (∀ i u, ts[i]? = some u → ∃ a n c, wr.cell? ⟨b, off + i * 2, none⟩ = some (.string u.1) ∧ wr.cell? ⟨b, off + i * 2 + 1, none⟩ = some (.slice a n c)) := Lib.hid (fun i u hu => by
        obtain ⟨a', n', c', d0, d1, _⟩ := hc i u hu
        rw [← hnx.cell (p := ⟨b, _, none⟩) hb] at d0 d1
        exact ⟨a', n', c', d0, d1⟩)
      clear hzl hts hc hm hz' hsm hnx
      by_cases q1 : kindL s.data.toList = 1
      rotate_left
      · have HR : Hid (dataOk ts = false) := Lib.hid (HG.out (gUpto_no (gAt_not ht (by unfold namT; rw [decide_eq_false q1]; rfl)) (by have := HT.out; omega)))
        have q2 : ¬ ((kindL s.data.toList : Nat) : Int) = 1 := by omega
        have q3 : (((kindL s.data.toList : Nat) : Int) == 1) = false := by rw [beq_eq_false_iff_ne]; exact q2
        have q4 : (((kindL s.data.toList : Nat) : Int) != 1) = true := by rw [bne_iff_ne]; exact q2
        have C1 := Lib.hid A1
        clear A1 A2 q1 q2 ht
        go_wp2_with fail
        have y10 := c0
        have y11 := c1
        have D0 : wr.drew.cell? ⟨b, off + k * 2, none⟩ = some (.string s) := c0
        have D1 : wr.drew.cell? ⟨b, off + k * 2 + 1, none⟩ = some (.slice ga gn gc) := c1
        refine wp_region_any (by kernel_rfl) ?_
        change wpAny _ _ _ _ _ _ _ (World.drew _)
        refine wpAny_take (i := 0) (v := ?_) rfl (by kernel_rfl) (by kernel_rfl) (by kernel_rfl) (fun _ _ _ h => h) (Or.inl ⟨by kernel_rfl, ?_⟩) ?_
        rotate_left
        · intro w; go_simp; try with_reducible rfl
        refine wpAny_take (i := 1) (v := ?_) rfl (by kernel_rfl) (by kernel_rfl) (by kernel_rfl) (fun _ _ _ h => h) (Or.inl ⟨by kernel_rfl, ?_⟩) ?_
        rotate_left
        · intro w; go_simp; try with_reducible rfl
        refine wpAny_take (i := 2) (v := ?_) rfl (by kernel_rfl) (by kernel_rfl) (by kernel_rfl) (fun _ _ _ h => h) (Or.inl ⟨by kernel_rfl, ?_⟩) ?_
        rotate_left
        · intro w; go_simp; try with_reducible rfl
        refine wpAny_take (i := 3) (v := ?_) rfl (by kernel_rfl) (by kernel_rfl) (by kernel_rfl) (fun _ _ _ h => h) (Or.inl ⟨by kernel_rfl, ?_⟩) ?_
        rotate_left
        · intro w; go_simp; try with_reducible rfl
        refine wpAny_ready (rs := [4]) (by kernel_rfl) (by simp) ?_
        refine AllReady.cons rfl (fun K hK => ?_) AllReady.nil
        go_simp
        refine hK _ _ ?_
        clear hK K
        refine wpAny_ready (rs := [5]) (by kernel_rfl) (by simp) ?_
        refine AllReady.cons rfl (fun K hK => ?_) AllReady.nil
        go_simp
        refine (C1.out _).mono ?_
        rintro e w5 ⟨rfl, hb5⟩
        have B5 := (BW.drew).trans (hb5.mono BW.size)
        have N5 := hnx2.trans (hb5.mono hnx2.size)
        have E0 : w5.cell? ⟨b, off + k * 2, none⟩ = some (.string s) := (B5.cell (p := ⟨b, _, none⟩) l0).trans c0
        have E1 : w5.cell? ⟨b, off + k * 2 + 1, none⟩ = some (.slice ga gn gc) := (B5.cell (p := ⟨b, _, none⟩) l0).trans c1
        go_wp2_with fail
        refine wpAny_take (i := 6) (v := ?_) rfl (by kernel_rfl) (by kernel_rfl) (by kernel_rfl) (fun _ _ _ h => h) (Or.inl ⟨by kernel_rfl, ?_⟩) ?_
        rotate_left
        · intro w; go_simp; try with_reducible rfl
        refine wpAny_take (i := 7) (v := ?_) rfl (by kernel_rfl) (by kernel_rfl) (by kernel_rfl) (fun _ _ _ h => h) (Or.inl ⟨by kernel_rfl, ?_⟩) ?_
        rotate_left
        · intro w; go_simp; try with_reducible rfl
        refine wpAny_take (i := 8) (v := undef) rfl (by kernel_rfl) (by kernel_rfl) (by kernel_rfl) (fun _ _ _ h => h) (Or.inr ⟨by kernel_rfl, rfl⟩) ?_
        refine wpAny_take (i := 9) (v := undef) rfl (by kernel_rfl) (by kernel_rfl) (by kernel_rfl) (fun _ _ _ h => h) (Or.inr ⟨by kernel_rfl, rfl⟩) ?_
        refine wpAny_take (i := 10) (v := undef) rfl (by kernel_rfl) (by kernel_rfl) (by kernel_rfl) (fun _ _ _ h => h) (Or.inr ⟨by kernel_rfl, rfl⟩) ?_
        refine wpAny_take (i := 11) (v := undef) rfl (by kernel_rfl) (by kernel_rfl) (by kernel_rfl) (fun _ _ _ h => h) (Or.inr ⟨by kernel_rfl, rfl⟩) ?_
        refine wpAny_take (i := 12) (v := undef) rfl (by kernel_rfl) (by kernel_rfl) (by kernel_rfl) (fun _ _ _ h => h) (Or.inr ⟨by kernel_rfl, rfl⟩) ?_
        refine wpAny_take (i := 13) (v := undef) rfl (by kernel_rfl) (by kernel_rfl) (by kernel_rfl) (fun _ _ _ h => h) (Or.inr ⟨by kernel_rfl, rfl⟩) ?_
        refine wpAny_take (i := 14) (v := undef) rfl (by kernel_rfl) (by kernel_rfl) (by kernel_rfl) (fun _ _ _ h => h) (Or.inr ⟨by kernel_rfl, rfl⟩) ?_
        refine wpAny_take (i := 15) (v := ?_) rfl (by kernel_rfl) (by kernel_rfl) (by kernel_rfl) (fun _ _ _ h => h) (Or.inl ⟨by kernel_rfl, ?_⟩) ?_
        rotate_left
        · intro w; go_simp; try with_reducible rfl
        refine wpAny_take (i := 16) (v := ?_) rfl (by kernel_rfl) (by kernel_rfl) (by kernel_rfl) (fun _ _ _ h => h) (Or.inl ⟨by kernel_rfl, ?_⟩) ?_
        rotate_left
        · intro w; go_simp; try with_reducible rfl
        refine wpAny_take (i := 17) (v := undef) rfl (by kernel_rfl) (by kernel_rfl) (by kernel_rfl) (fun _ _ _ h => h) (Or.inr ⟨by kernel_rfl, rfl⟩) ?_
        refine wpAny_take (i := 18) (v := undef) rfl (by kernel_rfl) (by kernel_rfl) (by kernel_rfl) (fun _ _ _ h => h) (Or.inr ⟨by kernel_rfl, rfl⟩) ?_
        refine wpAny_take (i := 19) (v := undef) rfl (by kernel_rfl) (by kernel_rfl) (by kernel_rfl) (fun _ _ _ h => h) (Or.inr ⟨by kernel_rfl, rfl⟩) ?_
        refine wpAny_take (i := 20) (v := undef) rfl (by kernel_rfl) (by kernel_rfl) (by kernel_rfl) (fun _ _ _ h => h) (Or.inr ⟨by kernel_rfl, rfl⟩) ?_
        refine wpAny_take (i := 21) (v := undef) rfl (by kernel_rfl) (by kernel_rfl) (by kernel_rfl) (fun _ _ _ h => h) (Or.inr ⟨by kernel_rfl, rfl⟩) ?_
        refine wpAny_take (i := 22) (v := undef) rfl (by kernel_rfl) (by kernel_rfl) (by kernel_rfl) (fun _ _ _ h => h) (Or.inr ⟨by kernel_rfl, rfl⟩) ?_
        refine wpAny_take (i := 23) (v := undef) rfl (by kernel_rfl) (by kernel_rfl) (by kernel_rfl) (fun _ _ _ h => h) (Or.inr ⟨by kernel_rfl, rfl⟩) ?_
        refine wpAny_take (i := 24) (v := ?_) rfl (by kernel_rfl) (by kernel_rfl) (by kernel_rfl) (fun _ _ _ h => h) (Or.inl ⟨by kernel_rfl, ?_⟩) ?_
        rotate_left
        · intro w; go_simp; try with_reducible rfl
        refine wpAny_take (i := 25) (v := ?_) rfl (by kernel_rfl) (by kernel_rfl) (by kernel_rfl) (fun _ _ _ h => h) (Or.inl ⟨by kernel_rfl, ?_⟩) ?_
        rotate_left
        · intro w; go_simp; try with_reducible rfl
        refine wpAny_take (i := 26) (v := undef) rfl (by kernel_rfl) (by kernel_rfl) (by kernel_rfl) (fun _ _ _ h => h) (Or.inr ⟨by kernel_rfl, rfl⟩) ?_
        refine wpAny_take (i := 27) (v := undef) rfl (by kernel_rfl) (by kernel_rfl) (by kernel_rfl) (fun _ _ _ h => h) (Or.inr ⟨by kernel_rfl, rfl⟩) ?_
        refine wpAny_take (i := 28) (v := undef) rfl (by kernel_rfl) (by kernel_rfl) (by kernel_rfl) (fun _ _ _ h => h) (Or.inr ⟨by kernel_rfl, rfl⟩) ?_
        refine wpAny_take (i := 29) (v := undef) rfl (by kernel_rfl) (by kernel_rfl) (by kernel_rfl) (fun _ _ _ h => h) (Or.inr ⟨by kernel_rfl, rfl⟩) ?_
        refine wpAny_take (i := 30) (v := undef) rfl (by kernel_rfl) (by kernel_rfl) (by kernel_rfl) (fun _ _ _ h => h) (Or.inr ⟨by kernel_rfl, rfl⟩) ?_
        refine wpAny_take (i := 31) (v := undef) rfl (by kernel_rfl) (by kernel_rfl) (by kernel_rfl) (fun _ _ _ h => h) (Or.inr ⟨by kernel_rfl, rfl⟩) ?_
        refine wpAny_take (i := 32) (v := undef) rfl (by kernel_rfl) (by kernel_rfl) (by kernel_rfl) (fun _ _ _ h => h) (Or.inr ⟨by kernel_rfl, rfl⟩) ?_
        refine wpAny_take (i := 33) (v := undef) rfl (by kernel_rfl) (by kernel_rfl) (by kernel_rfl) (fun _ _ _ h => h) (Or.inr ⟨by kernel_rfl, rfl⟩) ?_
        refine wpAny_take (i := 34) (v := undef) rfl (by kernel_rfl) (by kernel_rfl) (by kernel_rfl) (fun _ _ _ h => h) (Or.inr ⟨by kernel_rfl, rfl⟩) ?_
        refine wpAny_take (i := 35) (v := undef) rfl (by kernel_rfl) (by kernel_rfl) (by kernel_rfl) (fun _ _ _ h => h) (Or.inr ⟨by kernel_rfl, rfl⟩) ?_
        refine wpAny_take (i := 36) (v := undef) rfl (by kernel_rfl) (by kernel_rfl) (by kernel_rfl) (fun _ _ _ h => h) (Or.inr ⟨by kernel_rfl, rfl⟩) ?_
        refine wpAny_take (i := 37) (v := undef) rfl (by kernel_rfl) (by kernel_rfl) (by kernel_rfl) (fun _ _ _ h => h) (Or.inr ⟨by kernel_rfl, rfl⟩) ?_
        refine wpAny_take (i := 38) (v := undef) rfl (by kernel_rfl) (by kernel_rfl) (by kernel_rfl) (fun _ _ _ h => h) (Or.inr ⟨by kernel_rfl, rfl⟩) ?_
        refine wpAny_take (i := 39) (v := undef) rfl (by kernel_rfl) (by kernel_rfl) (by kernel_rfl) (fun _ _ _ h => h) (Or.inr ⟨by kernel_rfl, rfl⟩) ?_
        refine wpAny_take (i := 40) (v := undef) rfl (by kernel_rfl) (by kernel_rfl) (by kernel_rfl) (fun _ _ _ h => h) (Or.inr ⟨by kernel_rfl, rfl⟩) ?_
        refine wpAny_take (i := 41) (v := undef) rfl (by kernel_rfl) (by kernel_rfl) (by kernel_rfl) (fun _ _ _ h => h) (Or.inr ⟨by kernel_rfl, rfl⟩) ?_
        refine wpAny_take (i := 42) (v := ?_) rfl (by kernel_rfl) (by kernel_rfl) (by kernel_rfl) (fun _ _ _ h => h) (Or.inl ⟨by kernel_rfl, ?_⟩) ?_
        rotate_left
        · intro w; go_simp; try with_reducible rfl
        refine wpAny_done (by kernel_rfl) ?_ _
        try simp only [Act.put, List.setIfInBounds_toArray, List.set_cons_zero, List.set_cons_succ, List.getElem_toArray, List.getElem_cons_zero, List.getElem_cons_succ]
        go_wp2_with fail
        go_ret
        exact ⟨by rw [HR.out]; rfl, N5⟩
      rw [q1] at A1
      have C1 : Hid (∀ w, Calls Try.prog 67 #[.string s] w fun e w' => e = .returned (.int .i64 1) ∧ Below w.heap.size w w') := Lib.hid A1
      clear A1
      cases q8 : graphOk g
      · have HR : Hid (dataOk ts = false) := Lib.hid (HG.out (gUpto_no (gAt_not ht (by unfold namT; rw [q8, Bool.false_and, Bool.and_false])) (by have := HT.out; omega)))
        rw [q8] at A2
        have C2 := Lib.hid A2
        clear A2 ht q1 q8
        go_wp2_with fail
        have y10 := c0
        have y11 := c1
        have D0 : wr.drew.cell? ⟨b, off + k * 2, none⟩ = some (.string s) := c0
        have D1 : wr.drew.cell? ⟨b, off + k * 2 + 1, none⟩ = some (.slice ga gn gc) := c1
        refine wp_region_any (by kernel_rfl) ?_
        change wpAny _ _ _ _ _ _ _ (World.drew _)
        refine wpAny_take (i := 0) (v := ?_) rfl (by kernel_rfl) (by kernel_rfl) (by kernel_rfl) (fun _ _ _ h => h) (Or.inl ⟨by kernel_rfl, ?_⟩) ?_
        rotate_left
        · intro w; go_simp; try with_reducible rfl
        refine wpAny_take (i := 1) (v := ?_) rfl (by kernel_rfl) (by kernel_rfl) (by kernel_rfl) (fun _ _ _ h => h) (Or.inl ⟨by kernel_rfl, ?_⟩) ?_
        rotate_left
        · intro w; go_simp; try with_reducible rfl
        refine wpAny_take (i := 2) (v := ?_) rfl (by kernel_rfl) (by kernel_rfl) (by kernel_rfl) (fun _ _ _ h => h) (Or.inl ⟨by kernel_rfl, ?_⟩) ?_
        rotate_left
        · intro w; go_simp; try with_reducible rfl
        refine wpAny_take (i := 3) (v := ?_) rfl (by kernel_rfl) (by kernel_rfl) (by kernel_rfl) (fun _ _ _ h => h) (Or.inl ⟨by kernel_rfl, ?_⟩) ?_
        rotate_left
        · intro w; go_simp; try with_reducible rfl
        refine wpAny_ready (rs := [4]) (by kernel_rfl) (by simp) ?_
        refine AllReady.cons rfl (fun K hK => ?_) AllReady.nil
        go_simp
        refine hK _ _ ?_
        clear hK K
        refine wpAny_ready (rs := [5]) (by kernel_rfl) (by simp) ?_
        refine AllReady.cons rfl (fun K hK => ?_) AllReady.nil
        go_simp
        refine (C1.out _).mono ?_
        rintro e w5 ⟨rfl, hb5⟩
        have B5 := (BW.drew).trans (hb5.mono BW.size)
        have N5 := hnx2.trans (hb5.mono hnx2.size)
        have E0 : w5.cell? ⟨b, off + k * 2, none⟩ = some (.string s) := (B5.cell (p := ⟨b, _, none⟩) l0).trans c0
        have E1 : w5.cell? ⟨b, off + k * 2 + 1, none⟩ = some (.slice ga gn gc) := (B5.cell (p := ⟨b, _, none⟩) l0).trans c1
        go_wp2_with fail
        refine wpAny_take (i := 6) (v := ?_) rfl (by kernel_rfl) (by kernel_rfl) (by kernel_rfl) (fun _ _ _ h => h) (Or.inl ⟨by kernel_rfl, ?_⟩) ?_
        rotate_left
        · intro w; go_simp; try with_reducible rfl
        refine wpAny_take (i := 7) (v := ?_) rfl (by kernel_rfl) (by kernel_rfl) (by kernel_rfl) (fun _ _ _ h => h) (Or.inl ⟨by kernel_rfl, ?_⟩) ?_
        rotate_left
        · intro w; go_simp; try with_reducible rfl
        refine wpAny_take (i := 8) (v := ?_) rfl (by kernel_rfl) (by kernel_rfl) (by kernel_rfl) (fun _ _ _ h => h) (Or.inl ⟨by kernel_rfl, ?_⟩) ?_
        rotate_left
        · intro w; go_simp; try with_reducible rfl
        refine wpAny_take (i := 9) (v := ?_) rfl (by kernel_rfl) (by kernel_rfl) (by kernel_rfl) (fun _ _ _ h => h) (Or.inl ⟨by kernel_rfl, ?_⟩) ?_
        rotate_left
        · intro w; go_simp; try with_reducible rfl
        refine wpAny_take (i := 10) (v := ?_) rfl (by kernel_rfl) (by kernel_rfl) (by kernel_rfl) (fun _ _ _ h => h) (Or.inl ⟨by kernel_rfl, ?_⟩) ?_
        rotate_left
        · intro w; go_simp; try with_reducible rfl
        refine wpAny_take (i := 11) (v := ?_) rfl (by kernel_rfl) (by kernel_rfl) (by kernel_rfl) (fun _ _ _ h => h) (Or.inl ⟨by kernel_rfl, ?_⟩) ?_
        rotate_left
        · intro w; go_simp; try with_reducible rfl
        refine wpAny_ready (rs := [12]) (by kernel_rfl) (by simp) ?_
        refine AllReady.cons rfl (fun K hK => ?_) AllReady.nil
        go_simp
        refine hK _ _ ?_
        clear hK K
        refine wpAny_ready (rs := [13]) (by kernel_rfl) (by simp) ?_
        refine AllReady.cons rfl (fun K hK => ?_) AllReady.nil
        go_simp
        refine (C2.out _ B5).mono ?_
        rintro e w6 ⟨rfl, hb6⟩
        have N6 := N5.trans (hb6.mono N5.size)
        have B6 := B5.trans (hb6.mono B5.size)
        have F0 : w6.cell? ⟨b, off + k * 2, none⟩ = some (.string s) := (B6.cell (p := ⟨b, _, none⟩) l0).trans c0
        have F1 : w6.cell? ⟨b, off + k * 2 + 1, none⟩ = some (.slice ga gn gc) := (B6.cell (p := ⟨b, _, none⟩) l0).trans c1
        go_wp2_with fail
        refine wpAny_take (i := 14) (v := ?_) rfl (by kernel_rfl) (by kernel_rfl) (by kernel_rfl) (fun _ _ _ h => h) (Or.inl ⟨by kernel_rfl, ?_⟩) ?_
        rotate_left
        · intro w; go_simp; try with_reducible rfl
        refine wpAny_take (i := 15) (v := ?_) rfl (by kernel_rfl) (by kernel_rfl) (by kernel_rfl) (fun _ _ _ h => h) (Or.inl ⟨by kernel_rfl, ?_⟩) ?_
        rotate_left
        · intro w; go_simp; try with_reducible rfl
        refine wpAny_take (i := 16) (v := ?_) rfl (by kernel_rfl) (by kernel_rfl) (by kernel_rfl) (fun _ _ _ h => h) (Or.inl ⟨by kernel_rfl, ?_⟩) ?_
        rotate_left
        · intro w; go_simp; try with_reducible rfl
        refine wpAny_take (i := 17) (v := undef) rfl (by kernel_rfl) (by kernel_rfl) (by kernel_rfl) (fun _ _ _ h => h) (Or.inr ⟨by kernel_rfl, rfl⟩) ?_
        refine wpAny_take (i := 18) (v := undef) rfl (by kernel_rfl) (by kernel_rfl) (by kernel_rfl) (fun _ _ _ h => h) (Or.inr ⟨by kernel_rfl, rfl⟩) ?_
        refine wpAny_take (i := 19) (v := undef) rfl (by kernel_rfl) (by kernel_rfl) (by kernel_rfl) (fun _ _ _ h => h) (Or.inr ⟨by kernel_rfl, rfl⟩) ?_
        refine wpAny_take (i := 20) (v := undef) rfl (by kernel_rfl) (by kernel_rfl) (by kernel_rfl) (fun _ _ _ h => h) (Or.inr ⟨by kernel_rfl, rfl⟩) ?_
        refine wpAny_take (i := 21) (v := undef) rfl (by kernel_rfl) (by kernel_rfl) (by kernel_rfl) (fun _ _ _ h => h) (Or.inr ⟨by kernel_rfl, rfl⟩) ?_
        refine wpAny_take (i := 22) (v := undef) rfl (by kernel_rfl) (by kernel_rfl) (by kernel_rfl) (fun _ _ _ h => h) (Or.inr ⟨by kernel_rfl, rfl⟩) ?_
        refine wpAny_take (i := 23) (v := undef) rfl (by kernel_rfl) (by kernel_rfl) (by kernel_rfl) (fun _ _ _ h => h) (Or.inr ⟨by kernel_rfl, rfl⟩) ?_
        refine wpAny_take (i := 24) (v := ?_) rfl (by kernel_rfl) (by kernel_rfl) (by kernel_rfl) (fun _ _ _ h => h) (Or.inl ⟨by kernel_rfl, ?_⟩) ?_
        rotate_left
        · intro w; go_simp; try with_reducible rfl
        refine wpAny_take (i := 25) (v := ?_) rfl (by kernel_rfl) (by kernel_rfl) (by kernel_rfl) (fun _ _ _ h => h) (Or.inl ⟨by kernel_rfl, ?_⟩) ?_
        rotate_left
        · intro w; go_simp; try with_reducible rfl
        refine wpAny_take (i := 26) (v := undef) rfl (by kernel_rfl) (by kernel_rfl) (by kernel_rfl) (fun _ _ _ h => h) (Or.inr ⟨by kernel_rfl, rfl⟩) ?_
        refine wpAny_take (i := 27) (v := undef) rfl (by kernel_rfl) (by kernel_rfl) (by kernel_rfl) (fun _ _ _ h => h) (Or.inr ⟨by kernel_rfl, rfl⟩) ?_
        refine wpAny_take (i := 28) (v := undef) rfl (by kernel_rfl) (by kernel_rfl) (by kernel_rfl) (fun _ _ _ h => h) (Or.inr ⟨by kernel_rfl, rfl⟩) ?_
        refine wpAny_take (i := 29) (v := undef) rfl (by kernel_rfl) (by kernel_rfl) (by kernel_rfl) (fun _ _ _ h => h) (Or.inr ⟨by kernel_rfl, rfl⟩) ?_
        refine wpAny_take (i := 30) (v := undef) rfl (by kernel_rfl) (by kernel_rfl) (by kernel_rfl) (fun _ _ _ h => h) (Or.inr ⟨by kernel_rfl, rfl⟩) ?_
        refine wpAny_take (i := 31) (v := undef) rfl (by kernel_rfl) (by kernel_rfl) (by kernel_rfl) (fun _ _ _ h => h) (Or.inr ⟨by kernel_rfl, rfl⟩) ?_
        refine wpAny_take (i := 32) (v := undef) rfl (by kernel_rfl) (by kernel_rfl) (by kernel_rfl) (fun _ _ _ h => h) (Or.inr ⟨by kernel_rfl, rfl⟩) ?_
        refine wpAny_take (i := 33) (v := undef) rfl (by kernel_rfl) (by kernel_rfl) (by kernel_rfl) (fun _ _ _ h => h) (Or.inr ⟨by kernel_rfl, rfl⟩) ?_
        refine wpAny_take (i := 34) (v := undef) rfl (by kernel_rfl) (by kernel_rfl) (by kernel_rfl) (fun _ _ _ h => h) (Or.inr ⟨by kernel_rfl, rfl⟩) ?_
        refine wpAny_take (i := 35) (v := undef) rfl (by kernel_rfl) (by kernel_rfl) (by kernel_rfl) (fun _ _ _ h => h) (Or.inr ⟨by kernel_rfl, rfl⟩) ?_
        refine wpAny_take (i := 36) (v := undef) rfl (by kernel_rfl) (by kernel_rfl) (by kernel_rfl) (fun _ _ _ h => h) (Or.inr ⟨by kernel_rfl, rfl⟩) ?_
        refine wpAny_take (i := 37) (v := undef) rfl (by kernel_rfl) (by kernel_rfl) (by kernel_rfl) (fun _ _ _ h => h) (Or.inr ⟨by kernel_rfl, rfl⟩) ?_
        refine wpAny_take (i := 38) (v := undef) rfl (by kernel_rfl) (by kernel_rfl) (by kernel_rfl) (fun _ _ _ h => h) (Or.inr ⟨by kernel_rfl, rfl⟩) ?_
        refine wpAny_take (i := 39) (v := undef) rfl (by kernel_rfl) (by kernel_rfl) (by kernel_rfl) (fun _ _ _ h => h) (Or.inr ⟨by kernel_rfl, rfl⟩) ?_
        refine wpAny_take (i := 40) (v := undef) rfl (by kernel_rfl) (by kernel_rfl) (by kernel_rfl) (fun _ _ _ h => h) (Or.inr ⟨by kernel_rfl, rfl⟩) ?_
        refine wpAny_take (i := 41) (v := undef) rfl (by kernel_rfl) (by kernel_rfl) (by kernel_rfl) (fun _ _ _ h => h) (Or.inr ⟨by kernel_rfl, rfl⟩) ?_
        refine wpAny_take (i := 42) (v := ?_) rfl (by kernel_rfl) (by kernel_rfl) (by kernel_rfl) (fun _ _ _ h => h) (Or.inl ⟨by kernel_rfl, ?_⟩) ?_
        rotate_left
        · intro w; go_simp; try with_reducible rfl
        refine wpAny_done (by kernel_rfl) ?_ _
        try simp only [Act.put, List.setIfInBounds_toArray, List.set_cons_zero, List.set_cons_succ, List.getElem_toArray, List.getElem_cons_zero, List.getElem_cons_succ]
        go_wp2_with fail
        go_ret
        exact ⟨by rw [HR.out]; rfl, N6⟩
      rw [q8] at A2
      have C2 := Lib.hid A2
      clear A2
      by_cases q5 : gn = 0
      · subst q5
        have HR : Hid (dataOk ts = false) := Lib.hid (HG.out (gUpto_no (gAt_not ht (by unfold namT; rw [decide_eq_false (p := 0 < g.length) (by have := HZL.out; omega), Bool.and_false, Bool.and_false])) (by have := HT.out; omega)))
        clear ht q1 q8
        go_wp2_with fail
        have y10 := c0
        have y11 := c1
        have D0 : wr.drew.cell? ⟨b, off + k * 2, none⟩ = some (.string s) := c0
        have D1 : wr.drew.cell? ⟨b, off + k * 2 + 1, none⟩ = some (.slice ga 0 gc) := c1
        refine wp_region_any (by kernel_rfl) ?_
        change wpAny _ _ _ _ _ _ _ (World.drew _)
        refine wpAny_take (i := 0) (v := ?_) rfl (by kernel_rfl) (by kernel_rfl) (by kernel_rfl) (fun _ _ _ h => h) (Or.inl ⟨by kernel_rfl, ?_⟩) ?_
        rotate_left
        · intro w; go_simp; try with_reducible rfl
        refine wpAny_take (i := 1) (v := ?_) rfl (by kernel_rfl) (by kernel_rfl) (by kernel_rfl) (fun _ _ _ h => h) (Or.inl ⟨by kernel_rfl, ?_⟩) ?_
        rotate_left
        · intro w; go_simp; try with_reducible rfl
        refine wpAny_take (i := 2) (v := ?_) rfl (by kernel_rfl) (by kernel_rfl) (by kernel_rfl) (fun _ _ _ h => h) (Or.inl ⟨by kernel_rfl, ?_⟩) ?_
        rotate_left
        · intro w; go_simp; try with_reducible rfl
        refine wpAny_take (i := 3) (v := ?_) rfl (by kernel_rfl) (by kernel_rfl) (by kernel_rfl) (fun _ _ _ h => h) (Or.inl ⟨by kernel_rfl, ?_⟩) ?_
        rotate_left
        · intro w; go_simp; try with_reducible rfl
        refine wpAny_ready (rs := [4]) (by kernel_rfl) (by simp) ?_
        refine AllReady.cons rfl (fun K hK => ?_) AllReady.nil
        go_simp
        refine hK _ _ ?_
        clear hK K
        refine wpAny_ready (rs := [5]) (by kernel_rfl) (by simp) ?_
        refine AllReady.cons rfl (fun K hK => ?_) AllReady.nil
        go_simp
        refine (C1.out _).mono ?_
        rintro e w5 ⟨rfl, hb5⟩
        have B5 := (BW.drew).trans (hb5.mono BW.size)
        have N5 := hnx2.trans (hb5.mono hnx2.size)
        have E0 : w5.cell? ⟨b, off + k * 2, none⟩ = some (.string s) := (B5.cell (p := ⟨b, _, none⟩) l0).trans c0
        have E1 : w5.cell? ⟨b, off + k * 2 + 1, none⟩ = some (.slice ga 0 gc) := (B5.cell (p := ⟨b, _, none⟩) l0).trans c1
        go_wp2_with fail
        refine wpAny_take (i := 6) (v := ?_) rfl (by kernel_rfl) (by kernel_rfl) (by kernel_rfl) (fun _ _ _ h => h) (Or.inl ⟨by kernel_rfl, ?_⟩) ?_
        rotate_left
        · intro w; go_simp; try with_reducible rfl
        refine wpAny_take (i := 7) (v := ?_) rfl (by kernel_rfl) (by kernel_rfl) (by kernel_rfl) (fun _ _ _ h => h) (Or.inl ⟨by kernel_rfl, ?_⟩) ?_
        rotate_left
        · intro w; go_simp; try with_reducible rfl
        refine wpAny_take (i := 8) (v := ?_) rfl (by kernel_rfl) (by kernel_rfl) (by kernel_rfl) (fun _ _ _ h => h) (Or.inl ⟨by kernel_rfl, ?_⟩) ?_
        rotate_left
        · intro w; go_simp; try with_reducible rfl
        refine wpAny_take (i := 9) (v := ?_) rfl (by kernel_rfl) (by kernel_rfl) (by kernel_rfl) (fun _ _ _ h => h) (Or.inl ⟨by kernel_rfl, ?_⟩) ?_
        rotate_left
        · intro w; go_simp; try with_reducible rfl
        refine wpAny_take (i := 10) (v := ?_) rfl (by kernel_rfl) (by kernel_rfl) (by kernel_rfl) (fun _ _ _ h => h) (Or.inl ⟨by kernel_rfl, ?_⟩) ?_
        rotate_left
        · intro w; go_simp; try with_reducible rfl
        refine wpAny_take (i := 11) (v := ?_) rfl (by kernel_rfl) (by kernel_rfl) (by kernel_rfl) (fun _ _ _ h => h) (Or.inl ⟨by kernel_rfl, ?_⟩) ?_
        rotate_left
        · intro w; go_simp; try with_reducible rfl
        refine wpAny_ready (rs := [12]) (by kernel_rfl) (by simp) ?_
        refine AllReady.cons rfl (fun K hK => ?_) AllReady.nil
        go_simp
        refine hK _ _ ?_
        clear hK K
        refine wpAny_ready (rs := [13]) (by kernel_rfl) (by simp) ?_
        refine AllReady.cons rfl (fun K hK => ?_) AllReady.nil
        go_simp
        refine (C2.out _ B5).mono ?_
        rintro e w6 ⟨rfl, hb6⟩
        have N6 := N5.trans (hb6.mono N5.size)
        have B6 := B5.trans (hb6.mono B5.size)
        have F0 : w6.cell? ⟨b, off + k * 2, none⟩ = some (.string s) := (B6.cell (p := ⟨b, _, none⟩) l0).trans c0
        have F1 : w6.cell? ⟨b, off + k * 2 + 1, none⟩ = some (.slice ga 0 gc) := (B6.cell (p := ⟨b, _, none⟩) l0).trans c1
        go_wp2_with fail
        refine wpAny_take (i := 14) (v := ?_) rfl (by kernel_rfl) (by kernel_rfl) (by kernel_rfl) (fun _ _ _ h => h) (Or.inl ⟨by kernel_rfl, ?_⟩) ?_
        rotate_left
        · intro w; go_simp; try with_reducible rfl
        refine wpAny_take (i := 15) (v := ?_) rfl (by kernel_rfl) (by kernel_rfl) (by kernel_rfl) (fun _ _ _ h => h) (Or.inl ⟨by kernel_rfl, ?_⟩) ?_
        rotate_left
        · intro w; go_simp; try with_reducible rfl
        refine wpAny_take (i := 16) (v := ?_) rfl (by kernel_rfl) (by kernel_rfl) (by kernel_rfl) (fun _ _ _ h => h) (Or.inl ⟨by kernel_rfl, ?_⟩) ?_
        rotate_left
        · intro w; go_simp; try with_reducible rfl
        refine wpAny_take (i := 17) (v := ?_) rfl (by kernel_rfl) (by kernel_rfl) (by kernel_rfl) (fun _ _ _ h => h) (Or.inl ⟨by kernel_rfl, ?_⟩) ?_
        rotate_left
        · intro w; go_simp; try with_reducible rfl
        refine wpAny_take (i := 18) (v := ?_) rfl (by kernel_rfl) (by kernel_rfl) (by kernel_rfl) (fun _ _ _ h => h) (Or.inl ⟨by kernel_rfl, ?_⟩) ?_
        rotate_left
        · intro w; go_simp; try with_reducible rfl
        refine wpAny_take (i := 19) (v := ?_) rfl (by kernel_rfl) (by kernel_rfl) (by kernel_rfl) (fun _ _ _ h => h) (Or.inl ⟨by kernel_rfl, ?_⟩) ?_
        rotate_left
        · intro w; go_simp; try with_reducible rfl
        refine wpAny_take (i := 20) (v := ?_) rfl (by kernel_rfl) (by kernel_rfl) (by kernel_rfl) (fun _ _ _ h => h) (Or.inl ⟨by kernel_rfl, ?_⟩) ?_
        rotate_left
        · intro w; go_simp; try with_reducible rfl
        refine wpAny_ready (rs := [21]) (by kernel_rfl) (by simp) ?_
        refine AllReady.cons rfl (fun K hK => ?_) AllReady.nil
        go_simp
        refine hK _ _ ?_
        clear hK K
        refine wpAny_take (i := 22) (v := ?_) rfl (by kernel_rfl) (by kernel_rfl) (by kernel_rfl) (fun _ _ _ h => h) (Or.inl ⟨by kernel_rfl, ?_⟩) ?_
        rotate_left
        · intro w; go_simp; try with_reducible rfl
        refine wpAny_take (i := 23) (v := ?_) rfl (by kernel_rfl) (by kernel_rfl) (by kernel_rfl) (fun _ _ _ h => h) (Or.inl ⟨by kernel_rfl, ?_⟩) ?_
        rotate_left
        · intro w; go_simp; try with_reducible rfl
        refine wpAny_take (i := 24) (v := ?_) rfl (by kernel_rfl) (by kernel_rfl) (by kernel_rfl) (fun _ _ _ h => h) (Or.inl ⟨by kernel_rfl, ?_⟩) ?_
        rotate_left
        · intro w; go_simp; try with_reducible rfl
        refine wpAny_take (i := 25) (v := ?_) rfl (by kernel_rfl) (by kernel_rfl) (by kernel_rfl) (fun _ _ _ h => h) (Or.inl ⟨by kernel_rfl, ?_⟩) ?_
        rotate_left
        · intro w; go_simp; try with_reducible rfl
        refine wpAny_take (i := 26) (v := undef) rfl (by kernel_rfl) (by kernel_rfl) (by kernel_rfl) (fun _ _ _ h => h) (Or.inr ⟨by kernel_rfl, rfl⟩) ?_
        refine wpAny_take (i := 27) (v := undef) rfl (by kernel_rfl) (by kernel_rfl) (by kernel_rfl) (fun _ _ _ h => h) (Or.inr ⟨by kernel_rfl, rfl⟩) ?_
        refine wpAny_take (i := 28) (v := undef) rfl (by kernel_rfl) (by kernel_rfl) (by kernel_rfl) (fun _ _ _ h => h) (Or.inr ⟨by kernel_rfl, rfl⟩) ?_
        refine wpAny_take (i := 29) (v := undef) rfl (by kernel_rfl) (by kernel_rfl) (by kernel_rfl) (fun _ _ _ h => h) (Or.inr ⟨by kernel_rfl, rfl⟩) ?_
        refine wpAny_take (i := 30) (v := undef) rfl (by kernel_rfl) (by kernel_rfl) (by kernel_rfl) (fun _ _ _ h => h) (Or.inr ⟨by kernel_rfl, rfl⟩) ?_
        refine wpAny_take (i := 31) (v := undef) rfl (by kernel_rfl) (by kernel_rfl) (by kernel_rfl) (fun _ _ _ h => h) (Or.inr ⟨by kernel_rfl, rfl⟩) ?_
        refine wpAny_take (i := 32) (v := undef) rfl (by kernel_rfl) (by kernel_rfl) (by kernel_rfl) (fun _ _ _ h => h) (Or.inr ⟨by kernel_rfl, rfl⟩) ?_
        refine wpAny_take (i := 33) (v := undef) rfl (by kernel_rfl) (by kernel_rfl) (by kernel_rfl) (fun _ _ _ h => h) (Or.inr ⟨by kernel_rfl, rfl⟩) ?_
        refine wpAny_take (i := 34) (v := undef) rfl (by kernel_rfl) (by kernel_rfl) (by kernel_rfl) (fun _ _ _ h => h) (Or.inr ⟨by kernel_rfl, rfl⟩) ?_
        refine wpAny_take (i := 35) (v := undef) rfl (by kernel_rfl) (by kernel_rfl) (by kernel_rfl) (fun _ _ _ h => h) (Or.inr ⟨by kernel_rfl, rfl⟩) ?_
        refine wpAny_take (i := 36) (v := undef) rfl (by kernel_rfl) (by kernel_rfl) (by kernel_rfl) (fun _ _ _ h => h) (Or.inr ⟨by kernel_rfl, rfl⟩) ?_
        refine wpAny_take (i := 37) (v := undef) rfl (by kernel_rfl) (by kernel_rfl) (by kernel_rfl) (fun _ _ _ h => h) (Or.inr ⟨by kernel_rfl, rfl⟩) ?_
        refine wpAny_take (i := 38) (v := undef) rfl (by kernel_rfl) (by kernel_rfl) (by kernel_rfl) (fun _ _ _ h => h) (Or.inr ⟨by kernel_rfl, rfl⟩) ?_
        refine wpAny_take (i := 39) (v := undef) rfl (by kernel_rfl) (by kernel_rfl) (by kernel_rfl) (fun _ _ _ h => h) (Or.inr ⟨by kernel_rfl, rfl⟩) ?_
        refine wpAny_take (i := 40) (v := undef) rfl (by kernel_rfl) (by kernel_rfl) (by kernel_rfl) (fun _ _ _ h => h) (Or.inr ⟨by kernel_rfl, rfl⟩) ?_
        refine wpAny_take (i := 41) (v := undef) rfl (by kernel_rfl) (by kernel_rfl) (by kernel_rfl) (fun _ _ _ h => h) (Or.inr ⟨by kernel_rfl, rfl⟩) ?_
        refine wpAny_take (i := 42) (v := ?_) rfl (by kernel_rfl) (by kernel_rfl) (by kernel_rfl) (fun _ _ _ h => h) (Or.inl ⟨by kernel_rfl, ?_⟩) ?_
        rotate_left
        · intro w; go_simp; try with_reducible rfl
        refine wpAny_done (by kernel_rfl) ?_ _
        try simp only [Act.put, List.setIfInBounds_toArray, List.set_cons_zero, List.set_cons_succ, List.getElem_toArray, List.getElem_cons_zero, List.getElem_cons_succ]
        go_wp2_with fail
        go_ret
        exact ⟨by rw [HR.out]; rfl, N6⟩
      have q6 : ¬ (gn : Int) = 0 := by omega
      have q7 : ((gn : Int) == 0) = false := by rw [beq_eq_false_iff_ne]; exact q6
      have hq : Hid (namT (s, g) = true) := Lib.hid (by unfold namT; rw [q8, decide_eq_true q1, decide_eq_true (p := 0 < g.length) (by have := HZL.out; omega)]; rfl)
      rcases k with _ | j
      · have HN : Hid (gUpto namT lessN ts (0 + 1) = true) := Lib.hid (by rw [gUpto_succ, hok.out, gAt_zero ht, hq.out]; rfl)
        clear ht q1 q5 q8
        simp only [Nat.zero_mul, Nat.add_zero] at c0 c1
        go_wp2_with fail
        have y10 := c0
        have y11 := c1
        have D0 : wr.drew.cell? ⟨b, off, none⟩ = some (.string s) := c0
        have D1 : wr.drew.cell? ⟨b, off + 1, none⟩ = some (.slice ga gn gc) := c1
        refine wp_region_any (by kernel_rfl) ?_
        change wpAny _ _ _ _ _ _ _ (World.drew _)
        refine wpAny_take (i := 0) (v := ?_) rfl (by kernel_rfl) (by kernel_rfl) (by kernel_rfl) (fun _ _ _ h => h) (Or.inl ⟨by kernel_rfl, ?_⟩) ?_
        rotate_left
        · intro w; go_simp; try with_reducible rfl
        refine wpAny_take (i := 1) (v := ?_) rfl (by kernel_rfl) (by kernel_rfl) (by kernel_rfl) (fun _ _ _ h => h) (Or.inl ⟨by kernel_rfl, ?_⟩) ?_
        rotate_left
        · intro w; go_simp; try with_reducible rfl
        refine wpAny_take (i := 2) (v := ?_) rfl (by kernel_rfl) (by kernel_rfl) (by kernel_rfl) (fun _ _ _ h => h) (Or.inl ⟨by kernel_rfl, ?_⟩) ?_
        rotate_left
        · intro w; go_simp; try with_reducible rfl
        refine wpAny_take (i := 3) (v := ?_) rfl (by kernel_rfl) (by kernel_rfl) (by kernel_rfl) (fun _ _ _ h => h) (Or.inl ⟨by kernel_rfl, ?_⟩) ?_
        rotate_left
        · intro w; go_simp; try with_reducible rfl
        refine wpAny_ready (rs := [4]) (by kernel_rfl) (by simp) ?_
        refine AllReady.cons rfl (fun K hK => ?_) AllReady.nil
        go_simp
        refine hK _ _ ?_
        clear hK K
        refine wpAny_ready (rs := [5]) (by kernel_rfl) (by simp) ?_
        refine AllReady.cons rfl (fun K hK => ?_) AllReady.nil
        go_simp
        refine (C1.out _).mono ?_
        rintro e w5 ⟨rfl, hb5⟩
        have B5 := (BW.drew).trans (hb5.mono BW.size)
        have N5 := hnx2.trans (hb5.mono hnx2.size)
        have E0 : w5.cell? ⟨b, off, none⟩ = some (.string s) := (B5.cell (p := ⟨b, _, none⟩) l0).trans c0
        have E1 : w5.cell? ⟨b, off + 1, none⟩ = some (.slice ga gn gc) := (B5.cell (p := ⟨b, _, none⟩) l0).trans c1
        go_wp2_with fail
        refine wpAny_take (i := 6) (v := ?_) rfl (by kernel_rfl) (by kernel_rfl) (by kernel_rfl) (fun _ _ _ h => h) (Or.inl ⟨by kernel_rfl, ?_⟩) ?_
        rotate_left
        · intro w; go_simp; try with_reducible rfl
        refine wpAny_take (i := 7) (v := ?_) rfl (by kernel_rfl) (by kernel_rfl) (by kernel_rfl) (fun _ _ _ h => h) (Or.inl ⟨by kernel_rfl, ?_⟩) ?_
        rotate_left
        · intro w; go_simp; try with_reducible rfl
        refine wpAny_take (i := 8) (v := ?_) rfl (by kernel_rfl) (by kernel_rfl) (by kernel_rfl) (fun _ _ _ h => h) (Or.inl ⟨by kernel_rfl, ?_⟩) ?_
        rotate_left
        · intro w; go_simp; try with_reducible rfl
        refine wpAny_take (i := 9) (v := ?_) rfl (by kernel_rfl) (by kernel_rfl) (by kernel_rfl) (fun _ _ _ h => h) (Or.inl ⟨by kernel_rfl, ?_⟩) ?_
        rotate_left
        · intro w; go_simp; try with_reducible rfl
        refine wpAny_take (i := 10) (v := ?_) rfl (by kernel_rfl) (by kernel_rfl) (by kernel_rfl) (fun _ _ _ h => h) (Or.inl ⟨by kernel_rfl, ?_⟩) ?_
        rotate_left
        · intro w; go_simp; try with_reducible rfl
        refine wpAny_take (i := 11) (v := ?_) rfl (by kernel_rfl) (by kernel_rfl) (by kernel_rfl) (fun _ _ _ h => h) (Or.inl ⟨by kernel_rfl, ?_⟩) ?_
        rotate_left
        · intro w; go_simp; try with_reducible rfl
        refine wpAny_ready (rs := [12]) (by kernel_rfl) (by simp) ?_
        refine AllReady.cons rfl (fun K hK => ?_) AllReady.nil
        go_simp
        refine hK _ _ ?_
        clear hK K
        refine wpAny_ready (rs := [13]) (by kernel_rfl) (by simp) ?_
        refine AllReady.cons rfl (fun K hK => ?_) AllReady.nil
        go_simp
        refine (C2.out _ B5).mono ?_
        rintro e w6 ⟨rfl, hb6⟩
        have N6 := N5.trans (hb6.mono N5.size)
        have B6 := B5.trans (hb6.mono B5.size)
        have F0 : w6.cell? ⟨b, off, none⟩ = some (.string s) := (B6.cell (p := ⟨b, _, none⟩) l0).trans c0
        have F1 : w6.cell? ⟨b, off + 1, none⟩ = some (.slice ga gn gc) := (B6.cell (p := ⟨b, _, none⟩) l0).trans c1
        go_wp2_with fail
        refine wpAny_take (i := 14) (v := ?_) rfl (by kernel_rfl) (by kernel_rfl) (by kernel_rfl) (fun _ _ _ h => h) (Or.inl ⟨by kernel_rfl, ?_⟩) ?_
        rotate_left
        · intro w; go_simp; try with_reducible rfl
        refine wpAny_take (i := 15) (v := ?_) rfl (by kernel_rfl) (by kernel_rfl) (by kernel_rfl) (fun _ _ _ h => h) (Or.inl ⟨by kernel_rfl, ?_⟩) ?_
        rotate_left
        · intro w; go_simp; try with_reducible rfl
        refine wpAny_take (i := 16) (v := ?_) rfl (by kernel_rfl) (by kernel_rfl) (by kernel_rfl) (fun _ _ _ h => h) (Or.inl ⟨by kernel_rfl, ?_⟩) ?_
        rotate_left
        · intro w; go_simp; try with_reducible rfl
        refine wpAny_take (i := 17) (v := ?_) rfl (by kernel_rfl) (by kernel_rfl) (by kernel_rfl) (fun _ _ _ h => h) (Or.inl ⟨by kernel_rfl, ?_⟩) ?_
        rotate_left
        · intro w; go_simp; try with_reducible rfl
        refine wpAny_take (i := 18) (v := ?_) rfl (by kernel_rfl) (by kernel_rfl) (by kernel_rfl) (fun _ _ _ h => h) (Or.inl ⟨by kernel_rfl, ?_⟩) ?_
        rotate_left
        · intro w; go_simp; try with_reducible rfl
        refine wpAny_take (i := 19) (v := ?_) rfl (by kernel_rfl) (by kernel_rfl) (by kernel_rfl) (fun _ _ _ h => h) (Or.inl ⟨by kernel_rfl, ?_⟩) ?_
        rotate_left
        · intro w; go_simp; try with_reducible rfl
        refine wpAny_take (i := 20) (v := ?_) rfl (by kernel_rfl) (by kernel_rfl) (by kernel_rfl) (fun _ _ _ h => h) (Or.inl ⟨by kernel_rfl, ?_⟩) ?_
        rotate_left
        · intro w; go_simp; try with_reducible rfl
        refine wpAny_ready (rs := [21]) (by kernel_rfl) (by simp) ?_
        refine AllReady.cons rfl (fun K hK => ?_) AllReady.nil
        go_simp
        refine hK _ _ ?_
        clear hK K
        refine wpAny_take (i := 22) (v := ?_) rfl (by kernel_rfl) (by kernel_rfl) (by kernel_rfl) (fun _ _ _ h => h) (Or.inl ⟨by kernel_rfl, ?_⟩) ?_
        rotate_left
        · intro w; go_simp; try with_reducible rfl
        refine wpAny_take (i := 23) (v := ?_) rfl (by kernel_rfl) (by kernel_rfl) (by kernel_rfl) (fun _ _ _ h => h) (Or.inl ⟨by kernel_rfl, ?_⟩) ?_
        rotate_left
        · intro w; go_simp; try with_reducible rfl
        refine wpAny_take (i := 24) (v := ?_) rfl (by kernel_rfl) (by kernel_rfl) (by kernel_rfl) (fun _ _ _ h => h) (Or.inl ⟨by kernel_rfl, ?_⟩) ?_
        rotate_left
        · intro w; go_simp; try with_reducible rfl
        refine wpAny_take (i := 25) (v := ?_) rfl (by kernel_rfl) (by kernel_rfl) (by kernel_rfl) (fun _ _ _ h => h) (Or.inl ⟨by kernel_rfl, ?_⟩) ?_
        rotate_left
        · intro w; go_simp; try with_reducible rfl
        refine wpAny_take (i := 26) (v := ?_) rfl (by kernel_rfl) (by kernel_rfl) (by kernel_rfl) (fun _ _ _ h => h) (Or.inl ⟨by kernel_rfl, ?_⟩) ?_
        rotate_left
        · intro w; go_simp; try with_reducible rfl
        refine wpAny_take (i := 27) (v := ?_) rfl (by kernel_rfl) (by kernel_rfl) (by kernel_rfl) (fun _ _ _ h => h) (Or.inl ⟨by kernel_rfl, ?_⟩) ?_
        rotate_left
        · intro w; go_simp; try with_reducible rfl
        refine wpAny_take (i := 28) (v := ?_) rfl (by kernel_rfl) (by kernel_rfl) (by kernel_rfl) (fun _ _ _ h => h) (Or.inl ⟨by kernel_rfl, ?_⟩) ?_
        rotate_left
        · intro w; go_simp; try with_reducible rfl
        refine wpAny_take (i := 29) (v := undef) rfl (by kernel_rfl) (by kernel_rfl) (by kernel_rfl) (fun _ _ _ h => h) (Or.inr ⟨by kernel_rfl, rfl⟩) ?_
        refine wpAny_take (i := 30) (v := undef) rfl (by kernel_rfl) (by kernel_rfl) (by kernel_rfl) (fun _ _ _ h => h) (Or.inr ⟨by kernel_rfl, rfl⟩) ?_
        refine wpAny_take (i := 31) (v := undef) rfl (by kernel_rfl) (by kernel_rfl) (by kernel_rfl) (fun _ _ _ h => h) (Or.inr ⟨by kernel_rfl, rfl⟩) ?_
        refine wpAny_take (i := 32) (v := undef) rfl (by kernel_rfl) (by kernel_rfl) (by kernel_rfl) (fun _ _ _ h => h) (Or.inr ⟨by kernel_rfl, rfl⟩) ?_
        refine wpAny_take (i := 33) (v := undef) rfl (by kernel_rfl) (by kernel_rfl) (by kernel_rfl) (fun _ _ _ h => h) (Or.inr ⟨by kernel_rfl, rfl⟩) ?_
        refine wpAny_take (i := 34) (v := undef) rfl (by kernel_rfl) (by kernel_rfl) (by kernel_rfl) (fun _ _ _ h => h) (Or.inr ⟨by kernel_rfl, rfl⟩) ?_
        refine wpAny_take (i := 35) (v := undef) rfl (by kernel_rfl) (by kernel_rfl) (by kernel_rfl) (fun _ _ _ h => h) (Or.inr ⟨by kernel_rfl, rfl⟩) ?_
        refine wpAny_take (i := 36) (v := undef) rfl (by kernel_rfl) (by kernel_rfl) (by kernel_rfl) (fun _ _ _ h => h) (Or.inr ⟨by kernel_rfl, rfl⟩) ?_
        refine wpAny_take (i := 37) (v := undef) rfl (by kernel_rfl) (by kernel_rfl) (by kernel_rfl) (fun _ _ _ h => h) (Or.inr ⟨by kernel_rfl, rfl⟩) ?_
        refine wpAny_take (i := 38) (v := undef) rfl (by kernel_rfl) (by kernel_rfl) (by kernel_rfl) (fun _ _ _ h => h) (Or.inr ⟨by kernel_rfl, rfl⟩) ?_
        refine wpAny_take (i := 39) (v := undef) rfl (by kernel_rfl) (by kernel_rfl) (by kernel_rfl) (fun _ _ _ h => h) (Or.inr ⟨by kernel_rfl, rfl⟩) ?_
        refine wpAny_take (i := 40) (v := undef) rfl (by kernel_rfl) (by kernel_rfl) (by kernel_rfl) (fun _ _ _ h => h) (Or.inr ⟨by kernel_rfl, rfl⟩) ?_
        refine wpAny_take (i := 41) (v := ?_) rfl (by kernel_rfl) (by kernel_rfl) (by kernel_rfl) (fun _ _ _ h => h) (Or.inl ⟨by kernel_rfl, ?_⟩) ?_
        rotate_left
        · intro w; go_simp; try with_reducible rfl
        refine wpAny_take (i := 42) (v := ?_) rfl (by kernel_rfl) (by kernel_rfl) (by kernel_rfl) (fun _ _ _ h => h) (Or.inl ⟨by kernel_rfl, ?_⟩) ?_
        rotate_left
        · intro w; go_simp; try with_reducible rfl
        refine wpAny_done (by kernel_rfl) ?_ _
        try simp only [Act.put, List.setIfInBounds_toArray, List.set_cons_zero, List.set_cons_succ, List.getElem_toArray, List.getElem_cons_zero, List.getElem_cons_succ]
        go_wp2_with fail
        go_roundw
        case rel => exact ⟨0 + 1, by omega, by go_num, HN, N6⟩
        case measure => simp [intOf]; omega
      · have hu : ts[j]? = some (ts[j]'(by have := HT.out; omega)) := List.getElem?_eq_getElem _
        have HA := gAt_next (ok := namT) (ah := lessN) (by omega) ht hu
        obtain ⟨pa, pn, pc, p0, p1⟩ := HC.out j _ hu
        generalize ts[j]'(by have := HT.out; omega) = u at hu HA p0 p1
        obtain ⟨r, g'⟩ := u
        simp only at p0 p1
        rw [hq.out] at HA
        cases ha : lessN (r, g') (s, g)
        · have HR2 : gAt namT lessN ts (j + 1) = false := by rw [HA, ha]; rfl
          have HR : Hid (dataOk ts = false) := Lib.hid (HG.out (gUpto_no (HR2) (by have := HT.out; omega)))
          have hl : Op.bytesLess r.toList s.toList = false := ha
          clear ht hu HA ha HR2 q1 q5 q8
          go_wp2_with fail
          have hj1 : ((j + 1 : Nat) : Int) - 1 = (j : Int) := by omega
          have hj2 : IntKind.i64.wrap (((j + 1 : Nat) : Int) - 1) = (j : Int) := by rw [hj1]; exact IntWalk.i64_in _ (by omega)
          have hjl : j < len := by omega
          have hk8 : (0 : Int) ≤ (j : Int) + 1 := by omega
          have hk9 : (j : Int) + 1 < (len : Int) := by omega
          have hj6 : (0 : Int) ≤ (j : Int) := by omega
          have hj7 : (j : Int) < (len : Int) := by omega
          have hj8 : IntKind.i64.wrap (j : Int) = (j : Int) := IntWalk.i64_in _ (by omega)
          have hj4 : (j : Int) + 1 - 1 = (j : Int) := by omega
          have hj5 : IntKind.i64.wrap ((j : Int) + 1 - 1) = (j : Int) := by rw [hj4]; exact IntWalk.i64_in _ (by omega)
          have hj3 : decide ((0 : Int) < ((j + 1 : Nat) : Int)) = true := by rw [decide_eq_true_eq]; omega
          go_region_held3 (fun w' => w'.cell? ⟨b, off + (j + 1) * 2, none⟩ = some (.string s) ∧ w'.cell? ⟨b, off + (j + 1) * 2 + 1, none⟩ = some (.slice ga gn gc) ∧ w'.cell? ⟨b, off + j * 2, none⟩ = some (.string r))
            (first | go_keep | (go_split_ands; refine ⟨?_, ?_, ?_⟩ <;> assumption) | (go_split_ands; refine ⟨?_, ?_, ?_⟩ <;> (rw [hb5.cell (by first | (simp; done) | exact World.block_lt_of_cell? _ _ (by assumption))]; assumption)) | (go_split_ands; refine ⟨?_, ?_, ?_⟩ <;> (rw [hb6.cell (by first | (simp; done) | exact World.block_lt_of_cell? _ _ (by assumption))]; assumption)))
            (first
              | (go_at_call 67; refine (C1.out _).mono ?_; rintro e w5 ⟨rfl, hb5⟩; have B5 := (BW.drew).trans (hb5.mono BW.size); have N5 := hnx2.trans (hb5.mono hnx2.size))
              | (go_at_call 68; refine (C2.out _ B5).mono ?_; rintro e w6 ⟨rfl, hb6⟩; have N6 := N5.trans (hb6.mono N5.size)))
          go_wp2_with fail
          go_ret
          exact ⟨by rw [HR.out]; rfl, N6⟩
        · have HN : Hid (gUpto namT lessN ts (j + 1 + 1) = true) := Lib.hid (by rw [gUpto_succ, hok.out, HA, ha]; rfl)
          have hl : Op.bytesLess r.toList s.toList = true := ha
          clear ht hu HA ha q1 q5 q8
          go_wp2_with fail
          have hj1 : ((j + 1 : Nat) : Int) - 1 = (j : Int) := by omega
          have hj2 : IntKind.i64.wrap (((j + 1 : Nat) : Int) - 1) = (j : Int) := by rw [hj1]; exact IntWalk.i64_in _ (by omega)
          have hjl : j < len := by omega
          have hk8 : (0 : Int) ≤ (j : Int) + 1 := by omega
          have hk9 : (j : Int) + 1 < (len : Int) := by omega
          have hj6 : (0 : Int) ≤ (j : Int) := by omega
          have hj7 : (j : Int) < (len : Int) := by omega
          have hj8 : IntKind.i64.wrap (j : Int) = (j : Int) := IntWalk.i64_in _ (by omega)
          have hj4 : (j : Int) + 1 - 1 = (j : Int) := by omega
          have hj5 : IntKind.i64.wrap ((j : Int) + 1 - 1) = (j : Int) := by rw [hj4]; exact IntWalk.i64_in _ (by omega)
          have hj3 : decide ((0 : Int) < ((j + 1 : Nat) : Int)) = true := by rw [decide_eq_true_eq]; omega
          go_region_held3 (fun w' => w'.cell? ⟨b, off + (j + 1) * 2, none⟩ = some (.string s) ∧ w'.cell? ⟨b, off + (j + 1) * 2 + 1, none⟩ = some (.slice ga gn gc) ∧ w'.cell? ⟨b, off + j * 2, none⟩ = some (.string r))
            (first | go_keep | (go_split_ands; refine ⟨?_, ?_, ?_⟩ <;> assumption) | (go_split_ands; refine ⟨?_, ?_, ?_⟩ <;> (rw [hb5.cell (by first | (simp; done) | exact World.block_lt_of_cell? _ _ (by assumption))]; assumption)) | (go_split_ands; refine ⟨?_, ?_, ?_⟩ <;> (rw [hb6.cell (by first | (simp; done) | exact World.block_lt_of_cell? _ _ (by assumption))]; assumption)))
            (first
              | (go_at_call 67; refine (C1.out _).mono ?_; rintro e w5 ⟨rfl, hb5⟩; have B5 := (BW.drew).trans (hb5.mono BW.size); have N5 := hnx2.trans (hb5.mono hnx2.size))
              | (go_at_call 68; refine (C2.out _ B5).mono ?_; rintro e w6 ⟨rfl, hb6⟩; have N6 := N5.trans (hb6.mono N5.size)))
          go_wp2_with fail
          go_roundw
          case rel => exact ⟨j + 1 + 1, by omega, by go_num, HN, N6⟩
          case measure => simp [intOf]; omega
    · obtain rfl : k = len := by omega
      have hall : Hid (gUpto namT lessN ts ts.length = true) := Lib.hid (by have := hok.out; rwa [← HT.out] at this)
      go_wp2_with fail
      go_ret
      exact ⟨by rw [HG2.out hall.out]; simp; omega, hnx⟩
end Go.Proofs.Ythnpchcfjkepaaa
/- A graph of a dataset by its name: the specification. -/
namespace Go.Proofs.Ythnpchcfjkepaaa
open Go.RowKit Go.WideShapes
/-- The graph of that name; none: empty. -/
def graphAt : List NamV → ByteArray → List Tri3
  | [], _ => []
  | r :: rs, s => if r.1 = s then r.2 else graphAt rs s
theorem graphAt_hit {rs : List NamV} {s : ByteArray} {k : Nat} {r : NamV} (h : rs[k]? = some r) (hs : r.1 = s) : graphAt (rs.drop k) s = r.2 := by
  have hk := (List.getElem?_eq_some_iff.1 h).1
  have e : rs.drop k = r :: rs.drop (k + 1) := by
    rw [List.drop_eq_getElem_cons hk, (List.getElem?_eq_some_iff.1 h).2]
  rw [e]
  unfold graphAt
  rw [if_pos hs]
theorem graphAt_miss {rs : List NamV} {s : ByteArray} {k : Nat} {r : NamV} (h : rs[k]? = some r) (hs : r.1 ≠ s) : graphAt (rs.drop k) s = graphAt (rs.drop (k + 1)) s := by
  have hk := (List.getElem?_eq_some_iff.1 h).1
  have e : rs.drop k = r :: rs.drop (k + 1) := by
    rw [List.drop_eq_getElem_cons hk, (List.getElem?_eq_some_iff.1 h).2]
  rw [e]
  conv => lhs; unfold graphAt
  rw [if_neg hs]
def dataGraph (rs : List NamV) (s : ByteArray) : List Tri3 := if dataOk rs then graphAt rs s else []
theorem graphAt_mem : ∀ (rs : List NamV) (s : ByteArray), graphAt rs s = [] ∨ ∃ r ∈ rs, graphAt rs s = r.2
  | [], _ => .inl rfl
  | r :: rs, s => by
    unfold graphAt
    split
    · exact .inr ⟨r, by simp, rfl⟩
    · rcases graphAt_mem rs s with h | ⟨q, hq, h⟩
      · exact .inl h
      · exact .inr ⟨q, by simp [hq], h⟩
theorem dataGraph_len (rs : List NamV) (s : ByteArray) (h : totN rs ≤ 1048576) : (dataGraph rs s).length ≤ 1048576 := by
  unfold dataGraph
  split
  · rcases graphAt_mem rs s with e | ⟨r, hr, e⟩
    · rw [e]; simp
    · rw [e]; have := totN_mem hr; omega
  · simp
theorem dataGraph_small (rs : List NamV) (s : ByteArray) (h : SmAllN rs) : SmAll (dataGraph rs s) := by
  unfold dataGraph
  split
  · rcases graphAt_mem rs s with e | ⟨r, hr, e⟩
    · rw [e]; intro t ht; simp at ht
    · rw [e]; exact (h r hr).2
  · intro t ht; simp at ht
theorem bytes_is {a b : ByteArray} (h : a = b) : (a.toList == b.toList) = true := by subst h; simp
theorem bytes_not {a b : ByteArray} (h : a ≠ b) : (a.toList == b.toList) = false := by
  rw [beq_eq_false_iff_ne]
  intro e
  apply h
  have t : ∀ x : ByteArray, x.toList = x.data.toList := fun x => by
    conv => lhs; rw [← bs_of x]
    exact bs_list _
  rw [t, t] at e
  rw [← bs_of a, e, bs_of]
set_option maxRecDepth 100000 in
set_option maxHeartbeats 1600000 in
theorem specAt (a : Option Addr) (len cap : Nat) (ts : List NamV) (s : ByteArray) (w : World) (h : IsNams w a len cap ts) :
    Calls Try.prog 127 #[.slice a len cap, .string s] w fun e w' => ∃ z : Int, e = .returned (.int .i64 z) ∧ ((z = -1 ∧ graphAt ts s = []) ∨ ∃ (k : Nat) (r : NamV), z = k ∧ ts[k]? = some r ∧ graphAt ts s = r.2) ∧ Below w.heap.size w w' := by
  have hlen := h.maxl
  have H := Lib.hid h
  have HT := Lib.hid h.len
  clear h
  go_enter Try.func127, Try.ntmps127
  go_wp2_with fail
  go_loopw [5] (fun i wr => ∃ k : Nat, k ≤ len ∧ i = .int .i64 k ∧ Hid (graphAt ts s = graphAt (ts.drop k) s) ∧ Below w.heap.size w wr) (fun i _ => len - (intOf i).toNat)
  case atStart => exact ⟨0, Nat.zero_le _, rfl, Lib.hid rfl, Below.refl _ _⟩
  case round =>
    obtain ⟨k, hk, rfl, hg, hnx⟩ := hrel
    have hk6 : (0 : Int) ≤ (k : Int) := by omega
    by_cases hlt : k < len
    · have hk7 : (k : Int) < (len : Int) := by omega
      obtain ⟨b, off, rfl, hb, hl, hm, hts, hc⟩ := (H.out.next hnx).cells (by omega)
      have ht : ts[k]? = some (ts[k]'(by omega)) := List.getElem?_eq_getElem (by omega)
      obtain ⟨ga, gn, gc, c0, c1, hz, m0⟩ := hc k _ ht
      generalize ts[k]'(by omega) = r at ht c0 c1 hz m0
      by_cases hs : r.1 = s
      · have E := bytes_is hs
        have HG : Hid (graphAt ts s = r.2) := Lib.hid (by rw [hg.out, graphAt_hit ht hs])
        have HR := Lib.hid ht
        clear hts hc hm hz m0 c1 hs ht
        go_wp2_with fail
        go_ret
        exact ⟨k, rfl, .inr ⟨k, r, rfl, HR.out, HG.out⟩, hnx⟩
      · have E := bytes_not hs
        have HG : Hid (graphAt ts s = graphAt (ts.drop (k + 1)) s) := Lib.hid (by rw [hg.out, graphAt_miss ht hs])
        clear hts hc hm hz m0 c1 hs ht
        go_wp2_with fail
        go_roundw
        case rel => exact ⟨k + 1, by omega, by go_num, HG, hnx⟩
        case measure => simp [intOf]; omega
    · obtain rfl : k = len := by omega
      have HG : Hid (graphAt ts s = []) := Lib.hid (by rw [hg.out, List.drop_of_length_le (by rw [HT.out]; exact Nat.le_refl _)]; rfl)
      go_wp2_with fail
      go_ret
      exact ⟨-1, rfl, .inl ⟨rfl, HG.out⟩, hnx⟩
set_option maxRecDepth 100000 in
set_option maxHeartbeats 1600000 in
theorem specGraphAt (a : Option Addr) (len cap : Nat) (ts : List NamV) (s : ByteArray) (w : World) (h : IsNams w a len cap ts) (ht : totN ts ≤ 1048576) :
    Calls Try.prog 113 #[.slice a len cap, .string s] w fun e w' => ∃ v, e = .returned v ∧ OwnT w.heap.size w' v (graphAt ts s) ∧ Below w.heap.size w w' := by
  have H := Lib.hid h
  have HL := Lib.hid h.len
  have hlen := h.maxl
  have C := Lib.hid (specAt a len cap ts s w h)
  clear h
  go_enter Try.func113, Try.ntmps113
  go_wp2_with fail
  refine C.out.mono ?_
  rintro e w1 ⟨z, rfl, hz, hb1⟩
  rcases hz with ⟨rfl, hg⟩ | ⟨k, r, rfl, hr, hg⟩
  · have HG := Lib.hid hg
    have O0 : Hid (OwnT w1.heap.size (w1.alloc (.cells #[] 34)) (.slice (some ⟨w1.heap.size, 0, none⟩) 0 0) []) := Lib.hid (World.ownsRow_lit (size := 3) (e := 34) w1 #[] 0 (Nat.le_refl _) (by decide) rfl)
    clear hg
    go_wp2_with fail
    go_ret
    exact ⟨_, rfl, by rw [HG.out]; exact own_base O0.out hb1.size, hb1.alloc hb1.size _⟩
  · have hkl : k < len := by rw [← HL.out]; exact (List.getElem?_eq_some_iff.1 hr).1
    have hk6 : (0 : Int) ≤ (k : Int) := by omega
    have hk7 : (k : Int) < (len : Int) := by omega
    have hk8 : ¬ (k : Int) < 0 := by omega
    have HG := Lib.hid hg
    have B2 := hb1.alloc hb1.size (.cells #[] 34)
    obtain ⟨b, off, rfl, hb, hl, hm, hts, hc⟩ := (H.out.next B2).cells (by omega)
    obtain ⟨ga, gn, gc, c0, c1, hz, m0⟩ := hc k _ hr
    have hgn : gn ≤ 1048576 := by have := hz.len; have := totN_mem (List.mem_of_getElem? hr); omega
    have CE := cells_new w1 #[] 34
    have HZ := Lib.hid hz
    have HC := Lib.hid CE.now
    clear hts hc hm m0 c0 hr hg hz CE
    go_wp2_with (at_builtin; refine wpList_copyN rfl _ _ rfl w1.heap.size rfl HC.out ga gn gc r.2 rfl HZ.out hgn ?_)
    intro v' w2 j hj h3 h4
    have hjw : w.heap.size ≤ j := by
      have := hb1.size
      rcases hj.out with rfl | rfl
      · exact this
      · omega
    have HO : Hid (OwnT w.heap.size w2 v' r.2) := Lib.hid (own_base h3.now.1 hjw)
    have B4 := Lib.hid (B2.trans (h4.below B2.size hb1.size))
    clear hj h3 h4
    go_wp2_with fail
    go_ret
    exact ⟨_, rfl, by rw [HG.out]; exact HO.out, B4.out⟩
end Go.Proofs.Ythnpchcfjkepaaa
/- A slice of named graphs that grows by one: what the call owns then; a graph put in among the others. -/
namespace Go.Proofs.Ythnpchcfjkepaaa
open Go.RowKit Go.WideShapes
/-- Another graph at its place; none of that name where it is empty. -/
def putGo (x : NamV) : Bool → List NamV → List NamV
  | done, [] => if done then [] else [x]
  | done, r :: rs => (if !done && lessN x r then [x] else []) ++ ((if r.1 = x.1 then [] else [r]) ++ putGo x (done || lessN x r) rs)
def putNam (ts : List NamV) (x : NamV) : List NamV := putGo x (decide (x.2.length = 0)) ts
theorem putGo_cons {x : NamV} {done : Bool} {ts : List NamV} {k : Nat} {r : NamV} (h : ts[k]? = some r) : putGo x done (ts.drop k) = (if !done && lessN x r then [x] else []) ++ ((if r.1 = x.1 then [] else [r]) ++ putGo x (done || lessN x r) (ts.drop (k + 1))) := by
  have hk := (List.getElem?_eq_some_iff.1 h).1
  have e : ts.drop k = r :: ts.drop (k + 1) := by rw [List.drop_eq_getElem_cons hk, (List.getElem?_eq_some_iff.1 h).2]
  rw [e]; rfl
theorem putGo_len (x : NamV) : ∀ (ts : List NamV) (d : Bool), (putGo x d ts).length ≤ ts.length + (if d then 0 else 1)
  | [], d => by cases d <;> simp [putGo]
  | r :: rs, d => by
    have h := putGo_len x rs (d || lessN x r)
    unfold putGo
    rw [List.length_append, List.length_append, List.length_cons]
    cases d <;> cases hl : lessN x r <;> by_cases e : r.1 = x.1 <;> simp [hl, e] at h ⊢ <;> omega
/-- The call owns the slice v, each of its graphs is one of us, in a block of its own. -/
def OutN (B : Nat) (w : World) (v : Value) (L : List NamV) (us : List Value) : Prop :=
  w.ownsRow B 31 2 v L.length (flatN L us) ∧ InnN B w L us ∧ ∀ u ∈ us, ∀ j, u.ownBlock = some j → v.ownBlock ≠ some j
theorem OutN.own {B : Nat} {w : World} {v : Value} {L : List NamV} {us : List Value} (h : OutN B w v L us) : OwnNs B w v L := ⟨us, h.1, h.2.1, h.2.2⟩
theorem OutN.next {B : Nat} {w w' : World} {v : Value} {L : List NamV} {us : List Value} (h : OutN B w v L us) (hb : Below w.heap.size w w') : OutN B w' v L us :=
  ⟨World.ownsRow.kept h.1 (grown_of_below hb) (by
    rcases hv : v.ownBlock with _ | i
    · exact .inl rfl
    · exact .inr (by simp)), h.2.1.next hb, h.2.2⟩
theorem OutN.grown {B : Nat} {w w' : World} {v : Value} {L : List NamV} {us : List Value} {row : Option Nat} (h : OutN B w v L us) (hg : w.grownBy w' row) (hv : v.ownBlock = none ∨ v.ownBlock ≠ row) (hu : ∀ u ∈ us, u.ownBlock = none ∨ u.ownBlock ≠ row) : OutN B w' v L us :=
  ⟨World.ownsRow.kept h.1 hg hv, ⟨h.2.1.1, fun i u t a b => World.ownsRow.kept (h.2.1.2.1 i u t a b) hg (hu u (List.mem_of_getElem? a)), h.2.1.2.2⟩, h.2.2⟩
theorem OutN.lt {B : Nat} {w : World} {v : Value} {L : List NamV} {us : List Value} (h : OutN B w v L us) : ∀ u ∈ us, ∀ j, u.ownBlock = some j → B ≤ j ∧ j < w.heap.size := h.2.1.lt
theorem InnN.add {B : Nat} {w : World} {ts : List NamV} {us : List Value} {t : NamV} {u : Value} (h : InnN B w ts us) (hd : ∀ v ∈ us, ∀ j, v.ownBlock = some j → u.ownBlock ≠ some j) (ho : OwnT B w u t.2) : InnN B w (ts ++ [t]) (us ++ [u]) := by
  obtain ⟨h1, h2, h3⟩ := h
  refine ⟨by simp [h1], fun i v s hv hs => ?_, List.pairwise_append.2 ⟨h3, List.pairwise_singleton _ _, fun v hv v' hv' j hj e => ?_⟩⟩
  · rcases Nat.lt_or_ge i us.length with g | g
    · rw [List.getElem?_append_left g] at hv
      rw [List.getElem?_append_left (by omega)] at hs
      exact h2 i v s hv hs
    · have hi : i = us.length := by
        have := (List.getElem?_eq_some_iff.1 hv).1
        simp at this; omega
      subst hi
      rw [List.getElem?_append_right (Nat.le_refl _)] at hv
      rw [h1, List.getElem?_append_right (Nat.le_refl _)] at hs
      simp at hv hs
      subst hv hs
      exact ho
  · obtain rfl : v' = u := by simpa using hv'
    exact hd v hv j hj e
/-- One more graph, appended. -/
theorem OutN.more {B : Nat} {w w' : World} {v v' u : Value} {L : List NamV} {us : List Value} {t : NamV} (h : OutN B w v L us) (ho : OwnT B w u t.2) (hd : ∀ x ∈ us, ∀ j, x.ownBlock = some j → u.ownBlock ≠ some j) (hv : ∀ j, u.ownBlock = some j → v.ownBlock ≠ some j)
    (hr : w'.ownsRow B 31 2 v' (L.length + 1) (flatN L us ++ [.string t.1, u])) (hg : w.grownBy w' v.ownBlock) (hat : v'.ownBlock = v.ownBlock ∨ v'.ownBlock = some w.heap.size) : OutN B w' v' (L ++ [t]) (us ++ [u]) := by
  have hI : InnN B w (L ++ [t]) (us ++ [u]) := h.2.1.add hd ho
  have hne : ∀ x ∈ us ++ [u], x.ownBlock = none ∨ x.ownBlock ≠ v.ownBlock := by
    intro x hx
    rcases hxb : x.ownBlock with _ | j
    · exact .inl rfl
    · refine .inr (fun e => ?_)
      rcases List.mem_append.1 hx with hx | hx
      · exact h.2.2 x hx j hxb e.symm
      · obtain rfl := List.mem_singleton.1 hx
        exact hv j hxb e.symm
  refine ⟨?_, ⟨hI.1, fun i x s a b => World.ownsRow.kept (hI.2.1 i x s a b) hg (hne x (List.mem_of_getElem? a)), hI.2.2⟩, fun x hx j hj e => ?_⟩
  · rw [List.length_append, List.length_singleton, flatN_snoc _ _ _ _ h.2.1.1]
    exact hr
  · have hlt := (hI.lt x hx j hj).2
    rcases hat with q | q
    · rw [q] at e
      rcases hne x hx with z | z
      · rw [z] at hj; cases hj
      · exact z (by rw [hj, e])
    · rw [q] at e
      cases e
      exact Nat.lt_irrefl _ hlt
theorem own_oneCell {B : Nat} {w : World} {u : Value} {ts : List Tri3} (h : OwnT B w u ts) : u.oneCell' = true := by
  obtain ⟨a, n, c, rfl⟩ := NamK.own_slice h
  rfl
/-- 'append(out, x)' at a step of a region that draws its order: x lies alone in a literal's block. -/
theorem upon_moreN {o : Oper} {a : Act} {w : World} {Q : Exit → Act → World → Prop} {K : Act → World → Prop} (s x : Operand)
    (ho : o.op = .call { callee := .builtin .append, args := #[s, x], argTypes := #[24, 24] }) {B : Nat} {v u : Value} {L : List NamV} {us : List Value} {t : NamV} (hs : a.eval s = v) (h : OutN B w v L us) (hB : B ≤ w.heap.size)
    (q : Nat) (hx : a.eval x = .slice (some ⟨q, 0, none⟩) 1 1) (hq : w.cell? ⟨q, 0, none⟩ = some (.string t.1) ∧ w.cell? ⟨q, 1, none⟩ = some u) (hu : OwnT B w u t.2) (hd : ∀ x ∈ us, ∀ j, x.ownBlock = some j → u.ownBlock ≠ some j) (hv : ∀ j, u.ownBlock = some j → v.ownBlock ≠ some j) (hl : L.length ≤ 1048576)
    (k : ∀ (v' : Value) (w' : World), OutN B w' v' (L ++ [t]) (us ++ [u]) → w.grownBy w' v.ownBlock → (v'.ownBlock = v.ownBlock ∨ v'.ownBlock = some w.heap.size) → K (a.put o.dst v') w') : Oper.wp Try.prog o a w K Q := by
  obtain ⟨i0, hi, hz0, hz1, hz2⟩ := info_parts infoNam
  have hu1 := own_oneCell hu
  obtain ⟨v', w', hr, ho1, hg1, _, hat⟩ := run_append_own_at (P := Try.prog) (w := w) B 24 o.type 31 i0 (.agg #[.string ⟨#[]⟩, .slice none 0 0]) 2 40 Try.underlying24 hi hz0 hz1 hz2 rfl (by decide) v L.length _ h.1 ⟨q, 0, none⟩ 1 1 [.string t.1, u] rfl (fun j y hy => by
      rcases j with _ | _ | j
      · simp at hy; subst hy; simpa [Addr.add] using hq.1
      · simp at hy; subst hy; simpa [Addr.add] using hq.2
      · simp at hy) (fun y hy => by
      simp at hy
      rcases hy with rfl | rfl
      · rfl
      · exact hu1) (by unfold maxLen; omega) (by omega) hB
  unfold Oper.wp
  simp [execOp, ho, resolve, invoke, builtin, hs, hx, hr, Result.andThen]
  exact k v' w' (h.more hu hd hv ho1 hg1 hat) hg1 hat
theorem wpList_moreN {ops : Array Oper} {rest : List Oper} {o : Oper} {a : Act} {w : World} {Q : Exit → Act → World → Prop} (hgd : o.guard = none) (s x : Operand)
    (ho : o.op = .call { callee := .builtin .append, args := #[s, x], argTypes := #[24, 24] }) {B : Nat} {v u : Value} {L : List NamV} {us : List Value} {t : NamV} (hs : a.eval s = v) (h : OutN B w v L us) (hB : B ≤ w.heap.size)
    (q : Nat) (hx : a.eval x = .slice (some ⟨q, 0, none⟩) 1 1) (hq : w.cell? ⟨q, 0, none⟩ = some (.string t.1) ∧ w.cell? ⟨q, 1, none⟩ = some u) (hu : OwnT B w u t.2) (hd : ∀ x ∈ us, ∀ j, x.ownBlock = some j → u.ownBlock ≠ some j) (hv : ∀ j, u.ownBlock = some j → v.ownBlock ≠ some j) (hl : L.length ≤ 1048576)
    (k : ∀ (v' : Value) (w' : World), OutN B w' v' (L ++ [t]) (us ++ [u]) → w.grownBy w' v.ownBlock → (v'.ownBlock = v.ownBlock ∨ v'.ownBlock = some w.heap.size) → wpList Try.prog ops Q rest (a.put o.dst v') w') : wpList Try.prog ops Q (o :: rest) a w :=
  wpList_plain hgd fun _ hK => upon_moreN s x ho hs h hB q hx hq hu hd hv hl fun v' w' h1 h2 h3 => hK _ _ (k v' w' h1 h2 h3)
end Go.Proofs.Ythnpchcfjkepaaa
