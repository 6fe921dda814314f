/- The contract of RowOk of the specification.; Which rows are right: both sides.; A map from texts to values of the program's own (rows): what it holds; a store and a look. -/
import Derived.Test.YtiajdnhmjdfeeaaGreatK10
import Derived.Deep.RegionHeld3
import Derived.Deep.RegionWith
import Derived.Test.YtiajdnhmjdfeeaaGreatK26
namespace Go.Proofs.YtiajdnhmjdfeeaaGreat
open Go.RowKit Go.WideShapes
set_option maxRecDepth 100000 in
set_option maxHeartbeats 1600000 in
theorem specRowOk (a : Option Addr) (len cap : Nat) (ts : List Pre2) (w : World) (h : IsPres w a len cap ts) (hsm : SmP ts) :
    Calls Tryz.prog 104 #[.slice a len cap] w fun e w' => e = .returned (.bool (rowOk ts)) ∧ Below w.heap.size w w' := by
  have hts := h.len
  have hlen : len ≤ 9223372036854775807 := by
    rcases h with ⟨_, rfl, _, _⟩ | ⟨_, _, h1, h2, _⟩
    · omega
    · unfold maxLen at h2; omega
  have HT := Lib.hid hts
  have H := Lib.hid h
  have HM := Lib.hid hsm
  clear hts h hsm
  go_enter Tryz.func104, Tryz.ntmps104
  go_wp2_with fail
  go_loopw [3] (fun i wr => ∃ k : Nat, k ≤ len ∧ i = .int .i64 k ∧ Hid (gUpto pairT lessP ts k = true) ∧ Below w.heap.size w wr) (fun i _ => len - (intOf i).toNat)
  case atStart => exact ⟨0, Nat.zero_le _, rfl, Lib.hid rfl, Below.refl _ _⟩
  case round =>
    obtain ⟨k, hk, rfl, hok, hnx⟩ := hrel
    by_cases hlt : k < len
    · obtain ⟨b, off, rfl, hb, hl, hm, hts, hc⟩ := H.out.cells (by omega)
      have ht : ts[k]? = some ts[k] := List.getElem?_eq_getElem (by omega)
      have hmm := HM.out ts[k] (List.getElem_mem _)
      obtain ⟨c0, c1, m0, m1⟩ := hc k _ ht
      clear m0 m1
      rw [← hnx.cell (p := ⟨b, _, none⟩) hb] at c0 c1
      obtain ⟨t, htt⟩ : ∃ t, ts[k] = t := ⟨_, rfl⟩
      rw [htt] at c0 c1 ht hmm
      clear htt
      obtain ⟨s1, s2⟩ := hmm
      have A1 := specKindOf t.1 (by omega)
      have A2 := specKindOf t.2 (by omega)
      have hp : pairT t = (decide (kindL t.1.data.toList = 4) && (decide (kindL t.2.data.toList = 1) || decide (kindL t.2.data.toList = 2) || decide (kindL t.2.data.toList = 3))) := rfl
      generalize kindL t.1.data.toList = kv at A1 hp
      generalize kindL t.2.data.toList = kt at A2 hp
      have A3 := specIn kt
      have C1 := Lib.hid A1
      have C2 := Lib.hid A2
      clear A1 A2
      have l0 : b < wr.heap.size := Nat.lt_of_lt_of_le hb hnx.size
      have hk6 : (0 : Int) ≤ (k : Int) := by omega
      have hk7 : (k : Int) < (len : Int) := by omega
      have EV : (((kv : Int) != 4) = true ∧ decide (kv = 4) = false) ∨ (((kv : Int) != 4) = false ∧ decide (kv = 4) = true) := by
        simp only [bne_iff_ne, bne_eq_false_iff_eq, decide_eq_true_eq, decide_eq_false_iff_not]; omega
      rcases EV with ⟨v1, hq1⟩ | ⟨v1, hq1⟩
      · have HR : Hid (gUpto pairT lessP ts ts.length = false) := Lib.hid (gUpto_no (gAt_not ht (by rw [hp, hq1]; rfl)) (by omega))
        clear A3 C2 hq1 hp ht hts hc hm
        go_wp2_with fail
        rw [← World.cell?_drew] at c0 c1
        refine wp_region_any (by kernel_rfl) ?_
        change wpAny _ _ _ _ _ _ _ (World.drew _)
        refine wpAny_take (i := 0) (v := ?_) rfl (by kernel_rfl) (by kernel_rfl) (by kernel_rfl) (fun _ _ _ h => h) (Or.inl ⟨by kernel_rfl, ?_⟩) ?_
        rotate_left
        · intro w; go_simp; try with_reducible rfl
        refine wpAny_take (i := 1) (v := ?_) rfl (by kernel_rfl) (by kernel_rfl) (by kernel_rfl) (fun _ _ _ h => h) (Or.inl ⟨by kernel_rfl, ?_⟩) ?_
        rotate_left
        · intro w; go_simp; try with_reducible rfl
        refine wpAny_take (i := 2) (v := ?_) rfl (by kernel_rfl) (by kernel_rfl) (by kernel_rfl) (fun _ _ _ h => h) (Or.inl ⟨by kernel_rfl, ?_⟩) ?_
        rotate_left
        · intro w; go_simp; try with_reducible rfl
        refine wpAny_take (i := 3) (v := ?_) rfl (by kernel_rfl) (by kernel_rfl) (by kernel_rfl) (fun _ _ _ h => h) (Or.inl ⟨by kernel_rfl, ?_⟩) ?_
        rotate_left
        · intro w; go_simp; try with_reducible rfl
        refine wpAny_ready (rs := [4]) (by kernel_rfl) (by simp) ?_
        refine AllReady.cons rfl (fun K hK => ?_) AllReady.nil
        go_simp
        refine hK _ _ ?_
        clear hK K
        refine wpAny_ready (rs := [5]) (by kernel_rfl) (by simp) ?_
        refine AllReady.cons rfl (fun K hK => ?_) AllReady.nil
        go_simp
        refine (C1.out _).mono ?_
        rintro e wn ⟨rfl, hx⟩
        go_wp2_with fail
        refine wpAny_take (i := 6) (v := ?_) rfl (by kernel_rfl) (by kernel_rfl) (by kernel_rfl) (fun _ _ _ h => h) (Or.inl ⟨by kernel_rfl, ?_⟩) ?_
        rotate_left
        · intro w; go_simp; try with_reducible rfl
        refine wpAny_take (i := 7) (v := ?_) rfl (by kernel_rfl) (by kernel_rfl) (by kernel_rfl) (fun _ _ _ h => h) (Or.inl ⟨by kernel_rfl, ?_⟩) ?_
        rotate_left
        · intro w; go_simp; try with_reducible rfl
        refine wpAny_take (i := 8) (v := undef) rfl (by kernel_rfl) (by kernel_rfl) (by kernel_rfl) (fun _ _ _ h => h) (Or.inr ⟨by kernel_rfl, rfl⟩) ?_
        refine wpAny_take (i := 9) (v := undef) rfl (by kernel_rfl) (by kernel_rfl) (by kernel_rfl) (fun _ _ _ h => h) (Or.inr ⟨by kernel_rfl, rfl⟩) ?_
        refine wpAny_take (i := 10) (v := undef) rfl (by kernel_rfl) (by kernel_rfl) (by kernel_rfl) (fun _ _ _ h => h) (Or.inr ⟨by kernel_rfl, rfl⟩) ?_
        refine wpAny_take (i := 11) (v := undef) rfl (by kernel_rfl) (by kernel_rfl) (by kernel_rfl) (fun _ _ _ h => h) (Or.inr ⟨by kernel_rfl, rfl⟩) ?_
        refine wpAny_take (i := 12) (v := undef) rfl (by kernel_rfl) (by kernel_rfl) (by kernel_rfl) (fun _ _ _ h => h) (Or.inr ⟨by kernel_rfl, rfl⟩) ?_
        refine wpAny_take (i := 13) (v := undef) rfl (by kernel_rfl) (by kernel_rfl) (by kernel_rfl) (fun _ _ _ h => h) (Or.inr ⟨by kernel_rfl, rfl⟩) ?_
        refine wpAny_take (i := 14) (v := undef) rfl (by kernel_rfl) (by kernel_rfl) (by kernel_rfl) (fun _ _ _ h => h) (Or.inr ⟨by kernel_rfl, rfl⟩) ?_
        refine wpAny_take (i := 15) (v := undef) rfl (by kernel_rfl) (by kernel_rfl) (by kernel_rfl) (fun _ _ _ h => h) (Or.inr ⟨by kernel_rfl, rfl⟩) ?_
        refine wpAny_take (i := 16) (v := ?_) rfl (by kernel_rfl) (by kernel_rfl) (by kernel_rfl) (fun _ _ _ h => h) (Or.inl ⟨by kernel_rfl, ?_⟩) ?_
        rotate_left
        · intro w; go_simp; try with_reducible rfl
        refine wpAny_take (i := 17) (v := ?_) rfl (by kernel_rfl) (by kernel_rfl) (by kernel_rfl) (fun _ _ _ h => h) (Or.inl ⟨by kernel_rfl, ?_⟩) ?_
        rotate_left
        · intro w; go_simp; try with_reducible rfl
        refine wpAny_take (i := 18) (v := undef) rfl (by kernel_rfl) (by kernel_rfl) (by kernel_rfl) (fun _ _ _ h => h) (Or.inr ⟨by kernel_rfl, rfl⟩) ?_
        refine wpAny_take (i := 19) (v := undef) rfl (by kernel_rfl) (by kernel_rfl) (by kernel_rfl) (fun _ _ _ h => h) (Or.inr ⟨by kernel_rfl, rfl⟩) ?_
        refine wpAny_take (i := 20) (v := undef) rfl (by kernel_rfl) (by kernel_rfl) (by kernel_rfl) (fun _ _ _ h => h) (Or.inr ⟨by kernel_rfl, rfl⟩) ?_
        refine wpAny_take (i := 21) (v := undef) rfl (by kernel_rfl) (by kernel_rfl) (by kernel_rfl) (fun _ _ _ h => h) (Or.inr ⟨by kernel_rfl, rfl⟩) ?_
        refine wpAny_take (i := 22) (v := undef) rfl (by kernel_rfl) (by kernel_rfl) (by kernel_rfl) (fun _ _ _ h => h) (Or.inr ⟨by kernel_rfl, rfl⟩) ?_
        refine wpAny_take (i := 23) (v := undef) rfl (by kernel_rfl) (by kernel_rfl) (by kernel_rfl) (fun _ _ _ h => h) (Or.inr ⟨by kernel_rfl, rfl⟩) ?_
        refine wpAny_take (i := 24) (v := undef) rfl (by kernel_rfl) (by kernel_rfl) (by kernel_rfl) (fun _ _ _ h => h) (Or.inr ⟨by kernel_rfl, rfl⟩) ?_
        refine wpAny_take (i := 25) (v := undef) rfl (by kernel_rfl) (by kernel_rfl) (by kernel_rfl) (fun _ _ _ h => h) (Or.inr ⟨by kernel_rfl, rfl⟩) ?_
        refine wpAny_take (i := 26) (v := undef) rfl (by kernel_rfl) (by kernel_rfl) (by kernel_rfl) (fun _ _ _ h => h) (Or.inr ⟨by kernel_rfl, rfl⟩) ?_
        refine wpAny_take (i := 27) (v := undef) rfl (by kernel_rfl) (by kernel_rfl) (by kernel_rfl) (fun _ _ _ h => h) (Or.inr ⟨by kernel_rfl, rfl⟩) ?_
        refine wpAny_take (i := 28) (v := undef) rfl (by kernel_rfl) (by kernel_rfl) (by kernel_rfl) (fun _ _ _ h => h) (Or.inr ⟨by kernel_rfl, rfl⟩) ?_
        refine wpAny_take (i := 29) (v := undef) rfl (by kernel_rfl) (by kernel_rfl) (by kernel_rfl) (fun _ _ _ h => h) (Or.inr ⟨by kernel_rfl, rfl⟩) ?_
        refine wpAny_take (i := 30) (v := undef) rfl (by kernel_rfl) (by kernel_rfl) (by kernel_rfl) (fun _ _ _ h => h) (Or.inr ⟨by kernel_rfl, rfl⟩) ?_
        refine wpAny_take (i := 31) (v := undef) rfl (by kernel_rfl) (by kernel_rfl) (by kernel_rfl) (fun _ _ _ h => h) (Or.inr ⟨by kernel_rfl, rfl⟩) ?_
        refine wpAny_take (i := 32) (v := undef) rfl (by kernel_rfl) (by kernel_rfl) (by kernel_rfl) (fun _ _ _ h => h) (Or.inr ⟨by kernel_rfl, rfl⟩) ?_
        refine wpAny_take (i := 33) (v := undef) rfl (by kernel_rfl) (by kernel_rfl) (by kernel_rfl) (fun _ _ _ h => h) (Or.inr ⟨by kernel_rfl, rfl⟩) ?_
        refine wpAny_take (i := 34) (v := ?_) rfl (by kernel_rfl) (by kernel_rfl) (by kernel_rfl) (fun _ _ _ h => h) (Or.inl ⟨by kernel_rfl, ?_⟩) ?_
        rotate_left
        · intro w; go_simp; try with_reducible rfl
        refine wpAny_done (by kernel_rfl) ?_ _
        try simp only [Act.put, List.setIfInBounds_toArray, List.set_cons_zero, List.set_cons_succ, List.getElem_toArray, List.getElem_cons_zero, List.getElem_cons_succ]
        have B : Below w.heap.size w wn := (hnx.drew).trans (hx.mono hnx.size)
        clear hx hnx c0 c1
        go_wp2_with fail
        go_ret
        exact ⟨by unfold rowOk; rw [HR.out, Bool.and_false]; rfl, B⟩
      rw [hq1] at hp
      cases hq2 : (decide (kt = 1) || decide (kt = 2) || decide (kt = 3))
      · have HR : Hid (gUpto pairT lessP ts ts.length = false) := Lib.hid (gUpto_no (gAt_not ht (by rw [hp, hq2]; rfl)) (by omega))
        rw [hq2] at A3
        have C3 := Lib.hid A3
        clear A3 hp hq1 hq2 ht hts hc hm
        go_wp2_with fail
        rw [← World.cell?_drew] at c0 c1
        refine wp_region_any (by kernel_rfl) ?_
        change wpAny _ _ _ _ _ _ _ (World.drew _)
        refine wpAny_take (i := 0) (v := ?_) rfl (by kernel_rfl) (by kernel_rfl) (by kernel_rfl) (fun _ _ _ h => h) (Or.inl ⟨by kernel_rfl, ?_⟩) ?_
        rotate_left
        · intro w; go_simp; try with_reducible rfl
        refine wpAny_take (i := 1) (v := ?_) rfl (by kernel_rfl) (by kernel_rfl) (by kernel_rfl) (fun _ _ _ h => h) (Or.inl ⟨by kernel_rfl, ?_⟩) ?_
        rotate_left
        · intro w; go_simp; try with_reducible rfl
        refine wpAny_take (i := 2) (v := ?_) rfl (by kernel_rfl) (by kernel_rfl) (by kernel_rfl) (fun _ _ _ h => h) (Or.inl ⟨by kernel_rfl, ?_⟩) ?_
        rotate_left
        · intro w; go_simp; try with_reducible rfl
        refine wpAny_take (i := 3) (v := ?_) rfl (by kernel_rfl) (by kernel_rfl) (by kernel_rfl) (fun _ _ _ h => h) (Or.inl ⟨by kernel_rfl, ?_⟩) ?_
        rotate_left
        · intro w; go_simp; try with_reducible rfl
        refine wpAny_ready (rs := [4]) (by kernel_rfl) (by simp) ?_
        refine AllReady.cons rfl (fun K hK => ?_) AllReady.nil
        go_simp
        refine hK _ _ ?_
        clear hK K
        refine wpAny_ready (rs := [5]) (by kernel_rfl) (by simp) ?_
        refine AllReady.cons rfl (fun K hK => ?_) AllReady.nil
        go_simp
        refine (C1.out _).mono ?_
        rintro e wn ⟨rfl, hx⟩
        go_wp2_with fail
        have d1 := c1
        rw [← hx.cell (by simpa using l0)] at d1
        have l1 : wr.heap.size ≤ wn.heap.size := hx.size
        refine wpAny_take (i := 6) (v := ?_) rfl (by kernel_rfl) (by kernel_rfl) (by kernel_rfl) (fun _ _ _ h => h) (Or.inl ⟨by kernel_rfl, ?_⟩) ?_
        rotate_left
        · intro w; go_simp; try with_reducible rfl
        refine wpAny_take (i := 7) (v := ?_) rfl (by kernel_rfl) (by kernel_rfl) (by kernel_rfl) (fun _ _ _ h => h) (Or.inl ⟨by kernel_rfl, ?_⟩) ?_
        rotate_left
        · intro w; go_simp; try with_reducible rfl
        refine wpAny_take (i := 8) (v := ?_) rfl (by kernel_rfl) (by kernel_rfl) (by kernel_rfl) (fun _ _ _ h => h) (Or.inl ⟨by kernel_rfl, ?_⟩) ?_
        rotate_left
        · intro w; go_simp; try with_reducible rfl
        refine wpAny_take (i := 9) (v := ?_) rfl (by kernel_rfl) (by kernel_rfl) (by kernel_rfl) (fun _ _ _ h => h) (Or.inl ⟨by kernel_rfl, ?_⟩) ?_
        rotate_left
        · intro w; go_simp; try with_reducible rfl
        refine wpAny_take (i := 10) (v := ?_) rfl (by kernel_rfl) (by kernel_rfl) (by kernel_rfl) (fun _ _ _ h => h) (Or.inl ⟨by kernel_rfl, ?_⟩) ?_
        rotate_left
        · intro w; go_simp; try with_reducible rfl
        refine wpAny_take (i := 11) (v := ?_) rfl (by kernel_rfl) (by kernel_rfl) (by kernel_rfl) (fun _ _ _ h => h) (Or.inl ⟨by kernel_rfl, ?_⟩) ?_
        rotate_left
        · intro w; go_simp; try with_reducible rfl
        refine wpAny_ready (rs := [12]) (by kernel_rfl) (by simp) ?_
        refine AllReady.cons rfl (fun K hK => ?_) AllReady.nil
        go_simp
        refine hK _ _ ?_
        clear hK K
        refine wpAny_ready (rs := [13]) (by kernel_rfl) (by simp) ?_
        refine AllReady.cons rfl (fun K hK => ?_) AllReady.nil
        go_simp
        refine (C2.out _).mono ?_
        rintro e wm ⟨rfl, hy⟩
        go_wp2_with fail
        refine wpAny_ready (rs := [14]) (by kernel_rfl) (by simp) ?_
        refine AllReady.cons rfl (fun K hK => ?_) AllReady.nil
        go_simp
        refine (C3.out _).mono ?_
        rintro e wz ⟨rfl, rfl⟩
        go_wp2_with fail
        refine wpAny_take (i := 15) (v := ?_) rfl (by kernel_rfl) (by kernel_rfl) (by kernel_rfl) (fun _ _ _ h => h) (Or.inl ⟨by kernel_rfl, ?_⟩) ?_
        rotate_left
        · intro w; go_simp; try with_reducible rfl
        refine wpAny_take (i := 16) (v := ?_) rfl (by kernel_rfl) (by kernel_rfl) (by kernel_rfl) (fun _ _ _ h => h) (Or.inl ⟨by kernel_rfl, ?_⟩) ?_
        rotate_left
        · intro w; go_simp; try with_reducible rfl
        refine wpAny_take (i := 17) (v := ?_) rfl (by kernel_rfl) (by kernel_rfl) (by kernel_rfl) (fun _ _ _ h => h) (Or.inl ⟨by kernel_rfl, ?_⟩) ?_
        rotate_left
        · intro w; go_simp; try with_reducible rfl
        refine wpAny_take (i := 18) (v := undef) rfl (by kernel_rfl) (by kernel_rfl) (by kernel_rfl) (fun _ _ _ h => h) (Or.inr ⟨by kernel_rfl, rfl⟩) ?_
        refine wpAny_take (i := 19) (v := undef) rfl (by kernel_rfl) (by kernel_rfl) (by kernel_rfl) (fun _ _ _ h => h) (Or.inr ⟨by kernel_rfl, rfl⟩) ?_
        refine wpAny_take (i := 20) (v := undef) rfl (by kernel_rfl) (by kernel_rfl) (by kernel_rfl) (fun _ _ _ h => h) (Or.inr ⟨by kernel_rfl, rfl⟩) ?_
        refine wpAny_take (i := 21) (v := undef) rfl (by kernel_rfl) (by kernel_rfl) (by kernel_rfl) (fun _ _ _ h => h) (Or.inr ⟨by kernel_rfl, rfl⟩) ?_
        refine wpAny_take (i := 22) (v := undef) rfl (by kernel_rfl) (by kernel_rfl) (by kernel_rfl) (fun _ _ _ h => h) (Or.inr ⟨by kernel_rfl, rfl⟩) ?_
        refine wpAny_take (i := 23) (v := undef) rfl (by kernel_rfl) (by kernel_rfl) (by kernel_rfl) (fun _ _ _ h => h) (Or.inr ⟨by kernel_rfl, rfl⟩) ?_
        refine wpAny_take (i := 24) (v := undef) rfl (by kernel_rfl) (by kernel_rfl) (by kernel_rfl) (fun _ _ _ h => h) (Or.inr ⟨by kernel_rfl, rfl⟩) ?_
        refine wpAny_take (i := 25) (v := undef) rfl (by kernel_rfl) (by kernel_rfl) (by kernel_rfl) (fun _ _ _ h => h) (Or.inr ⟨by kernel_rfl, rfl⟩) ?_
        refine wpAny_take (i := 26) (v := undef) rfl (by kernel_rfl) (by kernel_rfl) (by kernel_rfl) (fun _ _ _ h => h) (Or.inr ⟨by kernel_rfl, rfl⟩) ?_
        refine wpAny_take (i := 27) (v := undef) rfl (by kernel_rfl) (by kernel_rfl) (by kernel_rfl) (fun _ _ _ h => h) (Or.inr ⟨by kernel_rfl, rfl⟩) ?_
        refine wpAny_take (i := 28) (v := undef) rfl (by kernel_rfl) (by kernel_rfl) (by kernel_rfl) (fun _ _ _ h => h) (Or.inr ⟨by kernel_rfl, rfl⟩) ?_
        refine wpAny_take (i := 29) (v := undef) rfl (by kernel_rfl) (by kernel_rfl) (by kernel_rfl) (fun _ _ _ h => h) (Or.inr ⟨by kernel_rfl, rfl⟩) ?_
        refine wpAny_take (i := 30) (v := undef) rfl (by kernel_rfl) (by kernel_rfl) (by kernel_rfl) (fun _ _ _ h => h) (Or.inr ⟨by kernel_rfl, rfl⟩) ?_
        refine wpAny_take (i := 31) (v := undef) rfl (by kernel_rfl) (by kernel_rfl) (by kernel_rfl) (fun _ _ _ h => h) (Or.inr ⟨by kernel_rfl, rfl⟩) ?_
        refine wpAny_take (i := 32) (v := undef) rfl (by kernel_rfl) (by kernel_rfl) (by kernel_rfl) (fun _ _ _ h => h) (Or.inr ⟨by kernel_rfl, rfl⟩) ?_
        refine wpAny_take (i := 33) (v := undef) rfl (by kernel_rfl) (by kernel_rfl) (by kernel_rfl) (fun _ _ _ h => h) (Or.inr ⟨by kernel_rfl, rfl⟩) ?_
        refine wpAny_take (i := 34) (v := ?_) rfl (by kernel_rfl) (by kernel_rfl) (by kernel_rfl) (fun _ _ _ h => h) (Or.inl ⟨by kernel_rfl, ?_⟩) ?_
        rotate_left
        · intro w; go_simp; try with_reducible rfl
        refine wpAny_done (by kernel_rfl) ?_ _
        try simp only [Act.put, List.setIfInBounds_toArray, List.set_cons_zero, List.set_cons_succ, List.getElem_toArray, List.getElem_cons_zero, List.getElem_cons_succ]
        have B : Below w.heap.size w wm := ((hnx.drew).trans (hx.mono hnx.size)).trans (hy.mono (Nat.le_trans hnx.size l1))
        clear hx hy hnx c0 c1 d1
        go_wp2_with fail
        go_ret
        exact ⟨by unfold rowOk; rw [HR.out, Bool.and_false]; rfl, B⟩
      have hq : pairT t = true := by rw [hp, hq2]; rfl
      rw [hq2] at A3
      have C3 := Lib.hid A3
      clear A3 hp hq1 hq2
      rcases Nat.eq_zero_or_pos k with rfl | h0
      · have HN : Hid (gUpto pairT lessP ts (0 + 1) = true) := Lib.hid (by rw [gUpto_succ, hok.out, gAt_zero ht, hq]; rfl)
        clear hq ht hts hc hm
        simp only [Nat.zero_mul, Nat.add_zero] at c0 c1
        have hz : (0 : Int) < (len : Int) := by omega
        go_wp2_with fail
        rw [← World.cell?_drew] at c0 c1
        refine wp_region_any (by kernel_rfl) ?_
        change wpAny _ _ _ _ _ _ _ (World.drew _)
        refine wpAny_take (i := 0) (v := ?_) rfl (by kernel_rfl) (by kernel_rfl) (by kernel_rfl) (fun _ _ _ h => h) (Or.inl ⟨by kernel_rfl, ?_⟩) ?_
        rotate_left
        · intro w; go_simp; try with_reducible rfl
        refine wpAny_take (i := 1) (v := ?_) rfl (by kernel_rfl) (by kernel_rfl) (by kernel_rfl) (fun _ _ _ h => h) (Or.inl ⟨by kernel_rfl, ?_⟩) ?_
        rotate_left
        · intro w; go_simp; try with_reducible rfl
        refine wpAny_take (i := 2) (v := ?_) rfl (by kernel_rfl) (by kernel_rfl) (by kernel_rfl) (fun _ _ _ h => h) (Or.inl ⟨by kernel_rfl, ?_⟩) ?_
        rotate_left
        · intro w; go_simp; try with_reducible rfl
        refine wpAny_take (i := 3) (v := ?_) rfl (by kernel_rfl) (by kernel_rfl) (by kernel_rfl) (fun _ _ _ h => h) (Or.inl ⟨by kernel_rfl, ?_⟩) ?_
        rotate_left
        · intro w; go_simp; try with_reducible rfl
        refine wpAny_ready (rs := [4]) (by kernel_rfl) (by simp) ?_
        refine AllReady.cons rfl (fun K hK => ?_) AllReady.nil
        go_simp
        refine hK _ _ ?_
        clear hK K
        refine wpAny_ready (rs := [5]) (by kernel_rfl) (by simp) ?_
        refine AllReady.cons rfl (fun K hK => ?_) AllReady.nil
        go_simp
        refine (C1.out _).mono ?_
        rintro e wn ⟨rfl, hx⟩
        go_wp2_with fail
        have d1 := c1
        rw [← hx.cell (by simpa using l0)] at d1
        have l1 : wr.heap.size ≤ wn.heap.size := hx.size
        refine wpAny_take (i := 6) (v := ?_) rfl (by kernel_rfl) (by kernel_rfl) (by kernel_rfl) (fun _ _ _ h => h) (Or.inl ⟨by kernel_rfl, ?_⟩) ?_
        rotate_left
        · intro w; go_simp; try with_reducible rfl
        refine wpAny_take (i := 7) (v := ?_) rfl (by kernel_rfl) (by kernel_rfl) (by kernel_rfl) (fun _ _ _ h => h) (Or.inl ⟨by kernel_rfl, ?_⟩) ?_
        rotate_left
        · intro w; go_simp; try with_reducible rfl
        refine wpAny_take (i := 8) (v := ?_) rfl (by kernel_rfl) (by kernel_rfl) (by kernel_rfl) (fun _ _ _ h => h) (Or.inl ⟨by kernel_rfl, ?_⟩) ?_
        rotate_left
        · intro w; go_simp; try with_reducible rfl
        refine wpAny_take (i := 9) (v := ?_) rfl (by kernel_rfl) (by kernel_rfl) (by kernel_rfl) (fun _ _ _ h => h) (Or.inl ⟨by kernel_rfl, ?_⟩) ?_
        rotate_left
        · intro w; go_simp; try with_reducible rfl
        refine wpAny_take (i := 10) (v := ?_) rfl (by kernel_rfl) (by kernel_rfl) (by kernel_rfl) (fun _ _ _ h => h) (Or.inl ⟨by kernel_rfl, ?_⟩) ?_
        rotate_left
        · intro w; go_simp; try with_reducible rfl
        refine wpAny_take (i := 11) (v := ?_) rfl (by kernel_rfl) (by kernel_rfl) (by kernel_rfl) (fun _ _ _ h => h) (Or.inl ⟨by kernel_rfl, ?_⟩) ?_
        rotate_left
        · intro w; go_simp; try with_reducible rfl
        refine wpAny_ready (rs := [12]) (by kernel_rfl) (by simp) ?_
        refine AllReady.cons rfl (fun K hK => ?_) AllReady.nil
        go_simp
        refine hK _ _ ?_
        clear hK K
        refine wpAny_ready (rs := [13]) (by kernel_rfl) (by simp) ?_
        refine AllReady.cons rfl (fun K hK => ?_) AllReady.nil
        go_simp
        refine (C2.out _).mono ?_
        rintro e wm ⟨rfl, hy⟩
        go_wp2_with fail
        refine wpAny_ready (rs := [14]) (by kernel_rfl) (by simp) ?_
        refine AllReady.cons rfl (fun K hK => ?_) AllReady.nil
        go_simp
        refine (C3.out _).mono ?_
        rintro e wz ⟨rfl, rfl⟩
        go_wp2_with fail
        refine wpAny_take (i := 15) (v := ?_) rfl (by kernel_rfl) (by kernel_rfl) (by kernel_rfl) (fun _ _ _ h => h) (Or.inl ⟨by kernel_rfl, ?_⟩) ?_
        rotate_left
        · intro w; go_simp; try with_reducible rfl
        refine wpAny_take (i := 16) (v := ?_) rfl (by kernel_rfl) (by kernel_rfl) (by kernel_rfl) (fun _ _ _ h => h) (Or.inl ⟨by kernel_rfl, ?_⟩) ?_
        rotate_left
        · intro w; go_simp; try with_reducible rfl
        refine wpAny_take (i := 17) (v := ?_) rfl (by kernel_rfl) (by kernel_rfl) (by kernel_rfl) (fun _ _ _ h => h) (Or.inl ⟨by kernel_rfl, ?_⟩) ?_
        rotate_left
        · intro w; go_simp; try with_reducible rfl
        refine wpAny_take (i := 18) (v := ?_) rfl (by kernel_rfl) (by kernel_rfl) (by kernel_rfl) (fun _ _ _ h => h) (Or.inl ⟨by kernel_rfl, ?_⟩) ?_
        rotate_left
        · intro w; go_simp; try with_reducible rfl
        refine wpAny_take (i := 19) (v := ?_) rfl (by kernel_rfl) (by kernel_rfl) (by kernel_rfl) (fun _ _ _ h => h) (Or.inl ⟨by kernel_rfl, ?_⟩) ?_
        rotate_left
        · intro w; go_simp; try with_reducible rfl
        refine wpAny_take (i := 20) (v := ?_) rfl (by kernel_rfl) (by kernel_rfl) (by kernel_rfl) (fun _ _ _ h => h) (Or.inl ⟨by kernel_rfl, ?_⟩) ?_
        rotate_left
        · intro w; go_simp; try with_reducible rfl
        refine wpAny_take (i := 21) (v := undef) rfl (by kernel_rfl) (by kernel_rfl) (by kernel_rfl) (fun _ _ _ h => h) (Or.inr ⟨by kernel_rfl, rfl⟩) ?_
        refine wpAny_take (i := 22) (v := undef) rfl (by kernel_rfl) (by kernel_rfl) (by kernel_rfl) (fun _ _ _ h => h) (Or.inr ⟨by kernel_rfl, rfl⟩) ?_
        refine wpAny_take (i := 23) (v := undef) rfl (by kernel_rfl) (by kernel_rfl) (by kernel_rfl) (fun _ _ _ h => h) (Or.inr ⟨by kernel_rfl, rfl⟩) ?_
        refine wpAny_take (i := 24) (v := undef) rfl (by kernel_rfl) (by kernel_rfl) (by kernel_rfl) (fun _ _ _ h => h) (Or.inr ⟨by kernel_rfl, rfl⟩) ?_
        refine wpAny_take (i := 25) (v := undef) rfl (by kernel_rfl) (by kernel_rfl) (by kernel_rfl) (fun _ _ _ h => h) (Or.inr ⟨by kernel_rfl, rfl⟩) ?_
        refine wpAny_take (i := 26) (v := undef) rfl (by kernel_rfl) (by kernel_rfl) (by kernel_rfl) (fun _ _ _ h => h) (Or.inr ⟨by kernel_rfl, rfl⟩) ?_
        refine wpAny_take (i := 27) (v := undef) rfl (by kernel_rfl) (by kernel_rfl) (by kernel_rfl) (fun _ _ _ h => h) (Or.inr ⟨by kernel_rfl, rfl⟩) ?_
        refine wpAny_take (i := 28) (v := undef) rfl (by kernel_rfl) (by kernel_rfl) (by kernel_rfl) (fun _ _ _ h => h) (Or.inr ⟨by kernel_rfl, rfl⟩) ?_
        refine wpAny_take (i := 29) (v := undef) rfl (by kernel_rfl) (by kernel_rfl) (by kernel_rfl) (fun _ _ _ h => h) (Or.inr ⟨by kernel_rfl, rfl⟩) ?_
        refine wpAny_take (i := 30) (v := undef) rfl (by kernel_rfl) (by kernel_rfl) (by kernel_rfl) (fun _ _ _ h => h) (Or.inr ⟨by kernel_rfl, rfl⟩) ?_
        refine wpAny_take (i := 31) (v := undef) rfl (by kernel_rfl) (by kernel_rfl) (by kernel_rfl) (fun _ _ _ h => h) (Or.inr ⟨by kernel_rfl, rfl⟩) ?_
        refine wpAny_take (i := 32) (v := undef) rfl (by kernel_rfl) (by kernel_rfl) (by kernel_rfl) (fun _ _ _ h => h) (Or.inr ⟨by kernel_rfl, rfl⟩) ?_
        refine wpAny_take (i := 33) (v := ?_) rfl (by kernel_rfl) (by kernel_rfl) (by kernel_rfl) (fun _ _ _ h => h) (Or.inl ⟨by kernel_rfl, ?_⟩) ?_
        rotate_left
        · intro w; go_simp; try with_reducible rfl
        refine wpAny_take (i := 34) (v := ?_) rfl (by kernel_rfl) (by kernel_rfl) (by kernel_rfl) (fun _ _ _ h => h) (Or.inl ⟨by kernel_rfl, ?_⟩) ?_
        rotate_left
        · intro w; go_simp; try with_reducible rfl
        refine wpAny_done (by kernel_rfl) ?_ _
        try simp only [Act.put, List.setIfInBounds_toArray, List.set_cons_zero, List.set_cons_succ, List.getElem_toArray, List.getElem_cons_zero, List.getElem_cons_succ]
        have B : Below w.heap.size w wm := ((hnx.drew).trans (hx.mono hnx.size)).trans (hy.mono (Nat.le_trans hnx.size l1))
        clear hx hy hnx c0 c1 d1
        go_wp2_with fail
        go_roundw
        case rel => exact ⟨0 + 1, by omega, by go_num, HN, B⟩
        case measure => simp [intOf]; omega
      · obtain ⟨j, rfl⟩ : ∃ j, k = j + 1 := ⟨k - 1, by omega⟩
        have hu : ts[j]? = some ts[j] := List.getElem?_eq_getElem (by omega)
        obtain ⟨p0, p1, m0, m1⟩ := hc j _ hu
        clear m0 m1
        rw [← hnx.cell (p := ⟨b, _, none⟩) hb] at p0 p1
        obtain ⟨u, huu⟩ : ∃ u, ts[j] = u := ⟨_, rfl⟩
        rw [huu] at p0 p1 hu
        clear huu
        have HA := gAt_next (ok := pairT) (ah := lessP) h0 ht hu
        rw [hq] at HA
        cases ha : lessP u t
        · have HR : Hid (gUpto pairT lessP ts ts.length = false) := Lib.hid (gUpto_no (k := j + 1) (by rw [HA, ha]; rfl) (by omega))
          have hls : Op.bytesLess u.1.toList t.1.toList = false := ha
          clear ha HA hq ht hu hts hc hm
          go_wp2_with fail
          have hj1 : ((j + 1 : Nat) : Int) - 1 = (j : Int) := by omega
          have hj2 : IntKind.i64.wrap (((j + 1 : Nat) : Int) - 1) = (j : Int) := by rw [hj1]; exact IntWalk.i64_in _ (by omega)
          have hjl : j < len := by omega
          have hk8 : (0 : Int) ≤ (j : Int) + 1 := by omega
          have hk9 : (j : Int) + 1 < (len : Int) := by omega
          have hj6 : (0 : Int) ≤ (j : Int) := by omega
          have hj7 : (j : Int) < (len : Int) := by omega
          have hj8 : IntKind.i64.wrap (j : Int) = (j : Int) := IntWalk.i64_in _ (by omega)
          have hj4 : (j : Int) + 1 - 1 = (j : Int) := by omega
          have hj5 : IntKind.i64.wrap ((j : Int) + 1 - 1) = (j : Int) := by rw [hj4]; exact IntWalk.i64_in _ (by omega)
          have hj3 : decide ((0 : Int) < ((j + 1 : Nat) : Int)) = true := by rw [decide_eq_true_eq]; omega
          go_region_held3 (fun w' => w'.cell? ⟨b, off + (j + 1) * 2, none⟩ = some (.string t.1) ∧ w'.cell? ⟨b, off + (j + 1) * 2 + 1, none⟩ = some (.string t.2) ∧ w'.cell? ⟨b, off + j * 2, none⟩ = some (.string u.1))
            (first | go_keep | (go_split_ands; refine ⟨?_, ?_, ?_⟩ <;> assumption) | (go_split_ands; refine ⟨?_, ?_, ?_⟩ <;> (rw [hb4.cell (by first | (simp; done) | exact World.block_lt_of_cell? _ _ (by assumption))]; assumption)) | (go_split_ands; refine ⟨?_, ?_, ?_⟩ <;> (rw [ha4.cell (by first | (simp; done) | exact World.block_lt_of_cell? _ _ (by assumption))]; assumption)))
            (first
              | (go_at_call_of 105 (Value.string t.1); refine (C1.out _).mono ?_; rintro e wa ⟨rfl, ha4⟩)
              | (go_at_call_of 105 (Value.string t.2); refine (C2.out _).mono ?_; rintro e wb ⟨rfl, hb4⟩)
              | (go_at_call 99; refine (C3.out _).mono ?_; rintro e wz ⟨rfl, rfl⟩))
          have B1 : Below w.heap.size w wa := (hnx.drew).trans (ha4.mono hnx.size)
          have B : Below w.heap.size w wb := B1.trans (hb4.mono B1.size)
          clear ha4 hb4 B1 hnx c0 c1 p0 p1
          go_wp2_with fail
          go_ret
          exact ⟨by unfold rowOk; rw [HR.out, Bool.and_false]; rfl, B⟩
        · have HN : Hid (gUpto pairT lessP ts (j + 1 + 1) = true) := Lib.hid (by rw [gUpto_succ, hok.out, HA, ha]; rfl)
          have hls : Op.bytesLess u.1.toList t.1.toList = true := ha
          clear ha HA hq ht hu hts hc hm
          go_wp2_with fail
          have hj1 : ((j + 1 : Nat) : Int) - 1 = (j : Int) := by omega
          have hj2 : IntKind.i64.wrap (((j + 1 : Nat) : Int) - 1) = (j : Int) := by rw [hj1]; exact IntWalk.i64_in _ (by omega)
          have hjl : j < len := by omega
          have hk8 : (0 : Int) ≤ (j : Int) + 1 := by omega
          have hk9 : (j : Int) + 1 < (len : Int) := by omega
          have hj6 : (0 : Int) ≤ (j : Int) := by omega
          have hj7 : (j : Int) < (len : Int) := by omega
          have hj8 : IntKind.i64.wrap (j : Int) = (j : Int) := IntWalk.i64_in _ (by omega)
          have hj4 : (j : Int) + 1 - 1 = (j : Int) := by omega
          have hj5 : IntKind.i64.wrap ((j : Int) + 1 - 1) = (j : Int) := by rw [hj4]; exact IntWalk.i64_in _ (by omega)
          have hj3 : decide ((0 : Int) < ((j + 1 : Nat) : Int)) = true := by rw [decide_eq_true_eq]; omega
          go_region_held3 (fun w' => w'.cell? ⟨b, off + (j + 1) * 2, none⟩ = some (.string t.1) ∧ w'.cell? ⟨b, off + (j + 1) * 2 + 1, none⟩ = some (.string t.2) ∧ w'.cell? ⟨b, off + j * 2, none⟩ = some (.string u.1))
            (first | go_keep | (go_split_ands; refine ⟨?_, ?_, ?_⟩ <;> assumption) | (go_split_ands; refine ⟨?_, ?_, ?_⟩ <;> (rw [hb4.cell (by first | (simp; done) | exact World.block_lt_of_cell? _ _ (by assumption))]; assumption)) | (go_split_ands; refine ⟨?_, ?_, ?_⟩ <;> (rw [ha4.cell (by first | (simp; done) | exact World.block_lt_of_cell? _ _ (by assumption))]; assumption)))
            (first
              | (go_at_call_of 105 (Value.string t.1); refine (C1.out _).mono ?_; rintro e wa ⟨rfl, ha4⟩)
              | (go_at_call_of 105 (Value.string t.2); refine (C2.out _).mono ?_; rintro e wb ⟨rfl, hb4⟩)
              | (go_at_call 99; refine (C3.out _).mono ?_; rintro e wz ⟨rfl, rfl⟩))
          have B1 : Below w.heap.size w wa := (hnx.drew).trans (ha4.mono hnx.size)
          have B : Below w.heap.size w wb := B1.trans (hb4.mono B1.size)
          clear ha4 hb4 B1 hnx c0 c1 p0 p1
          go_wp2_with fail
          go_roundw
          case rel => exact ⟨j + 1 + 1, by omega, by go_num, HN, B⟩
          case measure => simp [intOf]; omega
    · have HF : Hid (rowOk ts = decide ((len : Int) ≤ 12)) := Lib.hid (by
        have := hok.out
        unfold rowOk
        rw [HT.out, show len = k from by omega, this, Bool.and_true]
        exact decide_eq_decide.2 (by omega))
      by_cases h80 : (len : Int) ≤ 12
      · go_wp2_with fail
        go_ret
        exact ⟨by rw [HF.out, decide_eq_true h80]; rfl, hnx⟩
      · go_wp2_with fail
        go_ret
        exact ⟨by rw [HF.out, decide_eq_false (by omega)]; rfl, hnx⟩
end Go.Proofs.YtiajdnhmjdfeeaaGreat
namespace Go.Proofs.YtiajdnhmjdfeeaaGreat
open Go.RowKit Go.WideShapes
def rowsOkL (rs : List RowV) : Bool := decide (rs.length ≤ 300) && rs.all rowOk
def SmR (rs : List RowV) : Prop := ∀ r ∈ rs, SmP r
theorem all_step {rs : List RowV} {k : Nat} (h : k < rs.length) (ha : (rs.take k).all rowOk = true) (hb : rowOk rs[k] = true) : (rs.take (k + 1)).all rowOk = true := by
  rw [List.take_succ_eq_append_getElem h, List.all_append, ha]
  simp [hb]
theorem all_not {rs : List RowV} {k : Nat} (h : k < rs.length) (hb : rowOk rs[k] = false) : rs.all rowOk = false := by
  rw [List.all_eq_false]
  exact ⟨_, List.getElem_mem h, by simp [hb]⟩
set_option maxRecDepth 100000 in
set_option maxHeartbeats 1600000 in
theorem implRowsOk (a : Option Addr) (len cap : Nat) (rs : List RowV) (w : World) (h : IsRows w a len cap rs) (hsm : SmR rs) :
    Calls Tryz.prog 66 #[.slice a len cap] w fun e w' => e = .returned (.bool (rowsOkL rs)) ∧ Below w.heap.size w w' := by
  have hlen : len ≤ 9223372036854775807 := h.maxl
  obtain ⟨q, hq⟩ : ∃ q, rowsOkL rs = q := ⟨_, rfl⟩
  rw [hq]
  unfold rowsOkL at hq
  rw [h.len] at hq
  have HQ := Lib.hid hq
  have HI := Lib.hid h
  have HT := Lib.hid h.len
  have HM := Lib.hid hsm
  clear h hsm hq
  go_enter Tryz.func66, Tryz.ntmps66
  by_cases hbig : 300 < len
  · have h7 : (300 : Int) < (len : Int) := by omega
    have HF : Hid (q = false) := Lib.hid (by rw [← HQ.out, decide_eq_false (by omega), Bool.false_and])
    go_wp2_with fail
    go_ret
    exact ⟨by rw [HF.out]; rfl, Below.refl _ _⟩
  have h7 : ¬ (300 : Int) < (len : Int) := by omega
  go_wp2_with fail
  go_loopw [10] (fun i wr => ∃ k : Nat, k ≤ len ∧ i = .int .i64 k ∧ Hid ((rs.take k).all rowOk = true) ∧ Below w.heap.size w wr) (fun i _ => len - (intOf i).toNat)
  case atStart => exact ⟨0, Nat.zero_le _, rfl, Lib.hid (by simp), Below.refl _ _⟩
  case round =>
    obtain ⟨k, hk, rfl, hal, hnx⟩ := hrel
    by_cases hlt : k < len
    · obtain ⟨x, off, rfl, hx, _, _, hts, hc⟩ := (HI.out.next hnx).cells (by omega)
      have ht : rs[k]? = some rs[k] := List.getElem?_eq_getElem (by omega)
      obtain ⟨a1, n1, k1, c0, hz1⟩ := hc k _ ht
      have E := Lib.hid (fun W (h : Below wr.heap.size wr W) => implRowOk a1 n1 k1 rs[k] W (hz1.next h) (HM.out _ (List.getElem_mem _)))
      have A1 : Hid (rowOk rs[k] = true → (rs.take (k + 1)).all rowOk = true) := Lib.hid (all_step (by omega) hal.out)
      have A2 : Hid (rowOk rs[k] = false → q = false) := Lib.hid (fun hf => by rw [← HQ.out, all_not (by omega) hf, Bool.and_false])
      generalize rowOk rs[k] = ok at E A1 A2
      clear ht hts hc hz1 hal
      go_wp2_with fail
      refine (E.out _ (by first | exact Below.refl _ _ | exact Below.drew (Below.refl _ _))).mono ?_
      rintro e w2 ⟨rfl, hb2⟩
      have B := hnx.trans (hb2.mono hnx.size)
      clear hnx hb2 E c0
      cases ok
      · have HF := A2.out rfl
        go_wp2_with fail
        go_ret
        exact ⟨by rw [HF]; rfl, B⟩
      · have HA := A1.out rfl
        have HB := Lib.hid HA
        clear A2 HA
        go_wp2_with fail
        go_roundw
        case rel => exact ⟨k + 1, by omega, by go_num, HB, B⟩
        case measure => simp [intOf]; omega
    · have HF : Hid (q = true) := Lib.hid (by
        have h1 := hal.out
        rw [List.take_of_length_le (by rw [HT.out]; omega)] at h1
        rw [← HQ.out, h1, decide_eq_true (by omega), Bool.and_true])
      go_wp2_with fail
      go_ret
      exact ⟨by rw [HF.out]; rfl, hnx⟩
set_option maxRecDepth 100000 in
set_option maxHeartbeats 1600000 in
theorem specRowsOk (a : Option Addr) (len cap : Nat) (rs : List RowV) (w : World) (h : IsRows w a len cap rs) (hsm : SmR rs) :
    Calls Tryz.prog 72 #[.slice a len cap] w fun e w' => e = .returned (.bool (rowsOkL rs)) ∧ Below w.heap.size w w' := by
  have hlen : len ≤ 9223372036854775807 := h.maxl
  obtain ⟨q, hq⟩ : ∃ q, rowsOkL rs = q := ⟨_, rfl⟩
  rw [hq]
  unfold rowsOkL at hq
  rw [h.len] at hq
  have HQ := Lib.hid hq
  have HI := Lib.hid h
  have HT := Lib.hid h.len
  have HM := Lib.hid hsm
  clear h hsm hq
  go_enter Tryz.func72, Tryz.ntmps72
  go_wp2_with fail
  go_loopw [3] (fun i wr => ∃ k : Nat, k ≤ len ∧ i = .int .i64 k ∧ Hid ((rs.take k).all rowOk = true) ∧ Below w.heap.size w wr) (fun i _ => len - (intOf i).toNat)
  case atStart => exact ⟨0, Nat.zero_le _, rfl, Lib.hid (by simp), Below.refl _ _⟩
  case round =>
    obtain ⟨k, hk, rfl, hal, hnx⟩ := hrel
    have hk6 : (0 : Int) ≤ (k : Int) := by omega
    by_cases hlt : k < len
    · have hk7 : (k : Int) < (len : Int) := by omega
      obtain ⟨x, off, rfl, hx, _, _, hts, hc⟩ := (HI.out.next hnx).cells (by omega)
      have ht : rs[k]? = some rs[k] := List.getElem?_eq_getElem (by omega)
      obtain ⟨a1, n1, k1, c0, hz1⟩ := hc k _ ht
      have E := Lib.hid (fun W (h : Below wr.heap.size wr W) => specRowOk a1 n1 k1 rs[k] W (hz1.next h) (HM.out _ (List.getElem_mem _)))
      have A1 : Hid (rowOk rs[k] = true → (rs.take (k + 1)).all rowOk = true) := Lib.hid (all_step (by omega) hal.out)
      have A2 : Hid (rowOk rs[k] = false → q = false) := Lib.hid (fun hf => by rw [← HQ.out, all_not (by omega) hf, Bool.and_false])
      generalize rowOk rs[k] = ok at E A1 A2
      clear ht hts hc hz1 hal
      go_wp2_with fail
      refine (E.out _ (by first | exact Below.refl _ _ | exact Below.drew (Below.refl _ _))).mono ?_
      rintro e w2 ⟨rfl, hb2⟩
      have B := hnx.trans (hb2.mono hnx.size)
      clear hnx hb2 E c0
      cases ok
      · have HF := A2.out rfl
        go_wp2_with fail
        go_ret
        exact ⟨by rw [HF]; rfl, B⟩
      · have HA := A1.out rfl
        have HB := Lib.hid HA
        clear A2 HA
        go_wp2_with fail
        go_roundw
        case rel => exact ⟨k + 1, by omega, by go_num, HB, B⟩
        case measure => simp [intOf]; omega
    · have HF : Hid (decide ((len : Int) ≤ 300) = q) := Lib.hid (by
        have h1 := hal.out
        rw [List.take_of_length_le (by rw [HT.out]; omega)] at h1
        rw [← HQ.out, h1, Bool.and_true]
        exact decide_eq_decide.2 (by omega))
      rcases Nat.lt_or_ge 300 len with g | g
      · have g1 : ¬ (len : Int) ≤ 300 := by omega
        have HG : Hid (q = false) := Lib.hid (by rw [← HF.out]; exact decide_eq_false g1)
        go_wp2_with fail
        go_ret
        exact ⟨by rw [HG.out]; rfl, hnx⟩
      · have g1 : (len : Int) ≤ 300 := by omega
        have HG : Hid (q = true) := Lib.hid (by rw [← HF.out]; exact decide_eq_true g1)
        go_wp2_with fail
        go_ret
        exact ⟨by rw [HG.out]; rfl, hnx⟩
end Go.Proofs.YtiajdnhmjdfeeaaGreat
namespace Go.Proofs.YtiajdnhmjdfeeaaGreat
open Go.Maps
/-- One more: the value at the text is told anew where the text is there. -/
def addV (kvs : List (Txt × Value)) (t : Txt) (v : Value) : List (Txt × Value) :=
  if t ∈ kvs.map Prod.fst then kvs.map (fun p => if p.1 = t then (t, v) else p) else kvs ++ [(t, v)]
theorem addV_keys (kvs : List (Txt × Value)) (t : Txt) (v : Value) : (addV kvs t v).map Prod.fst = addS (kvs.map Prod.fst) t := by
  unfold addV addS
  split
  · rw [List.map_map]
    apply List.map_congr_left
    intro p _
    by_cases e : p.1 = t
    · simp [e]
    · simp [e]
  · simp
theorem addV_mem {kvs : List (Txt × Value)} {t : Txt} {v : Value} {p : Txt × Value} (h : p ∈ addV kvs t v) : p = (t, v) ∨ (p.1 ≠ t ∧ p ∈ kvs) := by
  unfold addV at h
  split at h
  · obtain ⟨q, hq, rfl⟩ := List.mem_map.1 h
    by_cases e : q.1 = t
    · left; simp [e]
    · right; simp [e, hq]
  · rename_i hn
    rcases List.mem_append.1 h with h | h
    · right
      exact ⟨fun e => hn (List.mem_map.2 ⟨p, h, e⟩), h⟩
    · left; simpa using h
/-- A map's datum is just these texts, each with its value. -/
structure MapOfV (D : DataW Value) (kvs : List (Txt × Value)) : Prop where
  nodup : (kvs.map Prod.fst).Nodup
  has : ∀ kl, Maps.has D kl = true ↔ ∃ t ∈ kvs.map Prod.fst, kl = litS t
  size : Maps.size D = kvs.length
  val : ∀ p ∈ kvs, ∀ z, D.atKey (litS p.1) z = .held p.2
section
variable {D : DataW Value} {kvs : List (Txt × Value)}
theorem MapOfV.empty : MapOfV (.map [] : DataW Value) [] := ⟨List.nodup_nil, fun kl => by simp [has_eq], rfl, by simp⟩
theorem MapOfV.mem (h : MapOfV D kvs) (t : Txt) : Maps.has D (litS t) = decide (t ∈ kvs.map Prod.fst) := by
  rw [Bool.eq_iff_iff, h.has, decide_eq_true_eq]
  exact ⟨fun ⟨u, hu, e⟩ => by rw [litS_inj e]; exact hu, fun g => ⟨t, g, rfl⟩⟩
theorem MapOfV.put (h : MapOfV D kvs) (hT : Tidy D) (t : Txt) (v : Value) : MapOfV (D.put (litS t) (.held v)) (addV kvs t v) := by
  have hm := h.mem t
  have hkk := addV_keys kvs t v
  have hhas : ∀ kl, Maps.has (D.put (litS t) (.held v)) kl = true ↔ ∃ u ∈ (addV kvs t v).map Prod.fst, kl = litS u := by
    intro kl
    rw [hkk]
    by_cases e : kl = litS t
    · subst e
      exact ⟨fun _ => ⟨t, addS_mem.2 (.inr rfl), rfl⟩, fun _ => has_put_same hT.isMap (litS_key t) _⟩
    · rw [has_put_other e, h.has]
      exact ⟨fun ⟨u, hu, hk⟩ => ⟨u, addS_mem.2 (.inl hu), hk⟩, fun ⟨u, hu, hk⟩ => by
        rcases addS_mem.1 hu with hu | rfl
        · exact ⟨u, hu, hk⟩
        · exact absurd hk e⟩
  have hval : ∀ p ∈ addV kvs t v, ∀ z, (D.put (litS t) (.held v)).atKey (litS p.1) z = .held p.2 := by
    intro p hp z
    rcases addV_mem hp with rfl | ⟨hne, hp⟩
    · exact atKey_put_same hT.isMap (litS_key t) _ _
    · rw [atKey_put_other (fun e => hne (litS_inj e))]
      exact h.val p hp z
  refine ⟨?_, hhas, ?_, hval⟩
  · rw [hkk]
    unfold addS
    split
    · exact h.nodup
    · rename_i hn
      exact List.nodup_append.2 ⟨h.nodup, by simp, fun a ha b hb => by simp at hb; subst hb; exact fun e => hn (e ▸ ha)⟩
  · rw [size_put hT, hm]
    unfold addV
    by_cases g : t ∈ kvs.map Prod.fst
    · rw [if_pos g, List.length_map, h.size]; simp [g]
    · rw [if_neg g, List.length_append, h.size]; simp [g]
end
open Go.RowKit Go.Maps
/-- Each value told by itself. -/
def valR (v : Value) : Option (DataW Value × List MemPlace) := some (.held v, [])
/-- Block b is a map of at most n entries that has just these texts, each with its value. -/
def OwnMapV (w : World) (b n : Nat) (kvs : List (Txt × Value)) : Prop := ∃ D : DataW Value, w.ownsMap Tryz.prog 9 valR b n D ∧ MapOfV D kvs
theorem OwnMapV.lt {w : World} {b n : Nat} {kvs : List (Txt × Value)} (h : OwnMapV w b n kvs) : b < w.heap.size := by obtain ⟨D, h, _⟩ := h; exact h.lt
theorem OwnMapV.kept {w w' : World} {b n : Nat} {kvs : List (Txt × Value)} {row : Option Nat} (h : OwnMapV w b n kvs) (hg : w.grownBy w' row) (hne : some b ≠ row) : OwnMapV w' b n kvs := by
  obtain ⟨D, h, hD⟩ := h
  exact ⟨D, h.kept hg hne, hD⟩
theorem OwnMapV.next {w w' : World} {b n : Nat} {kvs : List (Txt × Value)} (h : OwnMapV w b n kvs) (hb : Below w.heap.size w w') : OwnMapV w' b n kvs := h.kept (grown_of_below hb) (by simp)
theorem OwnMapV.alloc {w : World} {b n : Nat} {kvs : List (Txt × Value)} (h : OwnMapV w b n kvs) (o : Obj) : OwnMapV (w.alloc o) b n kvs := h.kept (World.grownBy_alloc w o none) (by simp)
theorem OwnMapV.drew {w : World} {b n : Nat} {kvs : List (Txt × Value)} (h : OwnMapV w b n kvs) : OwnMapV w.drew b n kvs := h
theorem OwnMapV.nodup {w : World} {b n : Nat} {kvs : List (Txt × Value)} (h : OwnMapV w b n kvs) : (kvs.map Prod.fst).Nodup := by obtain ⟨D, _, h⟩ := h; exact h.nodup
theorem OwnMapV.made (w : World) : OwnMapV (w.alloc (.map #[] 0)) w.heap.size 0 [] := ⟨_, World.ownsMap_made _ _ _ _, MapOfV.empty⟩
theorem OwnMapV.mono {w : World} {b n n' : Nat} {kvs : List (Txt × Value)} (h : OwnMapV w b n kvs) (hn : n ≤ n') : OwnMapV w b n' kvs := by
  obtain ⟨D, h, hD⟩ := h
  exact ⟨D, h.mono hn, hD⟩
section
variable (w : World) {ops : Array Oper} {rest : List Oper} {o : Oper} {a : Act} {Q : Exit → Act → World → Prop}
/-- A store of a row at a text. -/
theorem wpList_putV (hg : o.guard = none) (m x v : Operand) (hop : o.op = Op.mapUpdate 107 m x v) (b n : Nat) (kvs : List (Txt × Value)) (hm : a.eval m = .map (some b)) (h : OwnMapV w b n kvs) (hn : n < maxLen) (t : ByteArray) (ht : t.size ≤ maxLen)
    (hx : a.eval x = .string t) (u : Value) (hv : a.eval v = u) (hK : ∀ w', OwnMapV w' b (n + 1) (addV kvs t.data.toList u) → w.grownBy w' (some b) → wpList Tryz.prog ops Q rest (a.put o.dst undef) w') : wpList Tryz.prog ops Q (o :: rest) a w := by
  obtain ⟨D, hown, hD⟩ := h
  exact wpList_mapUpdate_own w hg m x v _ hop _ 50 lawTxt Tryz.underlying107 valR b n D hm hown hn _ u (litS t.data.toList) hx hv (Go.WideMaps.keyOf_string_mk Tryz.underlying9 ht) _ [] rfl (fun w' h1 h2 => hK w' ⟨_, h1, hD.put (hown.tidy lawTxt) _ u⟩ h2)
/-- What stands at a text that is there. -/
theorem wpList_lookV (hg : o.guard = none) (m x : Operand) (hop : o.op = Op.lookup 107 m x false) (b n : Nat) (kvs : List (Txt × Value)) (hm : a.eval m = .map (some b)) (h : OwnMapV w b n kvs) (t : ByteArray) (ht : t.size ≤ maxLen)
    (u : Value) (hu : (t.data.toList, u) ∈ kvs) (hx : a.eval x = .string t) (hz : (zeroValue 50).run Tryz.prog w = .ok (.slice none 0 0) w) (hK : wpList Tryz.prog ops Q rest (a.put o.dst u) w) : wpList Tryz.prog ops Q (o :: rest) a w := by
  obtain ⟨D, hown, hD⟩ := h
  refine wpList_plain hg fun K' hK' => ?_
  obtain ⟨v, ps, hrun, hv⟩ := hown.lookup lawTxt Tryz.underlying107 hz (rfl : valR (.slice none 0 0) = some (.held (.slice none 0 0), [])) (Go.WideMaps.keyOf_string_mk Tryz.underlying9 ht)
  have hl := hD.val _ hu (.held (.slice none 0 0))
  unfold litS at hl
  rw [hl] at hv
  unfold valR at hv
  simp only [Option.some.injEq, Prod.mk.injEq, DataW.held.injEq] at hv
  obtain ⟨rfl, _⟩ := hv
  unfold Oper.wp
  simp [execOp, hop, hm, hx, hrun, Result.andThen]
  exact hK' _ _ hK
end
end Go.Proofs.YtiajdnhmjdfeeaaGreat
