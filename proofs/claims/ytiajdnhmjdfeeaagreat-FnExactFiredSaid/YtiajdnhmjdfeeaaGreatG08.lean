/- The contracts of the functions that tell whether a graph is right. -/
import Derived.Test.YtiajdnhmjdfeeaaGreatG07
import Derived.Deep.RegionHeld3
import Derived.Deep.RegionWith
import Derived.Test.YtiajdnhmjdfeeaaGreatG01
import Derived.Outline
namespace Go.Proofs.YtiajdnhmjdfeeaaGreat
open Go.RowKit Go.WideShapes
set_option maxRecDepth 100000 in
set_option maxHeartbeats 1600000 in
theorem implGraphOk (a : Option Addr) (len cap : Nat) (ts : List Tri3) (w : World) (h : IsTris w a len cap ts) (hsm : Sm ts) :
    Calls Tryz.prog 73 #[.slice a len cap] w fun e w' => e = .returned (.bool (graphOk ts)) ∧ Below w.heap.size w w' := by
  have hts := h.len
  have hlen : len ≤ 9223372036854775807 := by
    rcases h with ⟨_, rfl, _, _⟩ | ⟨_, _, h1, h2, _⟩
    · omega
    · unfold maxLen at h2; omega
  by_cases g80 : (80 : Int) < len
  · have HG : Hid (graphOk ts = false) := Lib.hid (by unfold graphOk; rw [decide_eq_false (by omega)]; rfl)
    clear h hsm hts
    go_enter Tryz.func73, Tryz.ntmps73
    go_wp2_with fail
    go_ret
    exact ⟨by rw [HG.out]; rfl, Below.refl _ _⟩
  have HG : Hid (graphOk ts = gUpto okT aheadT ts ts.length) := Lib.hid (by unfold graphOk; rw [decide_eq_true (by omega)]; rfl)
  have HT := Lib.hid hts
  have H := Lib.hid h
  have HM := Lib.hid hsm
  clear hts h hsm
  go_enter Tryz.func73, Tryz.ntmps73
  go_wp2_with fail
  go_loopw [10] (fun i wr => ∃ k : Nat, k ≤ len ∧ i = .int .i64 k ∧ Hid (gUpto okT aheadT ts k = true) ∧ Below w.heap.size w wr) (fun i _ => len - (intOf i).toNat)
  case atStart => exact ⟨0, Nat.zero_le _, rfl, Lib.hid rfl, Below.refl _ _⟩
  case round =>
    obtain ⟨k, hk, rfl, hok, hnx⟩ := hrel
    by_cases hlt : k < len
    · obtain ⟨b, off, rfl, hb, hl, hm, hts, hc⟩ := H.out.cells (by omega)
      have ht : ts[k]? = some ts[k] := List.getElem?_eq_getElem (by omega)
      have hmm := HM.out ts[k] (List.getElem_mem _)
      obtain ⟨c0, c1, c2, m0, m1, m2⟩ := hc k _ ht
      clear m0 m1 m2
      rw [← hnx.cell (p := ⟨b, _, none⟩) hb] at c0 c1 c2
      obtain ⟨t, htt⟩ : ∃ t, ts[k] = t := ⟨_, rfl⟩
      rw [htt] at c0 c1 c2 ht hmm
      clear htt
      obtain ⟨s1, s2, s3⟩ := hmm
      have A1 := implTripleOk t.1 t.2.1 t.2.2 s1 s2 s3
      change ∀ w, Calls _ _ _ w fun e w' => e = .returned (.bool (okT t)) ∧ Below w.heap.size w w' at A1
      have l0 : b < wr.heap.size := Nat.lt_of_lt_of_le hb hnx.size
      cases hq : okT t
      · have HR : Hid (graphOk ts = false) := Lib.hid (by rw [HG.out]; exact gUpto_no (gAt_not ht hq) (by omega))
        rw [hq] at A1
        have C1 := Lib.hid A1
        clear A1 hq ht hts hc hm
        go_wp2_with fail
        have T0 := Box.new wr (.string t.1) (.string t.2.1) (.string t.2.2) 65
        obtain ⟨e0, e1, e2⟩ := T0.drew.cells
        refine wp_region_any (by kernel_rfl) ?_
        change wpAny _ _ _ _ _ _ _ (World.drew _)
        refine wpAny_ready (rs := [0]) (by kernel_rfl) (by simp) ?_
        refine AllReady.cons rfl (fun K hK => ?_) AllReady.nil
        go_simp
        refine hK _ _ ?_
        clear hK K
        refine wpAny_ready (rs := [1]) (by kernel_rfl) (by simp) ?_
        refine AllReady.cons rfl (fun K hK => ?_) AllReady.nil
        go_simp
        refine (C1.out _).mono ?_
        rintro e wn ⟨rfl, hx⟩
        go_wp2_with fail
        refine wpAny_take (i := 2) (v := ?_) rfl (by kernel_rfl) (by kernel_rfl) (by kernel_rfl) (fun _ _ _ h => h) (Or.inl ⟨by kernel_rfl, ?_⟩) ?_
        rotate_left
        · intro w; go_simp; try with_reducible rfl
        refine wpAny_take (i := 3) (v := ?_) rfl (by kernel_rfl) (by kernel_rfl) (by kernel_rfl) (fun _ _ _ h => h) (Or.inl ⟨by kernel_rfl, ?_⟩) ?_
        rotate_left
        · intro w; go_simp; try with_reducible rfl
        refine wpAny_take (i := 4) (v := undef) rfl (by kernel_rfl) (by kernel_rfl) (by kernel_rfl) (fun _ _ _ h => h) (Or.inr ⟨by kernel_rfl, rfl⟩) ?_
        refine wpAny_take (i := 5) (v := undef) rfl (by kernel_rfl) (by kernel_rfl) (by kernel_rfl) (fun _ _ _ h => h) (Or.inr ⟨by kernel_rfl, rfl⟩) ?_
        refine wpAny_take (i := 6) (v := undef) rfl (by kernel_rfl) (by kernel_rfl) (by kernel_rfl) (fun _ _ _ h => h) (Or.inr ⟨by kernel_rfl, rfl⟩) ?_
        refine wpAny_take (i := 7) (v := undef) rfl (by kernel_rfl) (by kernel_rfl) (by kernel_rfl) (fun _ _ _ h => h) (Or.inr ⟨by kernel_rfl, rfl⟩) ?_
        refine wpAny_take (i := 8) (v := undef) rfl (by kernel_rfl) (by kernel_rfl) (by kernel_rfl) (fun _ _ _ h => h) (Or.inr ⟨by kernel_rfl, rfl⟩) ?_
        refine wpAny_take (i := 9) (v := undef) rfl (by kernel_rfl) (by kernel_rfl) (by kernel_rfl) (fun _ _ _ h => h) (Or.inr ⟨by kernel_rfl, rfl⟩) ?_
        refine wpAny_take (i := 10) (v := undef) rfl (by kernel_rfl) (by kernel_rfl) (by kernel_rfl) (fun _ _ _ h => h) (Or.inr ⟨by kernel_rfl, rfl⟩) ?_
        refine wpAny_take (i := 11) (v := undef) rfl (by kernel_rfl) (by kernel_rfl) (by kernel_rfl) (fun _ _ _ h => h) (Or.inr ⟨by kernel_rfl, rfl⟩) ?_
        refine wpAny_take (i := 12) (v := undef) rfl (by kernel_rfl) (by kernel_rfl) (by kernel_rfl) (fun _ _ _ h => h) (Or.inr ⟨by kernel_rfl, rfl⟩) ?_
        refine wpAny_take (i := 13) (v := undef) rfl (by kernel_rfl) (by kernel_rfl) (by kernel_rfl) (fun _ _ _ h => h) (Or.inr ⟨by kernel_rfl, rfl⟩) ?_
        refine wpAny_take (i := 14) (v := undef) rfl (by kernel_rfl) (by kernel_rfl) (by kernel_rfl) (fun _ _ _ h => h) (Or.inr ⟨by kernel_rfl, rfl⟩) ?_
        refine wpAny_take (i := 15) (v := undef) rfl (by kernel_rfl) (by kernel_rfl) (by kernel_rfl) (fun _ _ _ h => h) (Or.inr ⟨by kernel_rfl, rfl⟩) ?_
        refine wpAny_take (i := 16) (v := ?_) rfl (by kernel_rfl) (by kernel_rfl) (by kernel_rfl) (fun _ _ _ h => h) (Or.inl ⟨by kernel_rfl, ?_⟩) ?_
        rotate_left
        · intro w; go_simp; try with_reducible rfl
        refine wpAny_done (by kernel_rfl) ?_ _
        simp only [Act.put, List.setIfInBounds_toArray, List.set_cons_zero, List.set_cons_succ, List.getElem_toArray, List.getElem_cons_zero, List.getElem_cons_succ]
        have B : Below w.heap.size w wn := ((hnx.alloc hnx.size _).drew).trans (hx.mono (by have := hnx.size; simp; omega))
        clear hx hnx c0 c1 c2 T0 e0 e1 e2
        go_wp2_with fail
        go_ret
        exact ⟨by rw [HR.out]; rfl, B⟩
      · rw [hq] at A1
        have C1 := Lib.hid A1
        clear A1
        have T0 := Box.new wr (.string t.1) (.string t.2.1) (.string t.2.2) 65
        rcases Nat.eq_zero_or_pos k with rfl | h0
        · have HN : Hid (gUpto okT aheadT ts (0 + 1) = true) := Lib.hid (by rw [gUpto_succ, hok.out, gAt_zero ht, hq]; rfl)
          clear hq ht hts hc hm
          simp only [Nat.zero_mul, Nat.add_zero] at c0 c1 c2
          go_wp2_with fail
          obtain ⟨e0, e1, e2⟩ := T0.drew.cells
          refine wp_region_any (by kernel_rfl) ?_
          change wpAny _ _ _ _ _ _ _ (World.drew _)
          refine wpAny_ready (rs := [0]) (by kernel_rfl) (by simp) ?_
          refine AllReady.cons rfl (fun K hK => ?_) AllReady.nil
          go_simp
          refine hK _ _ ?_
          clear hK K
          refine wpAny_ready (rs := [1]) (by kernel_rfl) (by simp) ?_
          refine AllReady.cons rfl (fun K hK => ?_) AllReady.nil
          go_simp
          refine (C1.out _).mono ?_
          rintro e wn ⟨rfl, hx⟩
          go_wp2_with fail
          refine wpAny_take (i := 2) (v := ?_) rfl (by kernel_rfl) (by kernel_rfl) (by kernel_rfl) (fun _ _ _ h => h) (Or.inl ⟨by kernel_rfl, ?_⟩) ?_
          rotate_left
          · intro w; go_simp; try with_reducible rfl
          refine wpAny_take (i := 3) (v := ?_) rfl (by kernel_rfl) (by kernel_rfl) (by kernel_rfl) (fun _ _ _ h => h) (Or.inl ⟨by kernel_rfl, ?_⟩) ?_
          rotate_left
          · intro w; go_simp; try with_reducible rfl
          refine wpAny_take (i := 4) (v := ?_) rfl (by kernel_rfl) (by kernel_rfl) (by kernel_rfl) (fun _ _ _ h => h) (Or.inl ⟨by kernel_rfl, ?_⟩) ?_
          rotate_left
          · intro w; go_simp; try with_reducible rfl
          refine wpAny_take (i := 5) (v := ?_) rfl (by kernel_rfl) (by kernel_rfl) (by kernel_rfl) (fun _ _ _ h => h) (Or.inl ⟨by kernel_rfl, ?_⟩) ?_
          rotate_left
          · intro w; go_simp; try with_reducible rfl
          refine wpAny_take (i := 6) (v := ?_) rfl (by kernel_rfl) (by kernel_rfl) (by kernel_rfl) (fun _ _ _ h => h) (Or.inl ⟨by kernel_rfl, ?_⟩) ?_
          rotate_left
          · intro w; go_simp; try with_reducible rfl
          refine wpAny_take (i := 7) (v := undef) rfl (by kernel_rfl) (by kernel_rfl) (by kernel_rfl) (fun _ _ _ h => h) (Or.inr ⟨by kernel_rfl, rfl⟩) ?_
          refine wpAny_take (i := 8) (v := undef) rfl (by kernel_rfl) (by kernel_rfl) (by kernel_rfl) (fun _ _ _ h => h) (Or.inr ⟨by kernel_rfl, rfl⟩) ?_
          refine wpAny_take (i := 9) (v := undef) rfl (by kernel_rfl) (by kernel_rfl) (by kernel_rfl) (fun _ _ _ h => h) (Or.inr ⟨by kernel_rfl, rfl⟩) ?_
          refine wpAny_take (i := 10) (v := undef) rfl (by kernel_rfl) (by kernel_rfl) (by kernel_rfl) (fun _ _ _ h => h) (Or.inr ⟨by kernel_rfl, rfl⟩) ?_
          refine wpAny_take (i := 11) (v := undef) rfl (by kernel_rfl) (by kernel_rfl) (by kernel_rfl) (fun _ _ _ h => h) (Or.inr ⟨by kernel_rfl, rfl⟩) ?_
          refine wpAny_take (i := 12) (v := undef) rfl (by kernel_rfl) (by kernel_rfl) (by kernel_rfl) (fun _ _ _ h => h) (Or.inr ⟨by kernel_rfl, rfl⟩) ?_
          refine wpAny_take (i := 13) (v := undef) rfl (by kernel_rfl) (by kernel_rfl) (by kernel_rfl) (fun _ _ _ h => h) (Or.inr ⟨by kernel_rfl, rfl⟩) ?_
          refine wpAny_take (i := 14) (v := undef) rfl (by kernel_rfl) (by kernel_rfl) (by kernel_rfl) (fun _ _ _ h => h) (Or.inr ⟨by kernel_rfl, rfl⟩) ?_
          refine wpAny_take (i := 15) (v := ?_) rfl (by kernel_rfl) (by kernel_rfl) (by kernel_rfl) (fun _ _ _ h => h) (Or.inl ⟨by kernel_rfl, ?_⟩) ?_
          rotate_left
          · intro w; go_simp; try with_reducible rfl
          refine wpAny_take (i := 16) (v := ?_) rfl (by kernel_rfl) (by kernel_rfl) (by kernel_rfl) (fun _ _ _ h => h) (Or.inl ⟨by kernel_rfl, ?_⟩) ?_
          rotate_left
          · intro w; go_simp; try with_reducible rfl
          refine wpAny_done (by kernel_rfl) ?_ _
          simp only [Act.put, List.setIfInBounds_toArray, List.set_cons_zero, List.set_cons_succ, List.getElem_toArray, List.getElem_cons_zero, List.getElem_cons_succ]
          have B : Below w.heap.size w wn := ((hnx.alloc hnx.size _).drew).trans (hx.mono (by have := hnx.size; simp; omega))
          clear hx hnx c0 c1 c2 T0 e0 e1 e2
          go_wp2_with fail
          go_roundw
          case rel => exact ⟨0 + 1, by omega, by go_num, HN, B⟩
          case measure => simp [intOf]; omega
        · obtain ⟨j, rfl⟩ : ∃ j, k = j + 1 := ⟨k - 1, by omega⟩
          have hu : ts[j]? = some ts[j] := List.getElem?_eq_getElem (by omega)
          obtain ⟨p0, p1, p2, m0, m1, m2⟩ := hc j _ hu
          clear m0 m1 m2
          rw [← hnx.cell (p := ⟨b, _, none⟩) hb] at p0 p1 p2
          obtain ⟨u, huu⟩ : ∃ u, ts[j] = u := ⟨_, rfl⟩
          rw [huu] at p0 p1 p2 hu
          clear huu
          have HA := gAt_next (ok := okT) (ah := aheadT) h0 ht hu
          have A2 := implAhead u.1 u.2.1 u.2.2 t.1 t.2.1 t.2.2
          change ∀ w, Calls _ _ _ w fun e w' => e = .returned (.bool (aheadT u t)) ∧ Below w.heap.size w w' at A2
          rw [hq] at HA
          cases ha : aheadT u t
          · have HR : Hid (graphOk ts = false) := Lib.hid (by rw [HG.out]; exact gUpto_no (k := j + 1) (by rw [HA, ha]; rfl) (by omega))
            rw [ha] at A2
            have C2 := Lib.hid A2
            clear A2 ha HA hq ht hu hts hc hm
            go_wp2_with fail
            obtain ⟨e0, e1, e2⟩ := T0.cells
            have hj1 : ((j + 1 : Nat) : Int) - 1 = (j : Int) := by omega
            have hj2 : IntKind.i64.wrap (((j + 1 : Nat) : Int) - 1) = (j : Int) := by rw [hj1]; exact IntWalk.i64_in _ (by omega)
            have hjl : j < len := by omega
            have hj6 : (0 : Int) ≤ (j : Int) := by omega
            have hj7 : (j : Int) < (len : Int) := by omega
            have hj8 : IntKind.i64.wrap (j : Int) = (j : Int) := IntWalk.i64_in _ (by omega)
            have hj4 : (j : Int) + 1 - 1 = (j : Int) := by omega
            have hj5 : IntKind.i64.wrap ((j : Int) + 1 - 1) = (j : Int) := by rw [hj4]; exact IntWalk.i64_in _ (by omega)
            have hj3 : decide ((0 : Int) < ((j + 1 : Nat) : Int)) = true := by rw [decide_eq_true_eq]; omega
            go_region_held3 (fun w' => w'.cell? ⟨wr.heap.size, 0, none⟩ = some (.string t.1) ∧ w'.cell? ⟨wr.heap.size, 1, none⟩ = some (.string t.2.1) ∧ w'.cell? ⟨wr.heap.size, 2, none⟩ = some (.string t.2.2) ∧ w'.cell? ⟨b, off + j * 3, none⟩ = some (.string u.1) ∧ w'.cell? ⟨b, off + j * 3 + 1, none⟩ = some (.string u.2.1) ∧ w'.cell? ⟨b, off + j * 3 + 2, none⟩ = some (.string u.2.2))
              (first | go_keep | (go_split_ands; refine ⟨?_, ?_, ?_, ?_, ?_, ?_⟩ <;> (rw [ha4.cell (by first | (simp; done) | exact World.block_lt_of_cell? _ _ (by assumption))]; assumption)) | (go_split_ands; refine ⟨?_, ?_, ?_, ?_, ?_, ?_⟩ <;> (rw [hb4.cell (by first | (simp; done) | exact World.block_lt_of_cell? _ _ (by assumption))]; assumption)))
              (first
                | (go_at_call 43; refine (C1.out _).mono ?_; rintro e wa ⟨rfl, ha4⟩)
                | (go_at_call 116; refine (C2.out _).mono ?_; rintro e wb ⟨rfl, hb4⟩))
            have B1 : Below w.heap.size w wa := ((hnx.alloc hnx.size _).drew).trans (ha4.mono (by have := hnx.size; simp; omega))
            have B : Below w.heap.size w wb := B1.trans (hb4.mono B1.size)
            clear ha4 hb4 B1 hnx c0 c1 c2 p0 p1 p2 e0 e1 e2 T0
            go_wp2_with fail
            go_ret
            exact ⟨by rw [HR.out]; rfl, B⟩
          · have HN : Hid (gUpto okT aheadT ts (j + 1 + 1) = true) := Lib.hid (by rw [gUpto_succ, hok.out, HA, ha]; rfl)
            rw [ha] at A2
            have C2 := Lib.hid A2
            clear A2 ha HA hq ht hu hts hc hm
            go_wp2_with fail
            obtain ⟨e0, e1, e2⟩ := T0.cells
            have hj1 : ((j + 1 : Nat) : Int) - 1 = (j : Int) := by omega
            have hj2 : IntKind.i64.wrap (((j + 1 : Nat) : Int) - 1) = (j : Int) := by rw [hj1]; exact IntWalk.i64_in _ (by omega)
            have hjl : j < len := by omega
            have hj6 : (0 : Int) ≤ (j : Int) := by omega
            have hj7 : (j : Int) < (len : Int) := by omega
            have hj8 : IntKind.i64.wrap (j : Int) = (j : Int) := IntWalk.i64_in _ (by omega)
            have hj4 : (j : Int) + 1 - 1 = (j : Int) := by omega
            have hj5 : IntKind.i64.wrap ((j : Int) + 1 - 1) = (j : Int) := by rw [hj4]; exact IntWalk.i64_in _ (by omega)
            have hj3 : decide ((0 : Int) < ((j + 1 : Nat) : Int)) = true := by rw [decide_eq_true_eq]; omega
            go_region_held3 (fun w' => w'.cell? ⟨wr.heap.size, 0, none⟩ = some (.string t.1) ∧ w'.cell? ⟨wr.heap.size, 1, none⟩ = some (.string t.2.1) ∧ w'.cell? ⟨wr.heap.size, 2, none⟩ = some (.string t.2.2) ∧ w'.cell? ⟨b, off + j * 3, none⟩ = some (.string u.1) ∧ w'.cell? ⟨b, off + j * 3 + 1, none⟩ = some (.string u.2.1) ∧ w'.cell? ⟨b, off + j * 3 + 2, none⟩ = some (.string u.2.2))
              (first | go_keep | (go_split_ands; refine ⟨?_, ?_, ?_, ?_, ?_, ?_⟩ <;> (rw [ha4.cell (by first | (simp; done) | exact World.block_lt_of_cell? _ _ (by assumption))]; assumption)) | (go_split_ands; refine ⟨?_, ?_, ?_, ?_, ?_, ?_⟩ <;> (rw [hb4.cell (by first | (simp; done) | exact World.block_lt_of_cell? _ _ (by assumption))]; assumption)))
              (first
                | (go_at_call 43; refine (C1.out _).mono ?_; rintro e wa ⟨rfl, ha4⟩)
                | (go_at_call 116; refine (C2.out _).mono ?_; rintro e wb ⟨rfl, hb4⟩))
            have B1 : Below w.heap.size w wa := ((hnx.alloc hnx.size _).drew).trans (ha4.mono (by have := hnx.size; simp; omega))
            have B : Below w.heap.size w wb := B1.trans (hb4.mono B1.size)
            clear ha4 hb4 B1 hnx c0 c1 c2 p0 p1 p2 e0 e1 e2 T0
            go_wp2_with fail
            go_roundw
            case rel => exact ⟨j + 1 + 1, by omega, by go_num, HN, B⟩
            case measure => simp [intOf]; omega
    · have HF : Hid (graphOk ts = true) := Lib.hid (by have := hok.out; rw [HG.out, HT.out, show len = k from by omega]; exact this)
      go_wp2_with fail
      go_ret
      exact ⟨by rw [HF.out]; rfl, hnx⟩
open Go.RowKit Go.WideShapes
set_option maxRecDepth 100000 in
set_option maxHeartbeats 1600000 in
theorem specGraphOk (a : Option Addr) (len cap : Nat) (ts : List Tri3) (w : World) (h : IsTris w a len cap ts) (hsm : Sm ts) :
    Calls Tryz.prog 46 #[.slice a len cap] w fun e w' => e = .returned (.bool (graphOk ts)) ∧ Below w.heap.size w w' := by
  have hts := h.len
  have hlen : len ≤ 9223372036854775807 := by
    rcases h with ⟨_, rfl, _, _⟩ | ⟨_, _, h1, h2, _⟩
    · omega
    · unfold maxLen at h2; omega
  have HT := Lib.hid hts
  have H := Lib.hid h
  have HM := Lib.hid hsm
  clear hts h hsm
  go_enter Tryz.func46, Tryz.ntmps46
  go_wp2_with fail
  go_loopw [3] (fun i wr => ∃ k : Nat, k ≤ len ∧ i = .int .i64 k ∧ Hid (gUpto okT aheadT ts k = true) ∧ Below w.heap.size w wr) (fun i _ => len - (intOf i).toNat)
  case atStart => exact ⟨0, Nat.zero_le _, rfl, Lib.hid rfl, Below.refl _ _⟩
  case round =>
    obtain ⟨k, hk, rfl, hok, hnx⟩ := hrel
    by_cases hlt : k < len
    · obtain ⟨b, off, rfl, hb, hl, hm, hts, hc⟩ := H.out.cells (by omega)
      have ht : ts[k]? = some ts[k] := List.getElem?_eq_getElem (by omega)
      have hmm := HM.out ts[k] (List.getElem_mem _)
      obtain ⟨c0, c1, c2, m0, m1, m2⟩ := hc k _ ht
      clear m0 m1 m2
      rw [← hnx.cell (p := ⟨b, _, none⟩) hb] at c0 c1 c2
      obtain ⟨t, htt⟩ : ∃ t, ts[k] = t := ⟨_, rfl⟩
      rw [htt] at c0 c1 c2 ht hmm
      clear htt
      obtain ⟨s1, s2, s3⟩ := hmm
      have A1 := specTripleOk t.1 t.2.1 t.2.2 s1 s2 s3
      change ∀ w, Calls _ _ _ w fun e w' => e = .returned (.bool (okT t)) ∧ Below w.heap.size w w' at A1
      have l0 : b < wr.heap.size := Nat.lt_of_lt_of_le hb hnx.size
      have hk6 : (0 : Int) ≤ (k : Int) := by omega
      have hk7 : (k : Int) < (len : Int) := by omega
      cases hq : okT t
      · have HR : Hid (gUpto okT aheadT ts ts.length = false) := Lib.hid (gUpto_no (gAt_not ht hq) (by omega))
        rw [hq] at A1
        have C1 := Lib.hid A1
        clear A1 hq ht hts hc hm
        go_wp2_with fail
        rw [← World.cell?_drew] at c0 c1 c2
        refine wp_region_any (by kernel_rfl) ?_
        change wpAny _ _ _ _ _ _ _ (World.drew _)
        refine wpAny_take (i := 0) (v := ?_) rfl (by kernel_rfl) (by kernel_rfl) (by kernel_rfl) (fun _ _ _ h => h) (Or.inl ⟨by kernel_rfl, ?_⟩) ?_
        rotate_left
        · intro w; go_simp; try with_reducible rfl
        refine wpAny_take (i := 1) (v := ?_) rfl (by kernel_rfl) (by kernel_rfl) (by kernel_rfl) (fun _ _ _ h => h) (Or.inl ⟨by kernel_rfl, ?_⟩) ?_
        rotate_left
        · intro w; go_simp; try with_reducible rfl
        refine wpAny_take (i := 2) (v := ?_) rfl (by kernel_rfl) (by kernel_rfl) (by kernel_rfl) (fun _ _ _ h => h) (Or.inl ⟨by kernel_rfl, ?_⟩) ?_
        rotate_left
        · intro w; go_simp; try with_reducible rfl
        refine wpAny_ready (rs := [3]) (by kernel_rfl) (by simp) ?_
        refine AllReady.cons rfl (fun K hK => ?_) AllReady.nil
        go_simp
        refine hK _ _ ?_
        clear hK K
        refine wpAny_ready (rs := [4]) (by kernel_rfl) (by simp) ?_
        refine AllReady.cons rfl (fun K hK => ?_) AllReady.nil
        go_simp
        refine (C1.out _).mono ?_
        rintro e wn ⟨rfl, hx⟩
        go_wp2_with fail
        refine wpAny_take (i := 5) (v := ?_) rfl (by kernel_rfl) (by kernel_rfl) (by kernel_rfl) (fun _ _ _ h => h) (Or.inl ⟨by kernel_rfl, ?_⟩) ?_
        rotate_left
        · intro w; go_simp; try with_reducible rfl
        refine wpAny_take (i := 6) (v := ?_) rfl (by kernel_rfl) (by kernel_rfl) (by kernel_rfl) (fun _ _ _ h => h) (Or.inl ⟨by kernel_rfl, ?_⟩) ?_
        rotate_left
        · intro w; go_simp; try with_reducible rfl
        refine wpAny_take (i := 7) (v := undef) rfl (by kernel_rfl) (by kernel_rfl) (by kernel_rfl) (fun _ _ _ h => h) (Or.inr ⟨by kernel_rfl, rfl⟩) ?_
        refine wpAny_take (i := 8) (v := undef) rfl (by kernel_rfl) (by kernel_rfl) (by kernel_rfl) (fun _ _ _ h => h) (Or.inr ⟨by kernel_rfl, rfl⟩) ?_
        refine wpAny_take (i := 9) (v := undef) rfl (by kernel_rfl) (by kernel_rfl) (by kernel_rfl) (fun _ _ _ h => h) (Or.inr ⟨by kernel_rfl, rfl⟩) ?_
        refine wpAny_take (i := 10) (v := undef) rfl (by kernel_rfl) (by kernel_rfl) (by kernel_rfl) (fun _ _ _ h => h) (Or.inr ⟨by kernel_rfl, rfl⟩) ?_
        refine wpAny_take (i := 11) (v := undef) rfl (by kernel_rfl) (by kernel_rfl) (by kernel_rfl) (fun _ _ _ h => h) (Or.inr ⟨by kernel_rfl, rfl⟩) ?_
        refine wpAny_take (i := 12) (v := undef) rfl (by kernel_rfl) (by kernel_rfl) (by kernel_rfl) (fun _ _ _ h => h) (Or.inr ⟨by kernel_rfl, rfl⟩) ?_
        refine wpAny_take (i := 13) (v := undef) rfl (by kernel_rfl) (by kernel_rfl) (by kernel_rfl) (fun _ _ _ h => h) (Or.inr ⟨by kernel_rfl, rfl⟩) ?_
        refine wpAny_take (i := 14) (v := undef) rfl (by kernel_rfl) (by kernel_rfl) (by kernel_rfl) (fun _ _ _ h => h) (Or.inr ⟨by kernel_rfl, rfl⟩) ?_
        refine wpAny_take (i := 15) (v := undef) rfl (by kernel_rfl) (by kernel_rfl) (by kernel_rfl) (fun _ _ _ h => h) (Or.inr ⟨by kernel_rfl, rfl⟩) ?_
        refine wpAny_take (i := 16) (v := undef) rfl (by kernel_rfl) (by kernel_rfl) (by kernel_rfl) (fun _ _ _ h => h) (Or.inr ⟨by kernel_rfl, rfl⟩) ?_
        refine wpAny_take (i := 17) (v := undef) rfl (by kernel_rfl) (by kernel_rfl) (by kernel_rfl) (fun _ _ _ h => h) (Or.inr ⟨by kernel_rfl, rfl⟩) ?_
        refine wpAny_take (i := 18) (v := undef) rfl (by kernel_rfl) (by kernel_rfl) (by kernel_rfl) (fun _ _ _ h => h) (Or.inr ⟨by kernel_rfl, rfl⟩) ?_
        refine wpAny_take (i := 19) (v := undef) rfl (by kernel_rfl) (by kernel_rfl) (by kernel_rfl) (fun _ _ _ h => h) (Or.inr ⟨by kernel_rfl, rfl⟩) ?_
        refine wpAny_take (i := 20) (v := undef) rfl (by kernel_rfl) (by kernel_rfl) (by kernel_rfl) (fun _ _ _ h => h) (Or.inr ⟨by kernel_rfl, rfl⟩) ?_
        refine wpAny_take (i := 21) (v := undef) rfl (by kernel_rfl) (by kernel_rfl) (by kernel_rfl) (fun _ _ _ h => h) (Or.inr ⟨by kernel_rfl, rfl⟩) ?_
        refine wpAny_take (i := 22) (v := ?_) rfl (by kernel_rfl) (by kernel_rfl) (by kernel_rfl) (fun _ _ _ h => h) (Or.inl ⟨by kernel_rfl, ?_⟩) ?_
        rotate_left
        · intro w; go_simp; try with_reducible rfl
        refine wpAny_done (by kernel_rfl) ?_ _
        simp only [Act.put, List.setIfInBounds_toArray, List.set_cons_zero, List.set_cons_succ, List.getElem_toArray, List.getElem_cons_zero, List.getElem_cons_succ]
        have B : Below w.heap.size w wn := (hnx.drew).trans (hx.mono hnx.size)
        clear hx hnx c0 c1 c2
        go_wp2_with fail
        go_ret
        exact ⟨by unfold graphOk; rw [HR.out, Bool.and_false]; rfl, B⟩
      · rw [hq] at A1
        have C1 := Lib.hid A1
        clear A1
        rcases Nat.eq_zero_or_pos k with rfl | h0
        · have HN : Hid (gUpto okT aheadT ts (0 + 1) = true) := Lib.hid (by rw [gUpto_succ, hok.out, gAt_zero ht, hq]; rfl)
          clear hq ht hts hc hm
          simp only [Nat.zero_mul, Nat.add_zero] at c0 c1 c2
          have hz : (0 : Int) < (len : Int) := by omega
          go_wp2_with fail
          rw [← World.cell?_drew] at c0 c1 c2
          refine wp_region_any (by kernel_rfl) ?_
          change wpAny _ _ _ _ _ _ _ (World.drew _)
          refine wpAny_take (i := 0) (v := ?_) rfl (by kernel_rfl) (by kernel_rfl) (by kernel_rfl) (fun _ _ _ h => h) (Or.inl ⟨by kernel_rfl, ?_⟩) ?_
          rotate_left
          · intro w; go_simp; try with_reducible rfl
          refine wpAny_take (i := 1) (v := ?_) rfl (by kernel_rfl) (by kernel_rfl) (by kernel_rfl) (fun _ _ _ h => h) (Or.inl ⟨by kernel_rfl, ?_⟩) ?_
          rotate_left
          · intro w; go_simp; try with_reducible rfl
          refine wpAny_take (i := 2) (v := ?_) rfl (by kernel_rfl) (by kernel_rfl) (by kernel_rfl) (fun _ _ _ h => h) (Or.inl ⟨by kernel_rfl, ?_⟩) ?_
          rotate_left
          · intro w; go_simp; try with_reducible rfl
          refine wpAny_ready (rs := [3]) (by kernel_rfl) (by simp) ?_
          refine AllReady.cons rfl (fun K hK => ?_) AllReady.nil
          go_simp
          refine hK _ _ ?_
          clear hK K
          refine wpAny_ready (rs := [4]) (by kernel_rfl) (by simp) ?_
          refine AllReady.cons rfl (fun K hK => ?_) AllReady.nil
          go_simp
          refine (C1.out _).mono ?_
          rintro e wn ⟨rfl, hx⟩
          go_wp2_with fail
          refine wpAny_take (i := 5) (v := ?_) rfl (by kernel_rfl) (by kernel_rfl) (by kernel_rfl) (fun _ _ _ h => h) (Or.inl ⟨by kernel_rfl, ?_⟩) ?_
          rotate_left
          · intro w; go_simp; try with_reducible rfl
          refine wpAny_take (i := 6) (v := ?_) rfl (by kernel_rfl) (by kernel_rfl) (by kernel_rfl) (fun _ _ _ h => h) (Or.inl ⟨by kernel_rfl, ?_⟩) ?_
          rotate_left
          · intro w; go_simp; try with_reducible rfl
          refine wpAny_take (i := 7) (v := ?_) rfl (by kernel_rfl) (by kernel_rfl) (by kernel_rfl) (fun _ _ _ h => h) (Or.inl ⟨by kernel_rfl, ?_⟩) ?_
          rotate_left
          · intro w; go_simp; try with_reducible rfl
          refine wpAny_take (i := 8) (v := ?_) rfl (by kernel_rfl) (by kernel_rfl) (by kernel_rfl) (fun _ _ _ h => h) (Or.inl ⟨by kernel_rfl, ?_⟩) ?_
          rotate_left
          · intro w; go_simp; try with_reducible rfl
          refine wpAny_take (i := 9) (v := ?_) rfl (by kernel_rfl) (by kernel_rfl) (by kernel_rfl) (fun _ _ _ h => h) (Or.inl ⟨by kernel_rfl, ?_⟩) ?_
          rotate_left
          · intro w; go_simp; try with_reducible rfl
          refine wpAny_take (i := 10) (v := undef) rfl (by kernel_rfl) (by kernel_rfl) (by kernel_rfl) (fun _ _ _ h => h) (Or.inr ⟨by kernel_rfl, rfl⟩) ?_
          refine wpAny_take (i := 11) (v := undef) rfl (by kernel_rfl) (by kernel_rfl) (by kernel_rfl) (fun _ _ _ h => h) (Or.inr ⟨by kernel_rfl, rfl⟩) ?_
          refine wpAny_take (i := 12) (v := undef) rfl (by kernel_rfl) (by kernel_rfl) (by kernel_rfl) (fun _ _ _ h => h) (Or.inr ⟨by kernel_rfl, rfl⟩) ?_
          refine wpAny_take (i := 13) (v := undef) rfl (by kernel_rfl) (by kernel_rfl) (by kernel_rfl) (fun _ _ _ h => h) (Or.inr ⟨by kernel_rfl, rfl⟩) ?_
          refine wpAny_take (i := 14) (v := undef) rfl (by kernel_rfl) (by kernel_rfl) (by kernel_rfl) (fun _ _ _ h => h) (Or.inr ⟨by kernel_rfl, rfl⟩) ?_
          refine wpAny_take (i := 15) (v := undef) rfl (by kernel_rfl) (by kernel_rfl) (by kernel_rfl) (fun _ _ _ h => h) (Or.inr ⟨by kernel_rfl, rfl⟩) ?_
          refine wpAny_take (i := 16) (v := undef) rfl (by kernel_rfl) (by kernel_rfl) (by kernel_rfl) (fun _ _ _ h => h) (Or.inr ⟨by kernel_rfl, rfl⟩) ?_
          refine wpAny_take (i := 17) (v := undef) rfl (by kernel_rfl) (by kernel_rfl) (by kernel_rfl) (fun _ _ _ h => h) (Or.inr ⟨by kernel_rfl, rfl⟩) ?_
          refine wpAny_take (i := 18) (v := undef) rfl (by kernel_rfl) (by kernel_rfl) (by kernel_rfl) (fun _ _ _ h => h) (Or.inr ⟨by kernel_rfl, rfl⟩) ?_
          refine wpAny_take (i := 19) (v := undef) rfl (by kernel_rfl) (by kernel_rfl) (by kernel_rfl) (fun _ _ _ h => h) (Or.inr ⟨by kernel_rfl, rfl⟩) ?_
          refine wpAny_take (i := 20) (v := undef) rfl (by kernel_rfl) (by kernel_rfl) (by kernel_rfl) (fun _ _ _ h => h) (Or.inr ⟨by kernel_rfl, rfl⟩) ?_
          refine wpAny_take (i := 21) (v := ?_) rfl (by kernel_rfl) (by kernel_rfl) (by kernel_rfl) (fun _ _ _ h => h) (Or.inl ⟨by kernel_rfl, ?_⟩) ?_
          rotate_left
          · intro w; go_simp; try with_reducible rfl
          refine wpAny_take (i := 22) (v := ?_) rfl (by kernel_rfl) (by kernel_rfl) (by kernel_rfl) (fun _ _ _ h => h) (Or.inl ⟨by kernel_rfl, ?_⟩) ?_
          rotate_left
          · intro w; go_simp; try with_reducible rfl
          refine wpAny_done (by kernel_rfl) ?_ _
          simp only [Act.put, List.setIfInBounds_toArray, List.set_cons_zero, List.set_cons_succ, List.getElem_toArray, List.getElem_cons_zero, List.getElem_cons_succ]
          have B : Below w.heap.size w wn := (hnx.drew).trans (hx.mono hnx.size)
          clear hx hnx c0 c1 c2
          go_wp2_with fail
          go_roundw
          case rel => exact ⟨0 + 1, by omega, by go_num, HN, B⟩
          case measure => simp [intOf]; omega
        · obtain ⟨j, rfl⟩ : ∃ j, k = j + 1 := ⟨k - 1, by omega⟩
          have hu : ts[j]? = some ts[j] := List.getElem?_eq_getElem (by omega)
          obtain ⟨p0, p1, p2, m0, m1, m2⟩ := hc j _ hu
          clear m0 m1 m2
          rw [← hnx.cell (p := ⟨b, _, none⟩) hb] at p0 p1 p2
          obtain ⟨u, huu⟩ : ∃ u, ts[j] = u := ⟨_, rfl⟩
          rw [huu] at p0 p1 p2 hu
          clear huu
          have HA := gAt_next (ok := okT) (ah := aheadT) h0 ht hu
          have A2 := specAhead u.1 u.2.1 u.2.2 t.1 t.2.1 t.2.2
          change ∀ w, Calls _ _ _ w fun e w' => e = .returned (.bool (aheadT u t)) ∧ Below w.heap.size w w' at A2
          rw [hq] at HA
          cases ha : aheadT u t
          · have HR : Hid (gUpto okT aheadT ts ts.length = false) := Lib.hid (gUpto_no (k := j + 1) (by rw [HA, ha]; rfl) (by omega))
            rw [ha] at A2
            have C2 := Lib.hid A2
            clear A2 ha HA hq ht hu hts hc hm
            go_wp2_with fail
            have hj1 : ((j + 1 : Nat) : Int) - 1 = (j : Int) := by omega
            have hj2 : IntKind.i64.wrap (((j + 1 : Nat) : Int) - 1) = (j : Int) := by rw [hj1]; exact IntWalk.i64_in _ (by omega)
            have hjl : j < len := by omega
            have hk8 : (0 : Int) ≤ (j : Int) + 1 := by omega
            have hk9 : (j : Int) + 1 < (len : Int) := by omega
            have hj6 : (0 : Int) ≤ (j : Int) := by omega
            have hj7 : (j : Int) < (len : Int) := by omega
            have hj8 : IntKind.i64.wrap (j : Int) = (j : Int) := IntWalk.i64_in _ (by omega)
            have hj4 : (j : Int) + 1 - 1 = (j : Int) := by omega
            have hj5 : IntKind.i64.wrap ((j : Int) + 1 - 1) = (j : Int) := by rw [hj4]; exact IntWalk.i64_in _ (by omega)
            have hj3 : decide ((0 : Int) < ((j + 1 : Nat) : Int)) = true := by rw [decide_eq_true_eq]; omega
            go_region_held3 (fun w' => w'.cell? ⟨b, off + (j + 1) * 3, none⟩ = some (.string t.1) ∧ w'.cell? ⟨b, off + (j + 1) * 3 + 1, none⟩ = some (.string t.2.1) ∧ w'.cell? ⟨b, off + (j + 1) * 3 + 2, none⟩ = some (.string t.2.2) ∧ w'.cell? ⟨b, off + j * 3, none⟩ = some (.string u.1) ∧ w'.cell? ⟨b, off + j * 3 + 1, none⟩ = some (.string u.2.1) ∧ w'.cell? ⟨b, off + j * 3 + 2, none⟩ = some (.string u.2.2))
              (first | go_keep | (go_split_ands; refine ⟨?_, ?_, ?_, ?_, ?_, ?_⟩ <;> (rw [ha4.cell (by first | (simp; done) | exact World.block_lt_of_cell? _ _ (by assumption))]; assumption)) | (go_split_ands; refine ⟨?_, ?_, ?_, ?_, ?_, ?_⟩ <;> (rw [hb4.cell (by first | (simp; done) | exact World.block_lt_of_cell? _ _ (by assumption))]; assumption)))
              (first
                | (go_at_call 96; refine (C1.out _).mono ?_; rintro e wa ⟨rfl, ha4⟩)
                | (go_at_call 97; refine (C2.out _).mono ?_; rintro e wb ⟨rfl, hb4⟩))
            have B1 : Below w.heap.size w wa := (hnx.drew).trans (ha4.mono hnx.size)
            have B : Below w.heap.size w wb := B1.trans (hb4.mono B1.size)
            clear ha4 hb4 B1 hnx c0 c1 c2 p0 p1 p2
            go_wp2_with fail
            go_ret
            exact ⟨by unfold graphOk; rw [HR.out, Bool.and_false]; rfl, B⟩
          · have HN : Hid (gUpto okT aheadT ts (j + 1 + 1) = true) := Lib.hid (by rw [gUpto_succ, hok.out, HA, ha]; rfl)
            rw [ha] at A2
            have C2 := Lib.hid A2
            clear A2 ha HA hq ht hu hts hc hm
            go_wp2_with fail
            have hj1 : ((j + 1 : Nat) : Int) - 1 = (j : Int) := by omega
            have hj2 : IntKind.i64.wrap (((j + 1 : Nat) : Int) - 1) = (j : Int) := by rw [hj1]; exact IntWalk.i64_in _ (by omega)
            have hjl : j < len := by omega
            have hk8 : (0 : Int) ≤ (j : Int) + 1 := by omega
            have hk9 : (j : Int) + 1 < (len : Int) := by omega
            have hj6 : (0 : Int) ≤ (j : Int) := by omega
            have hj7 : (j : Int) < (len : Int) := by omega
            have hj8 : IntKind.i64.wrap (j : Int) = (j : Int) := IntWalk.i64_in _ (by omega)
            have hj4 : (j : Int) + 1 - 1 = (j : Int) := by omega
            have hj5 : IntKind.i64.wrap ((j : Int) + 1 - 1) = (j : Int) := by rw [hj4]; exact IntWalk.i64_in _ (by omega)
            have hj3 : decide ((0 : Int) < ((j + 1 : Nat) : Int)) = true := by rw [decide_eq_true_eq]; omega
            go_region_held3 (fun w' => w'.cell? ⟨b, off + (j + 1) * 3, none⟩ = some (.string t.1) ∧ w'.cell? ⟨b, off + (j + 1) * 3 + 1, none⟩ = some (.string t.2.1) ∧ w'.cell? ⟨b, off + (j + 1) * 3 + 2, none⟩ = some (.string t.2.2) ∧ w'.cell? ⟨b, off + j * 3, none⟩ = some (.string u.1) ∧ w'.cell? ⟨b, off + j * 3 + 1, none⟩ = some (.string u.2.1) ∧ w'.cell? ⟨b, off + j * 3 + 2, none⟩ = some (.string u.2.2))
              (first | go_keep | (go_split_ands; refine ⟨?_, ?_, ?_, ?_, ?_, ?_⟩ <;> (rw [ha4.cell (by first | (simp; done) | exact World.block_lt_of_cell? _ _ (by assumption))]; assumption)) | (go_split_ands; refine ⟨?_, ?_, ?_, ?_, ?_, ?_⟩ <;> (rw [hb4.cell (by first | (simp; done) | exact World.block_lt_of_cell? _ _ (by assumption))]; assumption)))
              (first
                | (go_at_call 96; refine (C1.out _).mono ?_; rintro e wa ⟨rfl, ha4⟩)
                | (go_at_call 97; refine (C2.out _).mono ?_; rintro e wb ⟨rfl, hb4⟩))
            have B1 : Below w.heap.size w wa := (hnx.drew).trans (ha4.mono hnx.size)
            have B : Below w.heap.size w wb := B1.trans (hb4.mono B1.size)
            clear ha4 hb4 B1 hnx c0 c1 c2 p0 p1 p2
            go_wp2_with fail
            go_roundw
            case rel => exact ⟨j + 1 + 1, by omega, by go_num, HN, B⟩
            case measure => simp [intOf]; omega
    · have HF : Hid (graphOk ts = decide ((len : Int) ≤ 80)) := Lib.hid (by
        have := hok.out
        unfold graphOk
        rw [HT.out, show len = k from by omega, this, Bool.and_true]
        exact decide_eq_decide.2 (by omega))
      by_cases h80 : (len : Int) ≤ 80
      · go_wp2_with fail
        go_ret
        exact ⟨by rw [HF.out, decide_eq_true h80]; rfl, hnx⟩
      · go_wp2_with fail
        go_ret
        exact ⟨by rw [HF.out, decide_eq_false (by omega)]; rfl, hnx⟩
end Go.Proofs.YtiajdnhmjdfeeaaGreat
/- Slices of triples that the call owns: plain facts. -/
namespace Go.Proofs.YtiajdnhmjdfeeaaGreat
open Go.RowKit Go.WideShapes
theorem own3_snoc {B : Nat} {w : World} {v : Value} {ts : List Tri3} {t : Tri3} (h : w.ownsRow B 65 3 v (ts.length + 1) (flat ts ++ [.string t.1, .string t.2.1, .string t.2.2])) : OwnT B w v (ts ++ [t]) := by
  unfold OwnT; rw [flat_snoc, List.length_append]; exact h
theorem three_cell {w : World} {u v z : Value} {e : Nat} : ∀ (j : Nat) (x : Value), [u, v, z][j]? = some x → (w.alloc (.cells #[u, v, z] e)).cell? ((⟨w.heap.size, 0, none⟩ : Addr).add j) = some x := by
  intro j x hj
  match j, hj with
  | 0, hj => simp at hj; subst hj; simp [Addr.add]
  | 1, hj => simp at hj; subst hj; simp [Addr.add]
  | 2, hj => simp at hj; subst hj; simp [Addr.add]
theorem own_next {B : Nat} {w w' : World} {v : Value} {ts : List Tri3} (h : OwnT B w v ts) (hb : w.grownBy w' none) : OwnT B w' v ts := by
  refine World.ownsRow.kept h hb ?_
  cases v.ownBlock
  · exact .inl rfl
  · exact .inr (by simp)
theorem own_base {B B' : Nat} {w : World} {v : Value} {ts : List Tri3} (h : OwnT B w v ts) (hb : B' ≤ B) : OwnT B' w v ts := by
  refine ⟨h.1, h.2.imp id ?_⟩
  rintro ⟨g, c, cur, h1, h2, h3⟩
  exact ⟨g, c, cur, h1, by omega, h3⟩
end Go.Proofs.YtiajdnhmjdfeeaaGreat
/- What a call may have written, told by where it lies; facts that speak of some blocks alone. -/
namespace Go.Proofs.YtiajdnhmjdfeeaaGreat
open Go.RowKit
/-- Only what lies from D on and below E may have been written. -/
structure Turn (D E : Nat) (w w' : World) : Prop where
  os : w'.os = w.os
  tape : w'.tape = w.tape
  output : w'.output = w.output
  size : w.heap.size ≤ w'.heap.size
  block : ∀ k, k < w.heap.size → k < D ∨ E ≤ k → w'.heap[k]? = w.heap[k]?
theorem Turn.of_below {w w' : World} (h : Below w.heap.size w w') (D : Nat) : Turn D D w w' := ⟨h.os, h.tape, h.output, h.size, fun k hk _ => h.block k hk⟩
theorem Turn.of_grown {w w' : World} {row : Option Nat} (h : w.grownBy w' row) {D E : Nat} (hr : ∀ j, row = some j → D ≤ j ∧ j < E) : Turn D E w w' :=
  ⟨h.os, h.tape, h.output, h.size, fun k hk hd => h.block k hk (fun e => by have := hr k e.symm; omega)⟩
theorem Turn.below {D E B : Nat} {w w' : World} (h : Turn D E w w') (hB : B ≤ w.heap.size) (hD : B ≤ D) : Below B w w' := ⟨h.os, h.tape, h.output, h.size, fun k hk => h.block k (by omega) (.inl (by omega))⟩
/-- p speaks of nothing but the blocks from B on and below C. -/
def Lives (B C : Nat) (p : World → Prop) : Prop := ∀ w w' : World, (∀ k, B ≤ k → k < C → w'.heap[k]? = w.heap[k]?) → p w → p w'
/-- p holds, and speaks of nothing else. -/
structure Holds (B C : Nat) (w : World) (p : World → Prop) : Prop where
  lives : Lives B C p
  le : C ≤ w.heap.size
  now : p w
theorem Holds.step {B C D E : Nat} {w w' : World} {p : World → Prop} (h : Holds B C w p) (ht : Turn D E w w') (hd : C ≤ D ∨ E ≤ B) : Holds B C w' p :=
  ⟨h.lives, Nat.le_trans h.le ht.size, h.lives w w' (fun k h1 h2 => ht.block k (by have := h.le; omega) (by omega)) h.now⟩
theorem Holds.next {B C : Nat} {w w' : World} {p : World → Prop} (h : Holds B C w p) (hb : Below w.heap.size w w') : Holds B C w' p :=
  ⟨h.lives, Nat.le_trans h.le hb.size, h.lives w w' (fun k h1 h2 => hb.block k (by have := h.le; omega)) h.now⟩
theorem Holds.drew {B C : Nat} {w : World} {p : World → Prop} (h : Holds B C w p) : Holds B C w.drew p := ⟨h.lives, h.le, h.lives w w.drew (fun _ _ _ => rfl) h.now⟩
theorem Holds.undrew {B C : Nat} {w : World} {p : World → Prop} (h : Holds B C w.drew p) : Holds B C w p := ⟨h.lives, h.le, h.lives w.drew w (fun _ _ _ => rfl) h.now⟩
theorem Holds.alloc {B C : Nat} {w : World} {p : World → Prop} (h : Holds B C w p) (o : Obj) : Holds B C (w.alloc o) p := h.next ((Below.refl w.heap.size w).alloc (Nat.le_refl _) o)
theorem Holds.widen {B C B' C' : Nat} {w : World} {p : World → Prop} (h : Holds B C w p) (hB : B' ≤ B) (hC : C ≤ C') (hl : C' ≤ w.heap.size) : Holds B' C' w p :=
  ⟨fun w w' he => h.lives w w' (fun k h1 h2 => he k (by omega) (by omega)), hl, h.now⟩
/-- Block g holds just these cells. -/
def Cells (g : Nat) (cs : Array Value) (T : TypeId) (w : World) : Prop := w.heap[g]? = some (.cells cs T (0, 0))
theorem cells_lives (g : Nat) (cs : Array Value) (T : TypeId) : Lives g (g + 1) (Cells g cs T) := fun _ _ he h => (he g (Nat.le_refl _) (Nat.lt_succ_self _)).trans h
theorem cells_new (w : World) (cs : Array Value) (T : TypeId) : Holds w.heap.size (w.heap.size + 1) (w.alloc (.cells cs T)) (Cells w.heap.size cs T) := ⟨cells_lives _ _ _, by simp, heap_alloc_new w _⟩
theorem Cells.at {g : Nat} {cs : Array Value} {T : TypeId} {w : World} (h : Cells g cs T w) (i : Nat) : w.cell? ⟨g, i, none⟩ = cs[i]? := by
  unfold Cells at h; simp [World.cell?, h]
theorem Cells.free {g : Nat} {cs : Array Value} {T : TypeId} {w : World} (h : Cells g cs T w) (i : Nat) : w.frozen? ⟨g, i, none⟩ = false := by
  unfold Cells at h; simp [World.frozen?, h]
/-- What a row's owner says, with a ceiling, speaks of the row's block alone. -/
theorem row_lives {B C : Nat} {e : TypeId} {k n : Nat} {v : Value} {xs : List Value} : Lives B C (fun w => w.ownsRow B e k v n xs ∧ ∀ j, v.ownBlock = some j → j < C) := by
  rintro w w' he ⟨⟨h1, h2⟩, h3⟩
  refine ⟨⟨h1, ?_⟩, h3⟩
  rcases h2 with h2 | ⟨g, cap, cur, rfl, hB, hh, r⟩
  · exact .inl h2
  · exact .inr ⟨g, cap, cur, rfl, hB, (he g hB (h3 g rfl)).trans hh, r⟩
theorem row_holds {B e k n : Nat} {w w' : World} {v : Value} {xs : List Value} (h : w'.ownsRow w.heap.size e k v n xs) (_hb : Below B w w') : Holds w.heap.size w'.heap.size w' (fun W => W.ownsRow w.heap.size e k v n xs ∧ ∀ j, v.ownBlock = some j → j < w'.heap.size) :=
  ⟨row_lives, Nat.le_refl _, h, fun j hj => (World.ownsRow.lt h j hj).2⟩
theorem and_lives {B C : Nat} {p q : World → Prop} (hp : Lives B C p) (hq : Lives B C q) : Lives B C (fun w => p w ∧ q w) := fun w w2 he h => ⟨hp w w2 he h.1, hq w w2 he h.2⟩
/-- The call owns a slice of these triples, between B and C. -/
def OwnC (B C : Nat) (v : Value) (ts : List Tri3) (w : World) : Prop := OwnT B w v ts ∧ ∀ j, v.ownBlock = some j → j < C
theorem ownC_lives {B C : Nat} {v : Value} {ts : List Tri3} : Lives B C (OwnC B C v ts) := row_lives
theorem ownC_new {w w' : World} {v : Value} {ts : List Tri3} (h : OwnT w.heap.size w' v ts) (_hb : Below w.heap.size w w') : Holds w.heap.size w'.heap.size w' (OwnC w.heap.size w'.heap.size v ts) :=
  ⟨ownC_lives, Nat.le_refl _, h, fun j hj => (World.ownsRow.lt h j hj).2⟩
theorem OwnC.turn {B C : Nat} {v : Value} {ts : List Tri3} {w w' : World} (h : OwnC B C v ts w) (hg : w.grownBy w' v.ownBlock) : Turn B C w w' := .of_grown hg (fun j hj => ⟨(World.ownsRow.lt h.1 j hj).1, h.2 j hj⟩)
end Go.Proofs.YtiajdnhmjdfeeaaGreat
