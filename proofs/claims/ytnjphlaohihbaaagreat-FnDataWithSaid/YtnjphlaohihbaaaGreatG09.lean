/- The contracts of the functions that tell whether a graph is right. -/
import Derived.Test.YtnjphlaohihbaaaGreatG07
import Derived.Deep.RegionHeld3
import Derived.Deep.RegionWith
import Derived.Test.YtnjphlaohihbaaaGreatG01
import Derived.Outline
namespace Go.Proofs.YtnjphlaohihbaaaGreat
open Go.RowKit Go.WideShapes
set_option maxRecDepth 100000 in
set_option maxHeartbeats 1600000 in
theorem implGraphOk (a : Option Addr) (len cap : Nat) (ts : List Tri3) (w : World) (h : IsTris w a len cap ts) (hsm : Sm ts) :
    Calls Tryz.prog 43 #[.slice a len cap] w fun e w' => e = .returned (.bool (graphOk ts)) ∧ Below w.heap.size w w' := by
  have hts := h.len
  have hlen : len ≤ 9223372036854775807 := by
    rcases h with ⟨_, rfl, _, _⟩ | ⟨_, _, h1, h2, _⟩
    · omega
    · unfold maxLen at h2; omega
  by_cases g80 : (80 : Int) < len
  · have HG : Hid (graphOk ts = false) := Lib.hid (by unfold graphOk; rw [decide_eq_false (by omega)]; rfl)
    clear h hsm hts
    go_enter Tryz.func43, Tryz.ntmps43
    go_wp2_with fail
    go_ret
    exact ⟨by rw [HG.out]; rfl, Below.refl _ _⟩
  have HG : Hid (graphOk ts = gUpto okT aheadT ts ts.length) := Lib.hid (by unfold graphOk; rw [decide_eq_true (by omega)]; rfl)
  have HT := Lib.hid hts
  have H := Lib.hid h
  have HM := Lib.hid hsm
  clear hts h hsm
  go_enter Tryz.func43, Tryz.ntmps43
  go_wp2_with fail
  go_loopw [10] (fun i wr => ∃ k : Nat, k ≤ len ∧ i = .int .i64 k ∧ Hid (gUpto okT aheadT ts k = true) ∧ Below w.heap.size w wr) (fun i _ => len - (intOf i).toNat)
  case atStart => exact ⟨0, Nat.zero_le _, rfl, Lib.hid rfl, Below.refl _ _⟩
  case round =>
    obtain ⟨k, hk, rfl, hok, hnx⟩ := hrel
    by_cases hlt : k < len
    · obtain ⟨b, off, rfl, hb, hl, hm, hts, hc⟩ := H.out.cells (by omega)
      have ht : ts[k]? = some ts[k] := List.getElem?_eq_getElem (by omega)
      have hmm := HM.out ts[k] (List.getElem_mem _)
      obtain ⟨c0, c1, c2, m0, m1, m2⟩ := hc k _ ht
      clear m0 m1 m2
      rw [← hnx.cell (p := ⟨b, _, none⟩) hb] at c0 c1 c2
      obtain ⟨t, htt⟩ : ∃ t, ts[k] = t := ⟨_, rfl⟩
      rw [htt] at c0 c1 c2 ht hmm
      clear htt
      obtain ⟨s1, s2, s3⟩ := hmm
      have A1 := implTripleOk t.1 t.2.1 t.2.2 s1 s2 s3
      change ∀ w, Calls _ _ _ w fun e w' => e = .returned (.bool (okT t)) ∧ Below w.heap.size w w' at A1
      have l0 : b < wr.heap.size := Nat.lt_of_lt_of_le hb hnx.size
      cases hq : okT t
      · have HR : Hid (graphOk ts = false) := Lib.hid (by rw [HG.out]; exact gUpto_no (gAt_not ht hq) (by omega))
        rw [hq] at A1
        have C1 := Lib.hid A1
        clear A1 hq ht hts hc hm
        go_wp2_with fail
        have T0 := Box.new wr (.string t.1) (.string t.2.1) (.string t.2.2) 26
        obtain ⟨e0, e1, e2⟩ := T0.drew.cells
        refine wp_region_any (by kernel_rfl) ?_
        change wpAny _ _ _ _ _ _ _ (World.drew _)
        refine wpAny_ready (rs := [0]) (by kernel_rfl) (by simp) ?_
        refine AllReady.cons rfl (fun K hK => ?_) AllReady.nil
        go_simp
        refine hK _ _ ?_
        clear hK K
        refine wpAny_ready (rs := [1]) (by kernel_rfl) (by simp) ?_
        refine AllReady.cons rfl (fun K hK => ?_) AllReady.nil
        go_simp
        refine (C1.out _).mono ?_
        rintro e wn ⟨rfl, hx⟩
        go_wp2_with fail
        refine wpAny_take (i := 2) (v := ?_) rfl (by kernel_rfl) (by kernel_rfl) (by kernel_rfl) (fun _ _ _ h => h) (Or.inl ⟨by kernel_rfl, ?_⟩) ?_
        rotate_left
        · intro w; go_simp; try with_reducible rfl
        refine wpAny_take (i := 3) (v := ?_) rfl (by kernel_rfl) (by kernel_rfl) (by kernel_rfl) (fun _ _ _ h => h) (Or.inl ⟨by kernel_rfl, ?_⟩) ?_
        rotate_left
        · intro w; go_simp; try with_reducible rfl
        refine wpAny_take (i := 4) (v := undef) rfl (by kernel_rfl) (by kernel_rfl) (by kernel_rfl) (fun _ _ _ h => h) (Or.inr ⟨by kernel_rfl, rfl⟩) ?_
        refine wpAny_take (i := 5) (v := undef) rfl (by kernel_rfl) (by kernel_rfl) (by kernel_rfl) (fun _ _ _ h => h) (Or.inr ⟨by kernel_rfl, rfl⟩) ?_
        refine wpAny_take (i := 6) (v := undef) rfl (by kernel_rfl) (by kernel_rfl) (by kernel_rfl) (fun _ _ _ h => h) (Or.inr ⟨by kernel_rfl, rfl⟩) ?_
        refine wpAny_take (i := 7) (v := undef) rfl (by kernel_rfl) (by kernel_rfl) (by kernel_rfl) (fun _ _ _ h => h) (Or.inr ⟨by kernel_rfl, rfl⟩) ?_
        refine wpAny_take (i := 8) (v := undef) rfl (by kernel_rfl) (by kernel_rfl) (by kernel_rfl) (fun _ _ _ h => h) (Or.inr ⟨by kernel_rfl, rfl⟩) ?_
        refine wpAny_take (i := 9) (v := undef) rfl (by kernel_rfl) (by kernel_rfl) (by kernel_rfl) (fun _ _ _ h => h) (Or.inr ⟨by kernel_rfl, rfl⟩) ?_
        refine wpAny_take (i := 10) (v := undef) rfl (by kernel_rfl) (by kernel_rfl) (by kernel_rfl) (fun _ _ _ h => h) (Or.inr ⟨by kernel_rfl, rfl⟩) ?_
        refine wpAny_take (i := 11) (v := undef) rfl (by kernel_rfl) (by kernel_rfl) (by kernel_rfl) (fun _ _ _ h => h) (Or.inr ⟨by kernel_rfl, rfl⟩) ?_
        refine wpAny_take (i := 12) (v := undef) rfl (by kernel_rfl) (by kernel_rfl) (by kernel_rfl) (fun _ _ _ h => h) (Or.inr ⟨by kernel_rfl, rfl⟩) ?_
        refine wpAny_take (i := 13) (v := undef) rfl (by kernel_rfl) (by kernel_rfl) (by kernel_rfl) (fun _ _ _ h => h) (Or.inr ⟨by kernel_rfl, rfl⟩) ?_
        refine wpAny_take (i := 14) (v := undef) rfl (by kernel_rfl) (by kernel_rfl) (by kernel_rfl) (fun _ _ _ h => h) (Or.inr ⟨by kernel_rfl, rfl⟩) ?_
        refine wpAny_take (i := 15) (v := undef) rfl (by kernel_rfl) (by kernel_rfl) (by kernel_rfl) (fun _ _ _ h => h) (Or.inr ⟨by kernel_rfl, rfl⟩) ?_
        refine wpAny_take (i := 16) (v := ?_) rfl (by kernel_rfl) (by kernel_rfl) (by kernel_rfl) (fun _ _ _ h => h) (Or.inl ⟨by kernel_rfl, ?_⟩) ?_
        rotate_left
        · intro w; go_simp; try with_reducible rfl
        refine wpAny_done (by kernel_rfl) ?_ _
        simp only [Act.put, List.setIfInBounds_toArray, List.set_cons_zero, List.set_cons_succ, List.getElem_toArray, List.getElem_cons_zero, List.getElem_cons_succ]
        have B : Below w.heap.size w wn := ((hnx.alloc hnx.size _).drew).trans (hx.mono (by have := hnx.size; simp; omega))
        clear hx hnx c0 c1 c2 T0 e0 e1 e2
        go_wp2_with fail
        go_ret
        exact ⟨by rw [HR.out]; rfl, B⟩
      · rw [hq] at A1
        have C1 := Lib.hid A1
        clear A1
        have T0 := Box.new wr (.string t.1) (.string t.2.1) (.string t.2.2) 26
        rcases Nat.eq_zero_or_pos k with rfl | h0
        · have HN : Hid (gUpto okT aheadT ts (0 + 1) = true) := Lib.hid (by rw [gUpto_succ, hok.out, gAt_zero ht, hq]; rfl)
          clear hq ht hts hc hm
          simp only [Nat.zero_mul, Nat.add_zero] at c0 c1 c2
          go_wp2_with fail
          obtain ⟨e0, e1, e2⟩ := T0.drew.cells
          refine wp_region_any (by kernel_rfl) ?_
          change wpAny _ _ _ _ _ _ _ (World.drew _)
          refine wpAny_ready (rs := [0]) (by kernel_rfl) (by simp) ?_
          refine AllReady.cons rfl (fun K hK => ?_) AllReady.nil
          go_simp
          refine hK _ _ ?_
          clear hK K
          refine wpAny_ready (rs := [1]) (by kernel_rfl) (by simp) ?_
          refine AllReady.cons rfl (fun K hK => ?_) AllReady.nil
          go_simp
          refine (C1.out _).mono ?_
          rintro e wn ⟨rfl, hx⟩
          go_wp2_with fail
          refine wpAny_take (i := 2) (v := ?_) rfl (by kernel_rfl) (by kernel_rfl) (by kernel_rfl) (fun _ _ _ h => h) (Or.inl ⟨by kernel_rfl, ?_⟩) ?_
          rotate_left
          · intro w; go_simp; try with_reducible rfl
          refine wpAny_take (i := 3) (v := ?_) rfl (by kernel_rfl) (by kernel_rfl) (by kernel_rfl) (fun _ _ _ h => h) (Or.inl ⟨by kernel_rfl, ?_⟩) ?_
          rotate_left
          · intro w; go_simp; try with_reducible rfl
          refine wpAny_take (i := 4) (v := ?_) rfl (by kernel_rfl) (by kernel_rfl) (by kernel_rfl) (fun _ _ _ h => h) (Or.inl ⟨by kernel_rfl, ?_⟩) ?_
          rotate_left
          · intro w; go_simp; try with_reducible rfl
          refine wpAny_take (i := 5) (v := ?_) rfl (by kernel_rfl) (by kernel_rfl) (by kernel_rfl) (fun _ _ _ h => h) (Or.inl ⟨by kernel_rfl, ?_⟩) ?_
          rotate_left
          · intro w; go_simp; try with_reducible rfl
          refine wpAny_take (i := 6) (v := ?_) rfl (by kernel_rfl) (by kernel_rfl) (by kernel_rfl) (fun _ _ _ h => h) (Or.inl ⟨by kernel_rfl, ?_⟩) ?_
          rotate_left
          · intro w; go_simp; try with_reducible rfl
          refine wpAny_take (i := 7) (v := undef) rfl (by kernel_rfl) (by kernel_rfl) (by kernel_rfl) (fun _ _ _ h => h) (Or.inr ⟨by kernel_rfl, rfl⟩) ?_
          refine wpAny_take (i := 8) (v := undef) rfl (by kernel_rfl) (by kernel_rfl) (by kernel_rfl) (fun _ _ _ h => h) (Or.inr ⟨by kernel_rfl, rfl⟩) ?_
          refine wpAny_take (i := 9) (v := undef) rfl (by kernel_rfl) (by kernel_rfl) (by kernel_rfl) (fun _ _ _ h => h) (Or.inr ⟨by kernel_rfl, rfl⟩) ?_
          refine wpAny_take (i := 10) (v := undef) rfl (by kernel_rfl) (by kernel_rfl) (by kernel_rfl) (fun _ _ _ h => h) (Or.inr ⟨by kernel_rfl, rfl⟩) ?_
          refine wpAny_take (i := 11) (v := undef) rfl (by kernel_rfl) (by kernel_rfl) (by kernel_rfl) (fun _ _ _ h => h) (Or.inr ⟨by kernel_rfl, rfl⟩) ?_
          refine wpAny_take (i := 12) (v := undef) rfl (by kernel_rfl) (by kernel_rfl) (by kernel_rfl) (fun _ _ _ h => h) (Or.inr ⟨by kernel_rfl, rfl⟩) ?_
          refine wpAny_take (i := 13) (v := undef) rfl (by kernel_rfl) (by kernel_rfl) (by kernel_rfl) (fun _ _ _ h => h) (Or.inr ⟨by kernel_rfl, rfl⟩) ?_
          refine wpAny_take (i := 14) (v := undef) rfl (by kernel_rfl) (by kernel_rfl) (by kernel_rfl) (fun _ _ _ h => h) (Or.inr ⟨by kernel_rfl, rfl⟩) ?_
          refine wpAny_take (i := 15) (v := ?_) rfl (by kernel_rfl) (by kernel_rfl) (by kernel_rfl) (fun _ _ _ h => h) (Or.inl ⟨by kernel_rfl, ?_⟩) ?_
          rotate_left
          · intro w; go_simp; try with_reducible rfl
          refine wpAny_take (i := 16) (v := ?_) rfl (by kernel_rfl) (by kernel_rfl) (by kernel_rfl) (fun _ _ _ h => h) (Or.inl ⟨by kernel_rfl, ?_⟩) ?_
          rotate_left
          · intro w; go_simp; try with_reducible rfl
          refine wpAny_done (by kernel_rfl) ?_ _
          simp only [Act.put, List.setIfInBounds_toArray, List.set_cons_zero, List.set_cons_succ, List.getElem_toArray, List.getElem_cons_zero, List.getElem_cons_succ]
          have B : Below w.heap.size w wn := ((hnx.alloc hnx.size _).drew).trans (hx.mono (by have := hnx.size; simp; omega))
          clear hx hnx c0 c1 c2 T0 e0 e1 e2
          go_wp2_with fail
          go_roundw
          case rel => exact ⟨0 + 1, by omega, by go_num, HN, B⟩
          case measure => simp [intOf]; omega
        · obtain ⟨j, rfl⟩ : ∃ j, k = j + 1 := ⟨k - 1, by omega⟩
          have hu : ts[j]? = some ts[j] := List.getElem?_eq_getElem (by omega)
          obtain ⟨p0, p1, p2, m0, m1, m2⟩ := hc j _ hu
          clear m0 m1 m2
          rw [← hnx.cell (p := ⟨b, _, none⟩) hb] at p0 p1 p2
          obtain ⟨u, huu⟩ : ∃ u, ts[j] = u := ⟨_, rfl⟩
          rw [huu] at p0 p1 p2 hu
          clear huu
          have HA := gAt_next (ok := okT) (ah := aheadT) h0 ht hu
          have A2 := implAhead u.1 u.2.1 u.2.2 t.1 t.2.1 t.2.2
          change ∀ w, Calls _ _ _ w fun e w' => e = .returned (.bool (aheadT u t)) ∧ Below w.heap.size w w' at A2
          rw [hq] at HA
          cases ha : aheadT u t
          · have HR : Hid (graphOk ts = false) := Lib.hid (by rw [HG.out]; exact gUpto_no (k := j + 1) (by rw [HA, ha]; rfl) (by omega))
            rw [ha] at A2
            have C2 := Lib.hid A2
            clear A2 ha HA hq ht hu hts hc hm
            go_wp2_with fail
            obtain ⟨e0, e1, e2⟩ := T0.cells
            have hj1 : ((j + 1 : Nat) : Int) - 1 = (j : Int) := by omega
            have hj2 : IntKind.i64.wrap (((j + 1 : Nat) : Int) - 1) = (j : Int) := by rw [hj1]; exact IntWalk.i64_in _ (by omega)
            have hjl : j < len := by omega
            have hj6 : (0 : Int) ≤ (j : Int) := by omega
            have hj7 : (j : Int) < (len : Int) := by omega
            have hj8 : IntKind.i64.wrap (j : Int) = (j : Int) := IntWalk.i64_in _ (by omega)
            have hj4 : (j : Int) + 1 - 1 = (j : Int) := by omega
            have hj5 : IntKind.i64.wrap ((j : Int) + 1 - 1) = (j : Int) := by rw [hj4]; exact IntWalk.i64_in _ (by omega)
            have hj3 : decide ((0 : Int) < ((j + 1 : Nat) : Int)) = true := by rw [decide_eq_true_eq]; omega
            go_region_held3 (fun w' => w'.cell? ⟨wr.heap.size, 0, none⟩ = some (.string t.1) ∧ w'.cell? ⟨wr.heap.size, 1, none⟩ = some (.string t.2.1) ∧ w'.cell? ⟨wr.heap.size, 2, none⟩ = some (.string t.2.2) ∧ w'.cell? ⟨b, off + j * 3, none⟩ = some (.string u.1) ∧ w'.cell? ⟨b, off + j * 3 + 1, none⟩ = some (.string u.2.1) ∧ w'.cell? ⟨b, off + j * 3 + 2, none⟩ = some (.string u.2.2))
              (first | go_keep | (go_split_ands; refine ⟨?_, ?_, ?_, ?_, ?_, ?_⟩ <;> (rw [ha4.cell (by first | (simp; done) | exact World.block_lt_of_cell? _ _ (by assumption))]; assumption)) | (go_split_ands; refine ⟨?_, ?_, ?_, ?_, ?_, ?_⟩ <;> (rw [hb4.cell (by first | (simp; done) | exact World.block_lt_of_cell? _ _ (by assumption))]; assumption)))
              (first
                | (go_at_call 63; refine (C1.out _).mono ?_; rintro e wa ⟨rfl, ha4⟩)
                | (go_at_call 71; refine (C2.out _).mono ?_; rintro e wb ⟨rfl, hb4⟩))
            have B1 : Below w.heap.size w wa := ((hnx.alloc hnx.size _).drew).trans (ha4.mono (by have := hnx.size; simp; omega))
            have B : Below w.heap.size w wb := B1.trans (hb4.mono B1.size)
            clear ha4 hb4 B1 hnx c0 c1 c2 p0 p1 p2 e0 e1 e2 T0
            go_wp2_with fail
            go_ret
            exact ⟨by rw [HR.out]; rfl, B⟩
          · have HN : Hid (gUpto okT aheadT ts (j + 1 + 1) = true) := Lib.hid (by rw [gUpto_succ, hok.out, HA, ha]; rfl)
            rw [ha] at A2
            have C2 := Lib.hid A2
            clear A2 ha HA hq ht hu hts hc hm
            go_wp2_with fail
            obtain ⟨e0, e1, e2⟩ := T0.cells
            have hj1 : ((j + 1 : Nat) : Int) - 1 = (j : Int) := by omega
            have hj2 : IntKind.i64.wrap (((j + 1 : Nat) : Int) - 1) = (j : Int) := by rw [hj1]; exact IntWalk.i64_in _ (by omega)
            have hjl : j < len := by omega
            have hj6 : (0 : Int) ≤ (j : Int) := by omega
            have hj7 : (j : Int) < (len : Int) := by omega
            have hj8 : IntKind.i64.wrap (j : Int) = (j : Int) := IntWalk.i64_in _ (by omega)
            have hj4 : (j : Int) + 1 - 1 = (j : Int) := by omega
            have hj5 : IntKind.i64.wrap ((j : Int) + 1 - 1) = (j : Int) := by rw [hj4]; exact IntWalk.i64_in _ (by omega)
            have hj3 : decide ((0 : Int) < ((j + 1 : Nat) : Int)) = true := by rw [decide_eq_true_eq]; omega
            go_region_held3 (fun w' => w'.cell? ⟨wr.heap.size, 0, none⟩ = some (.string t.1) ∧ w'.cell? ⟨wr.heap.size, 1, none⟩ = some (.string t.2.1) ∧ w'.cell? ⟨wr.heap.size, 2, none⟩ = some (.string t.2.2) ∧ w'.cell? ⟨b, off + j * 3, none⟩ = some (.string u.1) ∧ w'.cell? ⟨b, off + j * 3 + 1, none⟩ = some (.string u.2.1) ∧ w'.cell? ⟨b, off + j * 3 + 2, none⟩ = some (.string u.2.2))
              (first | go_keep | (go_split_ands; refine ⟨?_, ?_, ?_, ?_, ?_, ?_⟩ <;> (rw [ha4.cell (by first | (simp; done) | exact World.block_lt_of_cell? _ _ (by assumption))]; assumption)) | (go_split_ands; refine ⟨?_, ?_, ?_, ?_, ?_, ?_⟩ <;> (rw [hb4.cell (by first | (simp; done) | exact World.block_lt_of_cell? _ _ (by assumption))]; assumption)))
              (first
                | (go_at_call 63; refine (C1.out _).mono ?_; rintro e wa ⟨rfl, ha4⟩)
                | (go_at_call 71; refine (C2.out _).mono ?_; rintro e wb ⟨rfl, hb4⟩))
            have B1 : Below w.heap.size w wa := ((hnx.alloc hnx.size _).drew).trans (ha4.mono (by have := hnx.size; simp; omega))
            have B : Below w.heap.size w wb := B1.trans (hb4.mono B1.size)
            clear ha4 hb4 B1 hnx c0 c1 c2 p0 p1 p2 e0 e1 e2 T0
            go_wp2_with fail
            go_roundw
            case rel => exact ⟨j + 1 + 1, by omega, by go_num, HN, B⟩
            case measure => simp [intOf]; omega
    · have HF : Hid (graphOk ts = true) := Lib.hid (by have := hok.out; rw [HG.out, HT.out, show len = k from by omega]; exact this)
      go_wp2_with fail
      go_ret
      exact ⟨by rw [HF.out]; rfl, hnx⟩
open Go.RowKit Go.WideShapes
set_option maxRecDepth 100000 in
set_option maxHeartbeats 1600000 in
theorem specGraphOk (a : Option Addr) (len cap : Nat) (ts : List Tri3) (w : World) (h : IsTris w a len cap ts) (hsm : Sm ts) :
    Calls Tryz.prog 44 #[.slice a len cap] w fun e w' => e = .returned (.bool (graphOk ts)) ∧ Below w.heap.size w w' := by
  have hts := h.len
  have hlen : len ≤ 9223372036854775807 := by
    rcases h with ⟨_, rfl, _, _⟩ | ⟨_, _, h1, h2, _⟩
    · omega
    · unfold maxLen at h2; omega
  have HT := Lib.hid hts
  have H := Lib.hid h
  have HM := Lib.hid hsm
  clear hts h hsm
  go_enter Tryz.func44, Tryz.ntmps44
  go_wp2_with fail
  go_loopw [3] (fun i wr => ∃ k : Nat, k ≤ len ∧ i = .int .i64 k ∧ Hid (gUpto okT aheadT ts k = true) ∧ Below w.heap.size w wr) (fun i _ => len - (intOf i).toNat)
  case atStart => exact ⟨0, Nat.zero_le _, rfl, Lib.hid rfl, Below.refl _ _⟩
  case round =>
    obtain ⟨k, hk, rfl, hok, hnx⟩ := hrel
    by_cases hlt : k < len
    · obtain ⟨b, off, rfl, hb, hl, hm, hts, hc⟩ := H.out.cells (by omega)
      have ht : ts[k]? = some ts[k] := List.getElem?_eq_getElem (by omega)
      have hmm := HM.out ts[k] (List.getElem_mem _)
      obtain ⟨c0, c1, c2, m0, m1, m2⟩ := hc k _ ht
      clear m0 m1 m2
      rw [← hnx.cell (p := ⟨b, _, none⟩) hb] at c0 c1 c2
      obtain ⟨t, htt⟩ : ∃ t, ts[k] = t := ⟨_, rfl⟩
      rw [htt] at c0 c1 c2 ht hmm
      clear htt
      obtain ⟨s1, s2, s3⟩ := hmm
      have A1 := specTripleOk t.1 t.2.1 t.2.2 s1 s2 s3
      change ∀ w, Calls _ _ _ w fun e w' => e = .returned (.bool (okT t)) ∧ Below w.heap.size w w' at A1
      have l0 : b < wr.heap.size := Nat.lt_of_lt_of_le hb hnx.size
      have hk6 : (0 : Int) ≤ (k : Int) := by omega
      have hk7 : (k : Int) < (len : Int) := by omega
      cases hq : okT t
      · have HR : Hid (gUpto okT aheadT ts ts.length = false) := Lib.hid (gUpto_no (gAt_not ht hq) (by omega))
        rw [hq] at A1
        have C1 := Lib.hid A1
        clear A1 hq ht hts hc hm
        go_wp2_with fail
        rw [← World.cell?_drew] at c0 c1 c2
        refine wp_region_any (by kernel_rfl) ?_
        change wpAny _ _ _ _ _ _ _ (World.drew _)
        refine wpAny_take (i := 0) (v := ?_) rfl (by kernel_rfl) (by kernel_rfl) (by kernel_rfl) (fun _ _ _ h => h) (Or.inl ⟨by kernel_rfl, ?_⟩) ?_
        rotate_left
        · intro w; go_simp; try with_reducible rfl
        refine wpAny_take (i := 1) (v := ?_) rfl (by kernel_rfl) (by kernel_rfl) (by kernel_rfl) (fun _ _ _ h => h) (Or.inl ⟨by kernel_rfl, ?_⟩) ?_
        rotate_left
        · intro w; go_simp; try with_reducible rfl
        refine wpAny_take (i := 2) (v := ?_) rfl (by kernel_rfl) (by kernel_rfl) (by kernel_rfl) (fun _ _ _ h => h) (Or.inl ⟨by kernel_rfl, ?_⟩) ?_
        rotate_left
        · intro w; go_simp; try with_reducible rfl
        refine wpAny_ready (rs := [3]) (by kernel_rfl) (by simp) ?_
        refine AllReady.cons rfl (fun K hK => ?_) AllReady.nil
        go_simp
        refine hK _ _ ?_
        clear hK K
        refine wpAny_ready (rs := [4]) (by kernel_rfl) (by simp) ?_
        refine AllReady.cons rfl (fun K hK => ?_) AllReady.nil
        go_simp
        refine (C1.out _).mono ?_
        rintro e wn ⟨rfl, hx⟩
        go_wp2_with fail
        refine wpAny_take (i := 5) (v := ?_) rfl (by kernel_rfl) (by kernel_rfl) (by kernel_rfl) (fun _ _ _ h => h) (Or.inl ⟨by kernel_rfl, ?_⟩) ?_
        rotate_left
        · intro w; go_simp; try with_reducible rfl
        refine wpAny_take (i := 6) (v := ?_) rfl (by kernel_rfl) (by kernel_rfl) (by kernel_rfl) (fun _ _ _ h => h) (Or.inl ⟨by kernel_rfl, ?_⟩) ?_
        rotate_left
        · intro w; go_simp; try with_reducible rfl
        refine wpAny_take (i := 7) (v := undef) rfl (by kernel_rfl) (by kernel_rfl) (by kernel_rfl) (fun _ _ _ h => h) (Or.inr ⟨by kernel_rfl, rfl⟩) ?_
        refine wpAny_take (i := 8) (v := undef) rfl (by kernel_rfl) (by kernel_rfl) (by kernel_rfl) (fun _ _ _ h => h) (Or.inr ⟨by kernel_rfl, rfl⟩) ?_
        refine wpAny_take (i := 9) (v := undef) rfl (by kernel_rfl) (by kernel_rfl) (by kernel_rfl) (fun _ _ _ h => h) (Or.inr ⟨by kernel_rfl, rfl⟩) ?_
        refine wpAny_take (i := 10) (v := undef) rfl (by kernel_rfl) (by kernel_rfl) (by kernel_rfl) (fun _ _ _ h => h) (Or.inr ⟨by kernel_rfl, rfl⟩) ?_
        refine wpAny_take (i := 11) (v := undef) rfl (by kernel_rfl) (by kernel_rfl) (by kernel_rfl) (fun _ _ _ h => h) (Or.inr ⟨by kernel_rfl, rfl⟩) ?_
        refine wpAny_take (i := 12) (v := undef) rfl (by kernel_rfl) (by kernel_rfl) (by kernel_rfl) (fun _ _ _ h => h) (Or.inr ⟨by kernel_rfl, rfl⟩) ?_
        refine wpAny_take (i := 13) (v := undef) rfl (by kernel_rfl) (by kernel_rfl) (by kernel_rfl) (fun _ _ _ h => h) (Or.inr ⟨by kernel_rfl, rfl⟩) ?_
        refine wpAny_take (i := 14) (v := undef) rfl (by kernel_rfl) (by kernel_rfl) (by kernel_rfl) (fun _ _ _ h => h) (Or.inr ⟨by kernel_rfl, rfl⟩) ?_
        refine wpAny_take (i := 15) (v := undef) rfl (by kernel_rfl) (by kernel_rfl) (by kernel_rfl) (fun _ _ _ h => h) (Or.inr ⟨by kernel_rfl, rfl⟩) ?_
        refine wpAny_take (i := 16) (v := undef) rfl (by kernel_rfl) (by kernel_rfl) (by kernel_rfl) (fun _ _ _ h => h) (Or.inr ⟨by kernel_rfl, rfl⟩) ?_
        refine wpAny_take (i := 17) (v := undef) rfl (by kernel_rfl) (by kernel_rfl) (by kernel_rfl) (fun _ _ _ h => h) (Or.inr ⟨by kernel_rfl, rfl⟩) ?_
        refine wpAny_take (i := 18) (v := undef) rfl (by kernel_rfl) (by kernel_rfl) (by kernel_rfl) (fun _ _ _ h => h) (Or.inr ⟨by kernel_rfl, rfl⟩) ?_
        refine wpAny_take (i := 19) (v := undef) rfl (by kernel_rfl) (by kernel_rfl) (by kernel_rfl) (fun _ _ _ h => h) (Or.inr ⟨by kernel_rfl, rfl⟩) ?_
        refine wpAny_take (i := 20) (v := undef) rfl (by kernel_rfl) (by kernel_rfl) (by kernel_rfl) (fun _ _ _ h => h) (Or.inr ⟨by kernel_rfl, rfl⟩) ?_
        refine wpAny_take (i := 21) (v := undef) rfl (by kernel_rfl) (by kernel_rfl) (by kernel_rfl) (fun _ _ _ h => h) (Or.inr ⟨by kernel_rfl, rfl⟩) ?_
        refine wpAny_take (i := 22) (v := ?_) rfl (by kernel_rfl) (by kernel_rfl) (by kernel_rfl) (fun _ _ _ h => h) (Or.inl ⟨by kernel_rfl, ?_⟩) ?_
        rotate_left
        · intro w; go_simp; try with_reducible rfl
        refine wpAny_done (by kernel_rfl) ?_ _
        simp only [Act.put, List.setIfInBounds_toArray, List.set_cons_zero, List.set_cons_succ, List.getElem_toArray, List.getElem_cons_zero, List.getElem_cons_succ]
        have B : Below w.heap.size w wn := (hnx.drew).trans (hx.mono hnx.size)
        clear hx hnx c0 c1 c2
        go_wp2_with fail
        go_ret
        exact ⟨by unfold graphOk; rw [HR.out, Bool.and_false]; rfl, B⟩
      · rw [hq] at A1
        have C1 := Lib.hid A1
        clear A1
        rcases Nat.eq_zero_or_pos k with rfl | h0
        · have HN : Hid (gUpto okT aheadT ts (0 + 1) = true) := Lib.hid (by rw [gUpto_succ, hok.out, gAt_zero ht, hq]; rfl)
          clear hq ht hts hc hm
          simp only [Nat.zero_mul, Nat.add_zero] at c0 c1 c2
          have hz : (0 : Int) < (len : Int) := by omega
          go_wp2_with fail
          rw [← World.cell?_drew] at c0 c1 c2
          refine wp_region_any (by kernel_rfl) ?_
          change wpAny _ _ _ _ _ _ _ (World.drew _)
          refine wpAny_take (i := 0) (v := ?_) rfl (by kernel_rfl) (by kernel_rfl) (by kernel_rfl) (fun _ _ _ h => h) (Or.inl ⟨by kernel_rfl, ?_⟩) ?_
          rotate_left
          · intro w; go_simp; try with_reducible rfl
          refine wpAny_take (i := 1) (v := ?_) rfl (by kernel_rfl) (by kernel_rfl) (by kernel_rfl) (fun _ _ _ h => h) (Or.inl ⟨by kernel_rfl, ?_⟩) ?_
          rotate_left
          · intro w; go_simp; try with_reducible rfl
          refine wpAny_take (i := 2) (v := ?_) rfl (by kernel_rfl) (by kernel_rfl) (by kernel_rfl) (fun _ _ _ h => h) (Or.inl ⟨by kernel_rfl, ?_⟩) ?_
          rotate_left
          · intro w; go_simp; try with_reducible rfl
          refine wpAny_ready (rs := [3]) (by kernel_rfl) (by simp) ?_
          refine AllReady.cons rfl (fun K hK => ?_) AllReady.nil
          go_simp
          refine hK _ _ ?_
          clear hK K
          refine wpAny_ready (rs := [4]) (by kernel_rfl) (by simp) ?_
          refine AllReady.cons rfl (fun K hK => ?_) AllReady.nil
          go_simp
          refine (C1.out _).mono ?_
          rintro e wn ⟨rfl, hx⟩
          go_wp2_with fail
          refine wpAny_take (i := 5) (v := ?_) rfl (by kernel_rfl) (by kernel_rfl) (by kernel_rfl) (fun _ _ _ h => h) (Or.inl ⟨by kernel_rfl, ?_⟩) ?_
          rotate_left
          · intro w; go_simp; try with_reducible rfl
          refine wpAny_take (i := 6) (v := ?_) rfl (by kernel_rfl) (by kernel_rfl) (by kernel_rfl) (fun _ _ _ h => h) (Or.inl ⟨by kernel_rfl, ?_⟩) ?_
          rotate_left
          · intro w; go_simp; try with_reducible rfl
          refine wpAny_take (i := 7) (v := ?_) rfl (by kernel_rfl) (by kernel_rfl) (by kernel_rfl) (fun _ _ _ h => h) (Or.inl ⟨by kernel_rfl, ?_⟩) ?_
          rotate_left
          · intro w; go_simp; try with_reducible rfl
          refine wpAny_take (i := 8) (v := ?_) rfl (by kernel_rfl) (by kernel_rfl) (by kernel_rfl) (fun _ _ _ h => h) (Or.inl ⟨by kernel_rfl, ?_⟩) ?_
          rotate_left
          · intro w; go_simp; try with_reducible rfl
          refine wpAny_take (i := 9) (v := ?_) rfl (by kernel_rfl) (by kernel_rfl) (by kernel_rfl) (fun _ _ _ h => h) (Or.inl ⟨by kernel_rfl, ?_⟩) ?_
          rotate_left
          · intro w; go_simp; try with_reducible rfl
          refine wpAny_take (i := 10) (v := undef) rfl (by kernel_rfl) (by kernel_rfl) (by kernel_rfl) (fun _ _ _ h => h) (Or.inr ⟨by kernel_rfl, rfl⟩) ?_
          refine wpAny_take (i := 11) (v := undef) rfl (by kernel_rfl) (by kernel_rfl) (by kernel_rfl) (fun _ _ _ h => h) (Or.inr ⟨by kernel_rfl, rfl⟩) ?_
          refine wpAny_take (i := 12) (v := undef) rfl (by kernel_rfl) (by kernel_rfl) (by kernel_rfl) (fun _ _ _ h => h) (Or.inr ⟨by kernel_rfl, rfl⟩) ?_
          refine wpAny_take (i := 13) (v := undef) rfl (by kernel_rfl) (by kernel_rfl) (by kernel_rfl) (fun _ _ _ h => h) (Or.inr ⟨by kernel_rfl, rfl⟩) ?_
          refine wpAny_take (i := 14) (v := undef) rfl (by kernel_rfl) (by kernel_rfl) (by kernel_rfl) (fun _ _ _ h => h) (Or.inr ⟨by kernel_rfl, rfl⟩) ?_
          refine wpAny_take (i := 15) (v := undef) rfl (by kernel_rfl) (by kernel_rfl) (by kernel_rfl) (fun _ _ _ h => h) (Or.inr ⟨by kernel_rfl, rfl⟩) ?_
          refine wpAny_take (i := 16) (v := undef) rfl (by kernel_rfl) (by kernel_rfl) (by kernel_rfl) (fun _ _ _ h => h) (Or.inr ⟨by kernel_rfl, rfl⟩) ?_
          refine wpAny_take (i := 17) (v := undef) rfl (by kernel_rfl) (by kernel_rfl) (by kernel_rfl) (fun _ _ _ h => h) (Or.inr ⟨by kernel_rfl, rfl⟩) ?_
          refine wpAny_take (i := 18) (v := undef) rfl (by kernel_rfl) (by kernel_rfl) (by kernel_rfl) (fun _ _ _ h => h) (Or.inr ⟨by kernel_rfl, rfl⟩) ?_
          refine wpAny_take (i := 19) (v := undef) rfl (by kernel_rfl) (by kernel_rfl) (by kernel_rfl) (fun _ _ _ h => h) (Or.inr ⟨by kernel_rfl, rfl⟩) ?_
          refine wpAny_take (i := 20) (v := undef) rfl (by kernel_rfl) (by kernel_rfl) (by kernel_rfl) (fun _ _ _ h => h) (Or.inr ⟨by kernel_rfl, rfl⟩) ?_
          refine wpAny_take (i := 21) (v := ?_) rfl (by kernel_rfl) (by kernel_rfl) (by kernel_rfl) (fun _ _ _ h => h) (Or.inl ⟨by kernel_rfl, ?_⟩) ?_
          rotate_left
          · intro w; go_simp; try with_reducible rfl
          refine wpAny_take (i := 22) (v := ?_) rfl (by kernel_rfl) (by kernel_rfl) (by kernel_rfl) (fun _ _ _ h => h) (Or.inl ⟨by kernel_rfl, ?_⟩) ?_
          rotate_left
          · intro w; go_simp; try with_reducible rfl
          refine wpAny_done (by kernel_rfl) ?_ _
          simp only [Act.put, List.setIfInBounds_toArray, List.set_cons_zero, List.set_cons_succ, List.getElem_toArray, List.getElem_cons_zero, List.getElem_cons_succ]
          have B : Below w.heap.size w wn := (hnx.drew).trans (hx.mono hnx.size)
          clear hx hnx c0 c1 c2
          go_wp2_with fail
          go_roundw
          case rel => exact ⟨0 + 1, by omega, by go_num, HN, B⟩
          case measure => simp [intOf]; omega
        · obtain ⟨j, rfl⟩ : ∃ j, k = j + 1 := ⟨k - 1, by omega⟩
          have hu : ts[j]? = some ts[j] := List.getElem?_eq_getElem (by omega)
          obtain ⟨p0, p1, p2, m0, m1, m2⟩ := hc j _ hu
          clear m0 m1 m2
          rw [← hnx.cell (p := ⟨b, _, none⟩) hb] at p0 p1 p2
          obtain ⟨u, huu⟩ : ∃ u, ts[j] = u := ⟨_, rfl⟩
          rw [huu] at p0 p1 p2 hu
          clear huu
          have HA := gAt_next (ok := okT) (ah := aheadT) h0 ht hu
          have A2 := specAhead u.1 u.2.1 u.2.2 t.1 t.2.1 t.2.2
          change ∀ w, Calls _ _ _ w fun e w' => e = .returned (.bool (aheadT u t)) ∧ Below w.heap.size w w' at A2
          rw [hq] at HA
          cases ha : aheadT u t
          · have HR : Hid (gUpto okT aheadT ts ts.length = false) := Lib.hid (gUpto_no (k := j + 1) (by rw [HA, ha]; rfl) (by omega))
            rw [ha] at A2
            have C2 := Lib.hid A2
            clear A2 ha HA hq ht hu hts hc hm
            go_wp2_with fail
            have hj1 : ((j + 1 : Nat) : Int) - 1 = (j : Int) := by omega
            have hj2 : IntKind.i64.wrap (((j + 1 : Nat) : Int) - 1) = (j : Int) := by rw [hj1]; exact IntWalk.i64_in _ (by omega)
            have hjl : j < len := by omega
            have hk8 : (0 : Int) ≤ (j : Int) + 1 := by omega
            have hk9 : (j : Int) + 1 < (len : Int) := by omega
            have hj6 : (0 : Int) ≤ (j : Int) := by omega
            have hj7 : (j : Int) < (len : Int) := by omega
            have hj8 : IntKind.i64.wrap (j : Int) = (j : Int) := IntWalk.i64_in _ (by omega)
            have hj4 : (j : Int) + 1 - 1 = (j : Int) := by omega
            have hj5 : IntKind.i64.wrap ((j : Int) + 1 - 1) = (j : Int) := by rw [hj4]; exact IntWalk.i64_in _ (by omega)
            have hj3 : decide ((0 : Int) < ((j + 1 : Nat) : Int)) = true := by rw [decide_eq_true_eq]; omega
            go_region_held3 (fun w' => w'.cell? ⟨b, off + (j + 1) * 3, none⟩ = some (.string t.1) ∧ w'.cell? ⟨b, off + (j + 1) * 3 + 1, none⟩ = some (.string t.2.1) ∧ w'.cell? ⟨b, off + (j + 1) * 3 + 2, none⟩ = some (.string t.2.2) ∧ w'.cell? ⟨b, off + j * 3, none⟩ = some (.string u.1) ∧ w'.cell? ⟨b, off + j * 3 + 1, none⟩ = some (.string u.2.1) ∧ w'.cell? ⟨b, off + j * 3 + 2, none⟩ = some (.string u.2.2))
              (first | go_keep | (go_split_ands; refine ⟨?_, ?_, ?_, ?_, ?_, ?_⟩ <;> (rw [ha4.cell (by first | (simp; done) | exact World.block_lt_of_cell? _ _ (by assumption))]; assumption)) | (go_split_ands; refine ⟨?_, ?_, ?_, ?_, ?_, ?_⟩ <;> (rw [hb4.cell (by first | (simp; done) | exact World.block_lt_of_cell? _ _ (by assumption))]; assumption)))
              (first
                | (go_at_call 68; refine (C1.out _).mono ?_; rintro e wa ⟨rfl, ha4⟩)
                | (go_at_call 72; refine (C2.out _).mono ?_; rintro e wb ⟨rfl, hb4⟩))
            have B1 : Below w.heap.size w wa := (hnx.drew).trans (ha4.mono hnx.size)
            have B : Below w.heap.size w wb := B1.trans (hb4.mono B1.size)
            clear ha4 hb4 B1 hnx c0 c1 c2 p0 p1 p2
            go_wp2_with fail
            go_ret
            exact ⟨by unfold graphOk; rw [HR.out, Bool.and_false]; rfl, B⟩
          · have HN : Hid (gUpto okT aheadT ts (j + 1 + 1) = true) := Lib.hid (by rw [gUpto_succ, hok.out, HA, ha]; rfl)
            rw [ha] at A2
            have C2 := Lib.hid A2
            clear A2 ha HA hq ht hu hts hc hm
            go_wp2_with fail
            have hj1 : ((j + 1 : Nat) : Int) - 1 = (j : Int) := by omega
            have hj2 : IntKind.i64.wrap (((j + 1 : Nat) : Int) - 1) = (j : Int) := by rw [hj1]; exact IntWalk.i64_in _ (by omega)
            have hjl : j < len := by omega
            have hk8 : (0 : Int) ≤ (j : Int) + 1 := by omega
            have hk9 : (j : Int) + 1 < (len : Int) := by omega
            have hj6 : (0 : Int) ≤ (j : Int) := by omega
            have hj7 : (j : Int) < (len : Int) := by omega
            have hj8 : IntKind.i64.wrap (j : Int) = (j : Int) := IntWalk.i64_in _ (by omega)
            have hj4 : (j : Int) + 1 - 1 = (j : Int) := by omega
            have hj5 : IntKind.i64.wrap ((j : Int) + 1 - 1) = (j : Int) := by rw [hj4]; exact IntWalk.i64_in _ (by omega)
            have hj3 : decide ((0 : Int) < ((j + 1 : Nat) : Int)) = true := by rw [decide_eq_true_eq]; omega
            go_region_held3 (fun w' => w'.cell? ⟨b, off + (j + 1) * 3, none⟩ = some (.string t.1) ∧ w'.cell? ⟨b, off + (j + 1) * 3 + 1, none⟩ = some (.string t.2.1) ∧ w'.cell? ⟨b, off + (j + 1) * 3 + 2, none⟩ = some (.string t.2.2) ∧ w'.cell? ⟨b, off + j * 3, none⟩ = some (.string u.1) ∧ w'.cell? ⟨b, off + j * 3 + 1, none⟩ = some (.string u.2.1) ∧ w'.cell? ⟨b, off + j * 3 + 2, none⟩ = some (.string u.2.2))
              (first | go_keep | (go_split_ands; refine ⟨?_, ?_, ?_, ?_, ?_, ?_⟩ <;> (rw [ha4.cell (by first | (simp; done) | exact World.block_lt_of_cell? _ _ (by assumption))]; assumption)) | (go_split_ands; refine ⟨?_, ?_, ?_, ?_, ?_, ?_⟩ <;> (rw [hb4.cell (by first | (simp; done) | exact World.block_lt_of_cell? _ _ (by assumption))]; assumption)))
              (first
                | (go_at_call 68; refine (C1.out _).mono ?_; rintro e wa ⟨rfl, ha4⟩)
                | (go_at_call 72; refine (C2.out _).mono ?_; rintro e wb ⟨rfl, hb4⟩))
            have B1 : Below w.heap.size w wa := (hnx.drew).trans (ha4.mono hnx.size)
            have B : Below w.heap.size w wb := B1.trans (hb4.mono B1.size)
            clear ha4 hb4 B1 hnx c0 c1 c2 p0 p1 p2
            go_wp2_with fail
            go_roundw
            case rel => exact ⟨j + 1 + 1, by omega, by go_num, HN, B⟩
            case measure => simp [intOf]; omega
    · have HF : Hid (graphOk ts = decide ((len : Int) ≤ 80)) := Lib.hid (by
        have := hok.out
        unfold graphOk
        rw [HT.out, show len = k from by omega, this, Bool.and_true]
        exact decide_eq_decide.2 (by omega))
      by_cases h80 : (len : Int) ≤ 80
      · go_wp2_with fail
        go_ret
        exact ⟨by rw [HF.out, decide_eq_true h80]; rfl, hnx⟩
      · go_wp2_with fail
        go_ret
        exact ⟨by rw [HF.out, decide_eq_false (by omega)]; rfl, hnx⟩
end Go.Proofs.YtnjphlaohihbaaaGreat
/- Slices of triples that the call owns: plain facts. -/
namespace Go.Proofs.YtnjphlaohihbaaaGreat
open Go.RowKit Go.WideShapes
theorem own3_snoc {B : Nat} {w : World} {v : Value} {ts : List Tri3} {t : Tri3} (h : w.ownsRow B 26 3 v (ts.length + 1) (flat ts ++ [.string t.1, .string t.2.1, .string t.2.2])) : OwnT B w v (ts ++ [t]) := by
  unfold OwnT; rw [flat_snoc, List.length_append]; exact h
theorem three_cell {w : World} {u v z : Value} {e : Nat} : ∀ (j : Nat) (x : Value), [u, v, z][j]? = some x → (w.alloc (.cells #[u, v, z] e)).cell? ((⟨w.heap.size, 0, none⟩ : Addr).add j) = some x := by
  intro j x hj
  match j, hj with
  | 0, hj => simp at hj; subst hj; simp [Addr.add]
  | 1, hj => simp at hj; subst hj; simp [Addr.add]
  | 2, hj => simp at hj; subst hj; simp [Addr.add]
theorem own_next {B : Nat} {w w' : World} {v : Value} {ts : List Tri3} (h : OwnT B w v ts) (hb : w.grownBy w' none) : OwnT B w' v ts := by
  refine World.ownsRow.kept h hb ?_
  cases v.ownBlock
  · exact .inl rfl
  · exact .inr (by simp)
theorem own_base {B B' : Nat} {w : World} {v : Value} {ts : List Tri3} (h : OwnT B w v ts) (hb : B' ≤ B) : OwnT B' w v ts := by
  refine ⟨h.1, h.2.imp id ?_⟩
  rintro ⟨g, c, cur, h1, h2, h3⟩
  exact ⟨g, c, cur, h1, by omega, h3⟩
end Go.Proofs.YtnjphlaohihbaaaGreat
/- The exact laws' own marks: their texts, and a slice of triples that is marked and looked at again. -/
namespace Go.Proofs.YtnjphlaohihbaaaGreat
open Go.RowKit Go.WideShapes
theorem graphOk_le {ts : List Tri3} (h : graphOk ts = true) : ts.length ≤ 80 := by
  unfold graphOk at h
  simp only [Bool.and_eq_true, decide_eq_true_eq] at h
  exact h.1
def dig (n : Nat) : List UInt8 := if _h : n = 0 then [] else dig (n / 10) ++ [UInt8.ofNat (48 + n % 10)]
termination_by n
decreasing_by omega
theorem dig_zero : dig 0 = [] := by unfold dig; simp
theorem dig_step {n : Nat} (h : 0 < n) : dig n = dig (n / 10) ++ [UInt8.ofNat (48 + n % 10)] := by
  conv => lhs; unfold dig
  rw [dif_neg (by omega)]
def mark (n : Nat) : ByteArray := bs (109 :: dig n)
theorem mark_text (o : ByteArray) : { data := #[109] } ++ o = bs (109 :: o.data.toList) := by
  apply bs_eq
  simp
set_option maxRecDepth 100000 in
set_option maxHeartbeats 1600000 in
theorem markText (n : Nat) (h0 : 0 < n) (h1 : n ≤ 8000000) (w : World) :
    Calls Tryz.prog 54 #[.int .i64 n] w fun e w' => e = .returned (.string (mark n)) ∧ Below w.heap.size w w' := by
  have h2 : ¬ (n : Int) ≤ 0 := by omega
  go_enter Tryz.func54, Tryz.ntmps54
  go_wp2_with fail
  go_loopw [0, 3] (fun k o wr => ∃ (m : Nat) (O : ByteArray), k = .int .i64 m ∧ o = .string O ∧ m + O.size ≤ n ∧ Hid (dig m ++ O.data.toList = dig n) ∧ Below w.heap.size w wr) (fun k _ _ => (intOf k).toNat)
  case atStart => exact ⟨n, ⟨#[]⟩, rfl, rfl, Nat.le_refl _, Lib.hid (by simp), Below.refl _ _⟩
  case round =>
    obtain ⟨m, O, rfl, rfl, hm, hd, hnx⟩ := hrel
    by_cases g : 0 < m
    · have g2 : (0 : Int) < (m : Int) := by omega
      have hcv := run_convert_bytes_arg (P := Tryz.prog) (wr.alloc (.cells #[.int .u8 (48 + (m : Int) % 10)] 5)) 22 5 Tryz.underlying22 Tryz.underlying5 wr.heap.size 0 1 1 [48 + (m : Int) % 10] rfl (fun i hi => by
        obtain rfl : i = 0 := by omega
        simp [List.getD]) 9 Tryz.underlying9
      obtain ⟨D, hD⟩ : ∃ D, strOfNums [48 + (m : Int) % 10] = D := ⟨_, rfl⟩
      rw [hD] at hcv
      have hDl : D.data.toList = [UInt8.ofNat (48 + m % 10)] := by
        rw [← hD]
        have e : (48 + (m : Int) % 10).toNat = 48 + m % 10 := by omega
        simp [strOfNums, e]
      have hDs : D.size = 1 := by rw [← size_len, hDl]; rfl
      have hO : O.size ≤ 8000000 := by omega
      have hDO : (D ++ O).size = O.size + 1 := by rw [ByteArray.size_append]; omega
      have HD : Hid (dig (m / 10) ++ (D ++ O).data.toList = dig n) := Lib.hid (by
        rw [← hd.out, dig_step g, ByteArray.data_append, Array.toList_append, hDl]; simp)
      have hq : ((m / 10 : Nat) : Int) = (m : Int) / 10 := by omega
      have B1 := hnx.alloc hnx.size (.cells #[.int .u8 (48 + (m : Int) % 10)] 5)
      clear hD hDl hd hnx
      go_wp2_with fail
      go_roundw
      case rel => exact ⟨m / 10, D ++ O, by rw [hq], rfl, by omega, HD, B1⟩
      case measure => simp [intOf]; omega
    · obtain rfl : m = 0 := by omega
      have HR : Hid ({ data := #[109] } ++ O = mark n) := Lib.hid (by have := hd.out; rw [dig_zero, List.nil_append] at this; rw [mark_text, this]; rfl)
      have hO : O.size ≤ 8000000 := by omega
      go_wp2_with fail
      go_ret
      exact ⟨by rw [← HR.out]; rfl, hnx⟩
def markT (i : Nat) : Tri3 := (mark (1 + 3 * i), mark (1 + 3 * i + 1), mark (1 + 3 * i + 2))
def marksT (n : Nat) : List Tri3 := (List.range n).map markT
theorem marksT_succ (n : Nat) : marksT (n + 1) = marksT n ++ [markT n] := by unfold marksT; rw [List.range_succ, List.map_append]; rfl
theorem marksT_len (n : Nat) : (marksT n).length = n := by simp [marksT]
theorem marksT_at {n i : Nat} (h : i < n) : (marksT n)[i]? = some (markT i) := by unfold marksT; rw [List.getElem?_map, List.getElem?_range h]; rfl
theorem grown_set {w w' : World} {g : Nat} (h : w.grownBy w' (some g)) (j : Nat) (u : Value) : w.grownBy (w'.setCell ⟨g, j, none⟩ u) (some g) := by
  refine ⟨h.os, h.tape, h.output, by have := h.size; simp [World.setCell]; omega, fun k hk hne => ?_⟩
  rw [Below.heap_setCell _ _ _ _ (by intro e; exact hne (by rw [e]))]
  exact h.block k hk hne
theorem grown_any {w w' : World} (h : w.grownBy w' none) (r : Option Nat) : w.grownBy w' r := ⟨h.os, h.tape, h.output, h.size, fun k hk _ => h.block k hk (by simp)⟩
theorem own_keep {B e g n c : Nat} {w w' : World} {xs : List Value} (h : w.ownsRow B e 3 (.slice (some ⟨g, 0, none⟩) n c) n xs) (hb : Below w.heap.size w w') : w'.ownsRow B e 3 (.slice (some ⟨g, 0, none⟩) n c) n xs := h.kept (grown_of_below hb) (.inr (by simp [Value.ownBlock]))
set_option maxRecDepth 100000 in
set_option maxHeartbeats 1600000 in
theorem markTriS (B : Nat) (v : Value) (ts : List Tri3) (w : World) (h : OwnT B w v ts) (hl : ts.length ≤ 80) :
    Calls Tryz.prog 55 #[v, .int .i64 1] w fun e w' => e = .returned (.int .i64 (1 + 3 * ts.length)) ∧ OwnT B w' v (marksT ts.length) ∧ w.grownBy w' v.ownBlock := by
  obtain ⟨n, hn⟩ : ∃ n, ts.length = n := ⟨_, rfl⟩
  have h0 := h
  rw [hn] at hl ⊢
  by_cases hz : n = 0
  · subst hz
    obtain rfl : ts = [] := List.length_eq_zero_iff.1 hn
    obtain ⟨a, c, rfl⟩ : ∃ a c, v = .slice a 0 c := by
      rcases h.2 with ⟨rfl, _⟩ | ⟨g, c, cur, rfl, _⟩
      · exact ⟨_, _, rfl⟩
      · exact ⟨_, _, rfl⟩
    go_enter Tryz.func55, Tryz.ntmps55
    go_wp2_with fail
    refine wp_loop_rounds 1 ?_
    rw [rounds_succ]
    go_wp2_with fail
    go_ret
    exact ⟨rfl, h0, World.grownBy.refl _ _⟩
  unfold OwnT at h
  rw [hn] at h
  obtain ⟨g, c, rfl⟩ : ∃ g c, v = .slice (some ⟨g, 0, none⟩) n c := by
    rcases h.2 with ⟨_, e⟩ | ⟨g, c, cur, rfl, _⟩
    · exact absurd e hz
    · exact ⟨g, c, rfl⟩
  have hg := (h.lt g (by simp [Value.ownBlock])).2
  have O0 := h
  obtain ⟨xs0, hxs⟩ : ∃ xs, flat ts = xs := ⟨_, rfl⟩
  rw [hxs] at O0
  clear h h0 hxs hn
  go_enter Tryz.func55, Tryz.ntmps55
  go_wp2_with fail
  go_loopw [1, 5] (fun q i wr => ∃ k : Nat, k ≤ n ∧ i = .int .i64 k ∧ q = .int .i64 ((1 + 3 * k : Nat) : Int) ∧ (∃ xs : List Value, wr.ownsRow B 26 3 (.slice (some ⟨g, 0, none⟩) n c) n xs ∧ Hid (xs.take (k * 3) = flat (marksT k))) ∧ w.grownBy wr (some g)) (fun _ i _ => n - (intOf i).toNat)
  case atStart => exact ⟨0, Nat.zero_le _, rfl, rfl, ⟨_, O0, Lib.hid (by simp [flat, marksT])⟩, World.grownBy.refl _ _⟩
  case round =>
    obtain ⟨k, hk, rfl, rfl, ⟨xs, hown, hx⟩, hnx⟩ := hrel
    by_cases hlt : k < n
    · have hk6 : (0 : Int) ≤ (k : Int) := by omega
      have hk7 : (k : Int) < (n : Int) := by omega
      have m0 := markText (1 + 3 * k) (by omega) (by omega)
      have m1 := markText (1 + 3 * k + 1) (by omega) (by omega)
      have m2 := markText (1 + 3 * k + 2) (by omega) (by omega)
      obtain ⟨q, hq⟩ : ∃ q : Nat, 1 + 3 * k = q := ⟨_, rfl⟩
      rw [hq] at m0 m1 m2
      have c1 : ((q + 1 : Nat) : Int) = (q : Int) + 1 := by omega
      have c2 : ((q + 2 : Nat) : Int) = (q : Int) + 1 + 1 := by omega
      rw [c1] at m1
      rw [c2] at m2
      have M0 := Lib.hid m0
      have M1 := Lib.hid m1
      have M2 := Lib.hid m2
      have hxl : xs.length = n * 3 := hown.1
      have HX : Hid ((((xs.set (k * 3) (.string (mark q))).set (k * 3 + 1) (.string (mark (q + 1)))).set (k * 3 + 2) (.string (mark (q + 2)))).take ((k + 1) * 3) = flat (marksT (k + 1))) := Lib.hid (by
        rw [marksT_succ, flat_snoc, ← hq]; exact set3 _ _ _ hx.out (by omega))
      clear m0 m1 m2 c1 c2
      rw [hq]
      have hqs : q ≤ 241 := by omega
      have hq3 : ((1 + 3 * (k + 1) : Nat) : Int) = (q : Int) + 1 + 1 + 1 := by omega
      clear hq
      go_wp2_with fail
      refine (M0.out _).mono ?_
      rintro e w1 ⟨rfl, hb1⟩
      have G1 := hnx.trans (grown_any (grown_of_below hb1) (some g))
      have P1 := own_keep hown hb1
      have e0 : w1.cell? ⟨g, k * 3, none⟩ = some (xs[k * 3]'(by omega)) := by rw [P1.cellAt _ (by omega), List.getElem?_eq_getElem (by omega)]
      have f0 := P1.frozenAt (k * 3)
      have P2 := (P1.stored (k * 3) (.string (mark q))).1
      have G2 := grown_set G1 (k * 3) (.string (mark q))
      generalize xs[k * 3]'(by omega) = z0 at e0
      clear hb1 hnx hown P1 G1
      go_wp2_with fail
      refine (M1.out _).mono ?_
      rintro e w2 ⟨rfl, hb2⟩
      have G3 := G2.trans (grown_any (grown_of_below hb2) (some g))
      have P3 := own_keep P2 hb2
      obtain ⟨ys, hys⟩ : ∃ ys, xs.set (k * 3) (.string (mark q)) = ys := ⟨_, rfl⟩
      rw [hys] at P3 HX
      have hyl : ys.length = n * 3 := P3.1
      have e1 : w2.cell? ⟨g, k * 3 + 1, none⟩ = some (ys[k * 3 + 1]'(by omega)) := by rw [P3.cellAt _ (by omega), List.getElem?_eq_getElem (by omega)]
      have f1 := P3.frozenAt (k * 3 + 1)
      have P4 := (P3.stored (k * 3 + 1) (.string (mark (q + 1)))).1
      have G4 := grown_set G3 (k * 3 + 1) (.string (mark (q + 1)))
      generalize ys[k * 3 + 1]'(by omega) = z1 at e1
      clear hb2 P2 P3 G2 G3 e0 f0 hys
      go_wp2_with fail
      refine (M2.out _).mono ?_
      rintro e w3 ⟨rfl, hb3⟩
      have G5 := G4.trans (grown_any (grown_of_below hb3) (some g))
      have P5 := own_keep P4 hb3
      obtain ⟨us, hus⟩ : ∃ us, ys.set (k * 3 + 1) (.string (mark (q + 1))) = us := ⟨_, rfl⟩
      rw [hus] at P5 HX
      have hul : us.length = n * 3 := P5.1
      have e2 : w3.cell? ⟨g, k * 3 + 2, none⟩ = some (us[k * 3 + 2]'(by omega)) := by rw [P5.cellAt _ (by omega), List.getElem?_eq_getElem (by omega)]
      have f2 := P5.frozenAt (k * 3 + 2)
      have P6 := (P5.stored (k * 3 + 2) (.string (mark (q + 2)))).1
      have G6 := grown_set G5 (k * 3 + 2) (.string (mark (q + 2)))
      generalize us[k * 3 + 2]'(by omega) = z2 at e2
      clear hb3 P4 P5 G4 G5 e1 f1 hus
      go_wp2_with fail
      go_roundw
      case rel => exact ⟨k + 1, by omega, by go_num, by rw [hq3], ⟨_, P6, HX⟩, G6⟩
      case measure => simp [intOf]; omega
    · obtain rfl : k = n := by omega
      have HX : Hid (xs = flat (marksT k)) := Lib.hid (by
        have := hx.out
        have hxl : xs.length = k * 3 := hown.1
        rwa [List.take_of_length_le (by rw [hxl]; omega)] at this)
      have hv : ((1 + 3 * k : Nat) : Int) = 1 + 3 * (k : Int) := by omega
      go_wp2_with fail
      go_ret
      refine ⟨by rw [← hv]; rfl, ?_, hnx⟩
      unfold OwnT
      rw [← HX.out, marksT_len]
      exact hown
end Go.Proofs.YtnjphlaohihbaaaGreat
