/- A query's text: the program, no alsos. -/
import Derived.Test.YthnpchcfjkepaaaG39
namespace Go.Proofs.Ythnpchcfjkepaaa
open Go.RowKit Go.WideShapes Go.Maps
set_option maxRecDepth 100000 in
set_option maxHeartbeats 12800000 in
theorem implQueryTextA (a0 a1 a2 : Option Addr) (n0 n1 n2 c0 c1 c2 : Nat) (vs : List ByteArray) (t1 t2 : List Tri3) (w : World) (h : IsQry w a0 a1 a2 n0 n1 n2 c0 c1 c2 vs t1 t2) (hvz : ∀ x ∈ vs, x.size ≤ 1048576) (h1 : Sm t1) (h2 : Sm t2) (l0 : n0 ≤ 1048576) (hk : queryOk vs t1 t2 = true) (hn2 : t2.length = 0) :
    Calls Try.prog 21 #[.agg #[.slice a0 n0 c0, .slice a1 n1 c1, .slice a2 n2 c2]] w fun e w' => e = .returned (.string (bs (queryTx vs t1 t2))) ∧ Below w.heap.size w w' := by
  have B0 := Lib.hid ((Below.refl w.heap.size w).alloc (Nat.le_refl _) (.cells #[.slice a0 n0 c0, .slice a1 n1 c1, .slice a2 n2 c2] 43))
  have X0 := Lib.hid (cells_new w #[.slice a0 n0 c0, .slice a1 n1 c1, .slice a2 n2 c2] 43)
  have I0 := Lib.hid (h.next ((Below.refl w.heap.size w).alloc (Nat.le_refl _) (.cells #[.slice a0 n0 c0, .slice a1 n1 c1, .slice a2 n2 c2] 43)))
  have HV := Lib.hid h.1.1.len
  have HT1 := Lib.hid h.2.1.len
  have HT2 := Lib.hid h.2.2.len
  have HS1 := Lib.hid h1
  have HS2 := Lib.hid h2
  obtain ⟨q, hq⟩ : ∃ q, queryTx vs t1 t2 = q := ⟨_, rfl⟩
  rw [hq]
  unfold queryTx at hq
  have C1 := fun (W : World) (hi : IsQry W a0 a1 a2 n0 n1 n2 c0 c1 c2 vs t1 t2) => implQueryOk a0 a1 a2 n0 n1 n2 c0 c1 c2 vs t1 t2 W hi HS1.out HS2.out l0
  rw [hk] at C1 hq
  have D1 := Lib.hid C1
  have HMO := Lib.hid (queryTx_most hk hvz h1 h2)
  have HLW := Lib.hid (qWords_len hk)
  obtain ⟨_, hb1, hb2, _, h4⟩ := queryOk_vs hk
  have hl1 : n1 ≤ 4 := by unfold bgpOk at hb1; simp only [Bool.and_eq_true, decide_eq_true_eq] at hb1; have := hb1.1; have := HT1.out; omega
  have hl2 : n2 ≤ 4 := by unfold bgpOk at hb2; simp only [Bool.and_eq_true, decide_eq_true_eq] at hb2; have := hb2.1; have := HT2.out; omega
  have hl0 : n0 ≤ 4 := by have := HV.out; omega
  have HQ : Hid (Lib.join ((qWords vs t1 t2).map (·.data.toList)) [32] = q) := Lib.hid hq
  clear C1 hq h h1 h2 hvz hk hb1 hb2 h4
  have hz2 := Lib.hid hn2
  rw [HT2.out] at hn2
  have hpos : ¬ (0 : Int) < (n2 : Int) := by omega
  clear hn2
  have HW : Hid (Lib.join (([selB] ++ vs ++ [wheB] ++ t1.map patB).map (·.data.toList)) [32] = q) := Lib.hid (by rw [← HQ.out]; unfold qWords alsoW; rw [if_pos hz2.out, List.append_nil])
  go_enter Try.func21, Try.ntmps21
  obtain ⟨v, u, z⟩ := X0.out.now.tre
  go_wp2_with fail
  refine (D1.out _ I0.out).mono ?_
  rintro e w1 ⟨rfl, hb⟩
  have B1 := Lib.hid (B0.out.trans (hb.mono B0.out.size))
  have X1 := Lib.hid (X0.out.next hb)
  have I1 := Lib.hid (I0.out.next hb)
  clear hb B0 X0 I0
  clear v u z D1
  go_wp2_with fail
  have hb : Below w1.heap.size w1 w1.drew := (Below.refl _ _).drew
  have B2 := Lib.hid B1.out.drew
  have X2 := Lib.hid (X1.out.next hb)
  have I2 := Lib.hid (I1.out.next hb)
  clear hb B1 X1 I1
  refine wp_region_held_drew (S := (fun w' => w'.cell? ⟨w.heap.size, 0, none⟩ = some (.slice a0 n0 c0) ∧ w'.cell? ⟨w.heap.size, 1, none⟩ = some (.slice a1 n1 c1) ∧ w'.cell? ⟨w.heap.size, 2, none⟩ = some (.slice a2 n2 c2))) (by kernel_rfl) ?_ (fun hHeld => ?_)
  · exact X2.out.now.tre
  generalize World.drew w1 = V0 at B2 X2 I2 hHeld ⊢
  refine wpAnyH_take (i := 1) (v := ?_) rfl (by kernel_rfl) (by kernel_rfl) (by kernel_rfl) (fun _ _ _ h => h) (Or.inl ⟨by kernel_rfl, ?_⟩) (by assumption) ?_
  rotate_left
  · intro w hSw; (try dsimp only at hSw); go_simp; try with_reducible rfl
  refine wpAnyH_take (i := 2) (v := ?_) rfl (by kernel_rfl) (by kernel_rfl) (by kernel_rfl) (fun _ _ _ h => h) (Or.inl ⟨by kernel_rfl, ?_⟩) (by assumption) ?_
  rotate_left
  · intro w hSw; (try dsimp only at hSw); go_simp; try with_reducible rfl
  refine wpAnyH_take (i := 4) (v := ?_) rfl (by kernel_rfl) (by kernel_rfl) (by kernel_rfl) (fun _ _ _ h => h) (Or.inl ⟨by kernel_rfl, ?_⟩) (by assumption) ?_
  rotate_left
  · intro w hSw; (try dsimp only at hSw); go_simp; try with_reducible rfl
  refine wpAnyH_take (i := 5) (v := ?_) rfl (by kernel_rfl) (by kernel_rfl) (by kernel_rfl) (fun _ _ _ h => h) (Or.inl ⟨by kernel_rfl, ?_⟩) (by assumption) ?_
  rotate_left
  · intro w hSw; (try dsimp only at hSw); go_simp; try with_reducible rfl
  refine wpAnyH_ready (rs := [0, 3, 6]) (by kernel_rfl) (by simp) ?_
  refine (AllReadyH.cons rfl (fun K hK => ?_) (AllReadyH.cons rfl (fun K hK => ?_) (AllReadyH.cons rfl (fun K hK => ?_) AllReadyH.nil)))
  · go_simp
    clear hHeld
    refine hK.out _ _ ?_ (fun hHeld => ?_)
    · exact (X2.out.alloc _).now.tre
    clear hK K
    have hb := (Below.refl (V0).heap.size (V0)).alloc (Nat.le_refl _) (.cells #[.string ⟨#[115, 101, 108, 101, 99, 116]⟩] 9)
    have B3 := Lib.hid (B2.out.alloc B2.out.size (.cells #[.string ⟨#[115, 101, 108, 101, 99, 116]⟩] 9))
    have X3 := Lib.hid (X2.out.next hb)
    have I3 := Lib.hid (I2.out.next hb)
    clear hb B2 X2 I2
    have L3 := Lib.hid (cells_new V0 #[.string ⟨#[115, 101, 108, 101, 99, 116]⟩] 9)
    generalize V0.alloc (.cells #[.string ⟨#[115, 101, 108, 101, 99, 116]⟩] 9) = V3 at B3 X3 I3 L3 hHeld ⊢
    refine wpAnyH_ready (rs := [3, 6]) (by kernel_rfl) (by simp) ?_
    refine (AllReadyH.cons rfl (fun K hK => ?_) (AllReadyH.cons rfl (fun K hK => ?_) AllReadyH.nil))
    · go_simp
      clear hHeld
      refine hK.out _ _ ?_ (fun hHeld => ?_)
      · exact (X3.out.alloc _).now.tre
      clear hK K
      have hb := (Below.refl (V3).heap.size (V3)).alloc (Nat.le_refl _) (.cells #[.string ⟨#[119, 104, 101, 114, 101]⟩] 9)
      have B4 := Lib.hid (B3.out.alloc B3.out.size (.cells #[.string ⟨#[119, 104, 101, 114, 101]⟩] 9))
      have X4 := Lib.hid (X3.out.next hb)
      have I4 := Lib.hid (I3.out.next hb)
      have L4 := Lib.hid (L3.out.next hb)
      clear hb B3 X3 I3 L3
      have M4 := Lib.hid (cells_new V3 #[.string ⟨#[119, 104, 101, 114, 101]⟩] 9)
      generalize V3.alloc (.cells #[.string ⟨#[119, 104, 101, 114, 101]⟩] 9) = V4 at B4 X4 I4 L4 M4 hHeld ⊢
      refine wpAnyH_ready (rs := [6]) (by kernel_rfl) (by simp) ?_
      refine (AllReadyH.cons rfl (fun K hK => ?_) AllReadyH.nil)
      go_simp
      refine (implPointedAll a1 n1 c1 t1 _ I4.out.2.1 HS1.out hl1).mono ?_
      rintro e w5 ⟨pv, rfl, po, hb⟩
      have B5 := Lib.hid (B4.out.trans (hb.mono B4.out.size))
      have X5 := Lib.hid (X4.out.next hb)
      have I5 := Lib.hid (I4.out.next hb)
      have L5 := Lib.hid (L4.out.next hb)
      have M5 := Lib.hid (M4.out.next hb)
      clear hb B4 X4 I4 L4 M4
      obtain ⟨pa, pc, rfl, ip⟩ := po.is
      have hp4 : (t1.map patB).length = n1 := by rw [List.length_map, HT1.out]
      rw [hp4] at ip ⊢
      clear po hp4
      have P5 := Lib.hid ip
      clear ip
      go_wp2_with fail
      clear hHeld
      refine hK.out _ _ ?_ (fun hHeld => ?_)
      · exact X5.out.now.tre
      clear hK K
      refine wpAnyH_ready (rs := [7]) (by kernel_rfl) (by simp) ?_
      refine (AllReadyH.cons rfl (fun K hK => ?_) AllReadyH.nil)
      go_simp
      clear hHeld
      refine hK.out _ _ ?_ (fun hHeld => ?_)
      · exact (X5.out.alloc _).now.tre
      clear hK K
      have hb := (Below.refl (w5).heap.size (w5)).alloc (Nat.le_refl _) (.cells #[.slice (some ⟨V0.heap.size, 0, none⟩) 1 1, .slice a0 n0 c0, .slice (some ⟨V3.heap.size, 0, none⟩) 1 1, .slice pa n1 pc] 36)
      have B6 := Lib.hid (B5.out.alloc B5.out.size (.cells #[.slice (some ⟨V0.heap.size, 0, none⟩) 1 1, .slice a0 n0 c0, .slice (some ⟨V3.heap.size, 0, none⟩) 1 1, .slice pa n1 pc] 36))
      have X6 := Lib.hid (X5.out.next hb)
      have I6 := Lib.hid (I5.out.next hb)
      have L6 := Lib.hid (L5.out.next hb)
      have M6 := Lib.hid (M5.out.next hb)
      have P6 := Lib.hid (P5.out.next hb)
      clear hb B5 X5 I5 L5 M5 P5
      have N6 := Lib.hid (cells_new w5 #[.slice (some ⟨V0.heap.size, 0, none⟩) 1 1, .slice a0 n0 c0, .slice (some ⟨V3.heap.size, 0, none⟩) 1 1, .slice pa n1 pc] 36)
      generalize w5.alloc (.cells #[.slice (some ⟨V0.heap.size, 0, none⟩) 1 1, .slice a0 n0 c0, .slice (some ⟨V3.heap.size, 0, none⟩) 1 1, .slice pa n1 pc] 36) = V6 at B6 X6 I6 L6 M6 P6 N6 hHeld ⊢
      refine wpAnyH_ready (rs := [8]) (by kernel_rfl) (by simp) ?_
      refine (AllReadyH.cons rfl (fun K hK => ?_) AllReadyH.nil)
      go_simp
      refine (implConcat _ 4 [(some ⟨V0.heap.size, 0, none⟩, 1, 1, [selB]), (a0, n0, c0, vs), (some ⟨V3.heap.size, 0, none⟩, 1, 1, [wheB]), (pa, n1, pc, t1.map patB)] _ rfl (Nat.lt_of_lt_of_le (Nat.lt_succ_self _) N6.out.le) (by omega) (by simp [catB, HV.out, HT1.out]; omega) (fun i x hx => by
    have hi := (List.getElem?_eq_some_iff.1 hx).1
    simp only [List.length_cons, List.length_nil] at hi
    obtain rfl | rfl | rfl | rfl : i = 0 ∨ i = 1 ∨ i = 2 ∨ i = 3 := by omega
    · obtain rfl := Option.some.inj hx; exact ⟨(N6.out.now.at 0), isStr_one (L6.out.now.at 0)⟩
    · obtain rfl := Option.some.inj hx; exact ⟨(N6.out.now.at 1), I6.out.1.1⟩
    · obtain rfl := Option.some.inj hx; exact ⟨(N6.out.now.at 2), isStr_one (M6.out.now.at 0)⟩
    · obtain rfl := Option.some.inj hx; exact ⟨(N6.out.now.at 3), P6.out⟩)).mono ?_
      rintro e w7 ⟨rv, rfl, ro, hb⟩
      have B7 := Lib.hid (B6.out.trans (hb.mono B6.out.size))
      have X7 := Lib.hid (X6.out.next hb)
      have I7 := Lib.hid (I6.out.next hb)
      have L7 := Lib.hid (L6.out.next hb)
      have M7 := Lib.hid (M6.out.next hb)
      have P7 := Lib.hid (P6.out.next hb)
      have N7 := Lib.hid (N6.out.next hb)
      clear hb B6 X6 I6 L6 M6 P6 N6
      have ro2 := ro
      rw [show catB _ = [selB] ++ vs ++ [wheB] ++ t1.map patB from by simp [catB]] at ro2
      clear ro
      have R7 := Lib.hid ro2
      clear ro2
      clear L7
      clear M7
      clear N7
      clear P7
      go_wp2_with fail
      clear hHeld
      refine hK.out _ _ ?_ (fun hHeld => ?_)
      · exact X7.out.now.tre
      clear hK K
      refine wpAnyH_take (i := 9) (v := ?_) rfl (by kernel_rfl) (by kernel_rfl) (by kernel_rfl) (fun _ _ _ h => h) (Or.inl ⟨by kernel_rfl, ?_⟩) (by assumption) ?_
      rotate_left
      · intro w hSw; (try dsimp only at hSw); go_simp; try with_reducible rfl
      refine wpAnyH_done (by kernel_rfl) ?_ _
      try simp only [Act.put, List.setIfInBounds_toArray, List.set_cons_zero, List.set_cons_succ, List.getElem_toArray, List.getElem_cons_zero, List.getElem_cons_succ]
      clear hHeld
      obtain ⟨v, u, z⟩ := X7.out.now.tre
      have JN := Lib.hid (implJoinS (ts := [selB] ++ vs ++ [wheB] ++ t1.map patB) R7.out (by simp) (by have := HLW.out; unfold qWords alsoW at this; rw [if_pos hz2.out, List.append_nil] at this; omega) (by have := HMO.out; unfold qWords alsoW at this; rw [if_pos hz2.out, List.append_nil] at this; omega))
      rw [HW.out] at JN
      clear R7
      go_wp2_with fail
      refine (JN.out).mono ?_
      rintro e w8 ⟨rfl, hb⟩
      have B8 := Lib.hid (B7.out.trans (hb.mono B7.out.size))
      have X8 := Lib.hid (X7.out.next hb)
      have I8 := Lib.hid (I7.out.next hb)
      clear hb B7 X7 I7
      clear v u z
      go_wp2_with fail
      go_ret
      exact ⟨rfl, B8.out⟩
    · go_simp
      refine (implPointedAll a1 n1 c1 t1 _ I3.out.2.1 HS1.out hl1).mono ?_
      rintro e w4 ⟨pv, rfl, po, hb⟩
      have B4 := Lib.hid (B3.out.trans (hb.mono B3.out.size))
      have X4 := Lib.hid (X3.out.next hb)
      have I4 := Lib.hid (I3.out.next hb)
      have L4 := Lib.hid (L3.out.next hb)
      clear hb B3 X3 I3 L3
      obtain ⟨pa, pc, rfl, ip⟩ := po.is
      have hp4 : (t1.map patB).length = n1 := by rw [List.length_map, HT1.out]
      rw [hp4] at ip ⊢
      clear po hp4
      have P4 := Lib.hid ip
      clear ip
      go_wp2_with fail
      clear hHeld
      refine hK.out _ _ ?_ (fun hHeld => ?_)
      · exact X4.out.now.tre
      clear hK K
      refine wpAnyH_ready (rs := [3]) (by kernel_rfl) (by simp) ?_
      refine (AllReadyH.cons rfl (fun K hK => ?_) AllReadyH.nil)
      go_simp
      clear hHeld
      refine hK.out _ _ ?_ (fun hHeld => ?_)
      · exact (X4.out.alloc _).now.tre
      clear hK K
      have hb := (Below.refl (w4).heap.size (w4)).alloc (Nat.le_refl _) (.cells #[.string ⟨#[119, 104, 101, 114, 101]⟩] 9)
      have B5 := Lib.hid (B4.out.alloc B4.out.size (.cells #[.string ⟨#[119, 104, 101, 114, 101]⟩] 9))
      have X5 := Lib.hid (X4.out.next hb)
      have I5 := Lib.hid (I4.out.next hb)
      have L5 := Lib.hid (L4.out.next hb)
      have P5 := Lib.hid (P4.out.next hb)
      clear hb B4 X4 I4 L4 P4
      have M5 := Lib.hid (cells_new w4 #[.string ⟨#[119, 104, 101, 114, 101]⟩] 9)
      generalize w4.alloc (.cells #[.string ⟨#[119, 104, 101, 114, 101]⟩] 9) = V5 at B5 X5 I5 L5 P5 M5 hHeld ⊢
      refine wpAnyH_ready (rs := [7]) (by kernel_rfl) (by simp) ?_
      refine (AllReadyH.cons rfl (fun K hK => ?_) AllReadyH.nil)
      go_simp
      clear hHeld
      refine hK.out _ _ ?_ (fun hHeld => ?_)
      · exact (X5.out.alloc _).now.tre
      clear hK K
      have hb := (Below.refl (V5).heap.size (V5)).alloc (Nat.le_refl _) (.cells #[.slice (some ⟨V0.heap.size, 0, none⟩) 1 1, .slice a0 n0 c0, .slice (some ⟨w4.heap.size, 0, none⟩) 1 1, .slice pa n1 pc] 36)
      have B6 := Lib.hid (B5.out.alloc B5.out.size (.cells #[.slice (some ⟨V0.heap.size, 0, none⟩) 1 1, .slice a0 n0 c0, .slice (some ⟨w4.heap.size, 0, none⟩) 1 1, .slice pa n1 pc] 36))
      have X6 := Lib.hid (X5.out.next hb)
      have I6 := Lib.hid (I5.out.next hb)
      have L6 := Lib.hid (L5.out.next hb)
      have P6 := Lib.hid (P5.out.next hb)
      have M6 := Lib.hid (M5.out.next hb)
      clear hb B5 X5 I5 L5 P5 M5
      have N6 := Lib.hid (cells_new V5 #[.slice (some ⟨V0.heap.size, 0, none⟩) 1 1, .slice a0 n0 c0, .slice (some ⟨w4.heap.size, 0, none⟩) 1 1, .slice pa n1 pc] 36)
      generalize V5.alloc (.cells #[.slice (some ⟨V0.heap.size, 0, none⟩) 1 1, .slice a0 n0 c0, .slice (some ⟨w4.heap.size, 0, none⟩) 1 1, .slice pa n1 pc] 36) = V6 at B6 X6 I6 L6 P6 M6 N6 hHeld ⊢
      refine wpAnyH_ready (rs := [8]) (by kernel_rfl) (by simp) ?_
      refine (AllReadyH.cons rfl (fun K hK => ?_) AllReadyH.nil)
      go_simp
      refine (implConcat _ 4 [(some ⟨V0.heap.size, 0, none⟩, 1, 1, [selB]), (a0, n0, c0, vs), (some ⟨w4.heap.size, 0, none⟩, 1, 1, [wheB]), (pa, n1, pc, t1.map patB)] _ rfl (Nat.lt_of_lt_of_le (Nat.lt_succ_self _) N6.out.le) (by omega) (by simp [catB, HV.out, HT1.out]; omega) (fun i x hx => by
    have hi := (List.getElem?_eq_some_iff.1 hx).1
    simp only [List.length_cons, List.length_nil] at hi
    obtain rfl | rfl | rfl | rfl : i = 0 ∨ i = 1 ∨ i = 2 ∨ i = 3 := by omega
    · obtain rfl := Option.some.inj hx; exact ⟨(N6.out.now.at 0), isStr_one (L6.out.now.at 0)⟩
    · obtain rfl := Option.some.inj hx; exact ⟨(N6.out.now.at 1), I6.out.1.1⟩
    · obtain rfl := Option.some.inj hx; exact ⟨(N6.out.now.at 2), isStr_one (M6.out.now.at 0)⟩
    · obtain rfl := Option.some.inj hx; exact ⟨(N6.out.now.at 3), P6.out⟩)).mono ?_
      rintro e w7 ⟨rv, rfl, ro, hb⟩
      have B7 := Lib.hid (B6.out.trans (hb.mono B6.out.size))
      have X7 := Lib.hid (X6.out.next hb)
      have I7 := Lib.hid (I6.out.next hb)
      have L7 := Lib.hid (L6.out.next hb)
      have P7 := Lib.hid (P6.out.next hb)
      have M7 := Lib.hid (M6.out.next hb)
      have N7 := Lib.hid (N6.out.next hb)
      clear hb B6 X6 I6 L6 P6 M6 N6
      have ro2 := ro
      rw [show catB _ = [selB] ++ vs ++ [wheB] ++ t1.map patB from by simp [catB]] at ro2
      clear ro
      have R7 := Lib.hid ro2
      clear ro2
      clear L7
      clear M7
      clear N7
      clear P7
      go_wp2_with fail
      clear hHeld
      refine hK.out _ _ ?_ (fun hHeld => ?_)
      · exact X7.out.now.tre
      clear hK K
      refine wpAnyH_take (i := 9) (v := ?_) rfl (by kernel_rfl) (by kernel_rfl) (by kernel_rfl) (fun _ _ _ h => h) (Or.inl ⟨by kernel_rfl, ?_⟩) (by assumption) ?_
      rotate_left
      · intro w hSw; (try dsimp only at hSw); go_simp; try with_reducible rfl
      refine wpAnyH_done (by kernel_rfl) ?_ _
      try simp only [Act.put, List.setIfInBounds_toArray, List.set_cons_zero, List.set_cons_succ, List.getElem_toArray, List.getElem_cons_zero, List.getElem_cons_succ]
      clear hHeld
      obtain ⟨v, u, z⟩ := X7.out.now.tre
      have JN := Lib.hid (implJoinS (ts := [selB] ++ vs ++ [wheB] ++ t1.map patB) R7.out (by simp) (by have := HLW.out; unfold qWords alsoW at this; rw [if_pos hz2.out, List.append_nil] at this; omega) (by have := HMO.out; unfold qWords alsoW at this; rw [if_pos hz2.out, List.append_nil] at this; omega))
      rw [HW.out] at JN
      clear R7
      go_wp2_with fail
      refine (JN.out).mono ?_
      rintro e w8 ⟨rfl, hb⟩
      have B8 := Lib.hid (B7.out.trans (hb.mono B7.out.size))
      have X8 := Lib.hid (X7.out.next hb)
      have I8 := Lib.hid (I7.out.next hb)
      clear hb B7 X7 I7
      clear v u z
      go_wp2_with fail
      go_ret
      exact ⟨rfl, B8.out⟩
  · go_simp
    clear hHeld
    refine hK.out _ _ ?_ (fun hHeld => ?_)
    · exact (X2.out.alloc _).now.tre
    clear hK K
    have hb := (Below.refl (V0).heap.size (V0)).alloc (Nat.le_refl _) (.cells #[.string ⟨#[119, 104, 101, 114, 101]⟩] 9)
    have B3 := Lib.hid (B2.out.alloc B2.out.size (.cells #[.string ⟨#[119, 104, 101, 114, 101]⟩] 9))
    have X3 := Lib.hid (X2.out.next hb)
    have I3 := Lib.hid (I2.out.next hb)
    clear hb B2 X2 I2
    have M3 := Lib.hid (cells_new V0 #[.string ⟨#[119, 104, 101, 114, 101]⟩] 9)
    generalize V0.alloc (.cells #[.string ⟨#[119, 104, 101, 114, 101]⟩] 9) = V3 at B3 X3 I3 M3 hHeld ⊢
    refine wpAnyH_ready (rs := [0, 6]) (by kernel_rfl) (by simp) ?_
    refine (AllReadyH.cons rfl (fun K hK => ?_) (AllReadyH.cons rfl (fun K hK => ?_) AllReadyH.nil))
    · go_simp
      clear hHeld
      refine hK.out _ _ ?_ (fun hHeld => ?_)
      · exact (X3.out.alloc _).now.tre
      clear hK K
      have hb := (Below.refl (V3).heap.size (V3)).alloc (Nat.le_refl _) (.cells #[.string ⟨#[115, 101, 108, 101, 99, 116]⟩] 9)
      have B4 := Lib.hid (B3.out.alloc B3.out.size (.cells #[.string ⟨#[115, 101, 108, 101, 99, 116]⟩] 9))
      have X4 := Lib.hid (X3.out.next hb)
      have I4 := Lib.hid (I3.out.next hb)
      have M4 := Lib.hid (M3.out.next hb)
      clear hb B3 X3 I3 M3
      have L4 := Lib.hid (cells_new V3 #[.string ⟨#[115, 101, 108, 101, 99, 116]⟩] 9)
      generalize V3.alloc (.cells #[.string ⟨#[115, 101, 108, 101, 99, 116]⟩] 9) = V4 at B4 X4 I4 M4 L4 hHeld ⊢
      refine wpAnyH_ready (rs := [6]) (by kernel_rfl) (by simp) ?_
      refine (AllReadyH.cons rfl (fun K hK => ?_) AllReadyH.nil)
      go_simp
      refine (implPointedAll a1 n1 c1 t1 _ I4.out.2.1 HS1.out hl1).mono ?_
      rintro e w5 ⟨pv, rfl, po, hb⟩
      have B5 := Lib.hid (B4.out.trans (hb.mono B4.out.size))
      have X5 := Lib.hid (X4.out.next hb)
      have I5 := Lib.hid (I4.out.next hb)
      have M5 := Lib.hid (M4.out.next hb)
      have L5 := Lib.hid (L4.out.next hb)
      clear hb B4 X4 I4 M4 L4
      obtain ⟨pa, pc, rfl, ip⟩ := po.is
      have hp4 : (t1.map patB).length = n1 := by rw [List.length_map, HT1.out]
      rw [hp4] at ip ⊢
      clear po hp4
      have P5 := Lib.hid ip
      clear ip
      go_wp2_with fail
      clear hHeld
      refine hK.out _ _ ?_ (fun hHeld => ?_)
      · exact X5.out.now.tre
      clear hK K
      refine wpAnyH_ready (rs := [7]) (by kernel_rfl) (by simp) ?_
      refine (AllReadyH.cons rfl (fun K hK => ?_) AllReadyH.nil)
      go_simp
      clear hHeld
      refine hK.out _ _ ?_ (fun hHeld => ?_)
      · exact (X5.out.alloc _).now.tre
      clear hK K
      have hb := (Below.refl (w5).heap.size (w5)).alloc (Nat.le_refl _) (.cells #[.slice (some ⟨V3.heap.size, 0, none⟩) 1 1, .slice a0 n0 c0, .slice (some ⟨V0.heap.size, 0, none⟩) 1 1, .slice pa n1 pc] 36)
      have B6 := Lib.hid (B5.out.alloc B5.out.size (.cells #[.slice (some ⟨V3.heap.size, 0, none⟩) 1 1, .slice a0 n0 c0, .slice (some ⟨V0.heap.size, 0, none⟩) 1 1, .slice pa n1 pc] 36))
      have X6 := Lib.hid (X5.out.next hb)
      have I6 := Lib.hid (I5.out.next hb)
      have M6 := Lib.hid (M5.out.next hb)
      have L6 := Lib.hid (L5.out.next hb)
      have P6 := Lib.hid (P5.out.next hb)
      clear hb B5 X5 I5 M5 L5 P5
      have N6 := Lib.hid (cells_new w5 #[.slice (some ⟨V3.heap.size, 0, none⟩) 1 1, .slice a0 n0 c0, .slice (some ⟨V0.heap.size, 0, none⟩) 1 1, .slice pa n1 pc] 36)
      generalize w5.alloc (.cells #[.slice (some ⟨V3.heap.size, 0, none⟩) 1 1, .slice a0 n0 c0, .slice (some ⟨V0.heap.size, 0, none⟩) 1 1, .slice pa n1 pc] 36) = V6 at B6 X6 I6 M6 L6 P6 N6 hHeld ⊢
      refine wpAnyH_ready (rs := [8]) (by kernel_rfl) (by simp) ?_
      refine (AllReadyH.cons rfl (fun K hK => ?_) AllReadyH.nil)
      go_simp
      refine (implConcat _ 4 [(some ⟨V3.heap.size, 0, none⟩, 1, 1, [selB]), (a0, n0, c0, vs), (some ⟨V0.heap.size, 0, none⟩, 1, 1, [wheB]), (pa, n1, pc, t1.map patB)] _ rfl (Nat.lt_of_lt_of_le (Nat.lt_succ_self _) N6.out.le) (by omega) (by simp [catB, HV.out, HT1.out]; omega) (fun i x hx => by
    have hi := (List.getElem?_eq_some_iff.1 hx).1
    simp only [List.length_cons, List.length_nil] at hi
    obtain rfl | rfl | rfl | rfl : i = 0 ∨ i = 1 ∨ i = 2 ∨ i = 3 := by omega
    · obtain rfl := Option.some.inj hx; exact ⟨(N6.out.now.at 0), isStr_one (L6.out.now.at 0)⟩
    · obtain rfl := Option.some.inj hx; exact ⟨(N6.out.now.at 1), I6.out.1.1⟩
    · obtain rfl := Option.some.inj hx; exact ⟨(N6.out.now.at 2), isStr_one (M6.out.now.at 0)⟩
    · obtain rfl := Option.some.inj hx; exact ⟨(N6.out.now.at 3), P6.out⟩)).mono ?_
      rintro e w7 ⟨rv, rfl, ro, hb⟩
      have B7 := Lib.hid (B6.out.trans (hb.mono B6.out.size))
      have X7 := Lib.hid (X6.out.next hb)
      have I7 := Lib.hid (I6.out.next hb)
      have M7 := Lib.hid (M6.out.next hb)
      have L7 := Lib.hid (L6.out.next hb)
      have P7 := Lib.hid (P6.out.next hb)
      have N7 := Lib.hid (N6.out.next hb)
      clear hb B6 X6 I6 M6 L6 P6 N6
      have ro2 := ro
      rw [show catB _ = [selB] ++ vs ++ [wheB] ++ t1.map patB from by simp [catB]] at ro2
      clear ro
      have R7 := Lib.hid ro2
      clear ro2
      clear L7
      clear M7
      clear N7
      clear P7
      go_wp2_with fail
      clear hHeld
      refine hK.out _ _ ?_ (fun hHeld => ?_)
      · exact X7.out.now.tre
      clear hK K
      refine wpAnyH_take (i := 9) (v := ?_) rfl (by kernel_rfl) (by kernel_rfl) (by kernel_rfl) (fun _ _ _ h => h) (Or.inl ⟨by kernel_rfl, ?_⟩) (by assumption) ?_
      rotate_left
      · intro w hSw; (try dsimp only at hSw); go_simp; try with_reducible rfl
      refine wpAnyH_done (by kernel_rfl) ?_ _
      try simp only [Act.put, List.setIfInBounds_toArray, List.set_cons_zero, List.set_cons_succ, List.getElem_toArray, List.getElem_cons_zero, List.getElem_cons_succ]
      clear hHeld
      obtain ⟨v, u, z⟩ := X7.out.now.tre
      have JN := Lib.hid (implJoinS (ts := [selB] ++ vs ++ [wheB] ++ t1.map patB) R7.out (by simp) (by have := HLW.out; unfold qWords alsoW at this; rw [if_pos hz2.out, List.append_nil] at this; omega) (by have := HMO.out; unfold qWords alsoW at this; rw [if_pos hz2.out, List.append_nil] at this; omega))
      rw [HW.out] at JN
      clear R7
      go_wp2_with fail
      refine (JN.out).mono ?_
      rintro e w8 ⟨rfl, hb⟩
      have B8 := Lib.hid (B7.out.trans (hb.mono B7.out.size))
      have X8 := Lib.hid (X7.out.next hb)
      have I8 := Lib.hid (I7.out.next hb)
      clear hb B7 X7 I7
      clear v u z
      go_wp2_with fail
      go_ret
      exact ⟨rfl, B8.out⟩
    · go_simp
      refine (implPointedAll a1 n1 c1 t1 _ I3.out.2.1 HS1.out hl1).mono ?_
      rintro e w4 ⟨pv, rfl, po, hb⟩
      have B4 := Lib.hid (B3.out.trans (hb.mono B3.out.size))
      have X4 := Lib.hid (X3.out.next hb)
      have I4 := Lib.hid (I3.out.next hb)
      have M4 := Lib.hid (M3.out.next hb)
      clear hb B3 X3 I3 M3
      obtain ⟨pa, pc, rfl, ip⟩ := po.is
      have hp4 : (t1.map patB).length = n1 := by rw [List.length_map, HT1.out]
      rw [hp4] at ip ⊢
      clear po hp4
      have P4 := Lib.hid ip
      clear ip
      go_wp2_with fail
      clear hHeld
      refine hK.out _ _ ?_ (fun hHeld => ?_)
      · exact X4.out.now.tre
      clear hK K
      refine wpAnyH_ready (rs := [0]) (by kernel_rfl) (by simp) ?_
      refine (AllReadyH.cons rfl (fun K hK => ?_) AllReadyH.nil)
      go_simp
      clear hHeld
      refine hK.out _ _ ?_ (fun hHeld => ?_)
      · exact (X4.out.alloc _).now.tre
      clear hK K
      have hb := (Below.refl (w4).heap.size (w4)).alloc (Nat.le_refl _) (.cells #[.string ⟨#[115, 101, 108, 101, 99, 116]⟩] 9)
      have B5 := Lib.hid (B4.out.alloc B4.out.size (.cells #[.string ⟨#[115, 101, 108, 101, 99, 116]⟩] 9))
      have X5 := Lib.hid (X4.out.next hb)
      have I5 := Lib.hid (I4.out.next hb)
      have M5 := Lib.hid (M4.out.next hb)
      have P5 := Lib.hid (P4.out.next hb)
      clear hb B4 X4 I4 M4 P4
      have L5 := Lib.hid (cells_new w4 #[.string ⟨#[115, 101, 108, 101, 99, 116]⟩] 9)
      generalize w4.alloc (.cells #[.string ⟨#[115, 101, 108, 101, 99, 116]⟩] 9) = V5 at B5 X5 I5 M5 P5 L5 hHeld ⊢
      refine wpAnyH_ready (rs := [7]) (by kernel_rfl) (by simp) ?_
      refine (AllReadyH.cons rfl (fun K hK => ?_) AllReadyH.nil)
      go_simp
      clear hHeld
      refine hK.out _ _ ?_ (fun hHeld => ?_)
      · exact (X5.out.alloc _).now.tre
      clear hK K
      have hb := (Below.refl (V5).heap.size (V5)).alloc (Nat.le_refl _) (.cells #[.slice (some ⟨w4.heap.size, 0, none⟩) 1 1, .slice a0 n0 c0, .slice (some ⟨V0.heap.size, 0, none⟩) 1 1, .slice pa n1 pc] 36)
      have B6 := Lib.hid (B5.out.alloc B5.out.size (.cells #[.slice (some ⟨w4.heap.size, 0, none⟩) 1 1, .slice a0 n0 c0, .slice (some ⟨V0.heap.size, 0, none⟩) 1 1, .slice pa n1 pc] 36))
      have X6 := Lib.hid (X5.out.next hb)
      have I6 := Lib.hid (I5.out.next hb)
      have M6 := Lib.hid (M5.out.next hb)
      have P6 := Lib.hid (P5.out.next hb)
      have L6 := Lib.hid (L5.out.next hb)
      clear hb B5 X5 I5 M5 P5 L5
      have N6 := Lib.hid (cells_new V5 #[.slice (some ⟨w4.heap.size, 0, none⟩) 1 1, .slice a0 n0 c0, .slice (some ⟨V0.heap.size, 0, none⟩) 1 1, .slice pa n1 pc] 36)
      generalize V5.alloc (.cells #[.slice (some ⟨w4.heap.size, 0, none⟩) 1 1, .slice a0 n0 c0, .slice (some ⟨V0.heap.size, 0, none⟩) 1 1, .slice pa n1 pc] 36) = V6 at B6 X6 I6 M6 P6 L6 N6 hHeld ⊢
      refine wpAnyH_ready (rs := [8]) (by kernel_rfl) (by simp) ?_
      refine (AllReadyH.cons rfl (fun K hK => ?_) AllReadyH.nil)
      go_simp
      refine (implConcat _ 4 [(some ⟨w4.heap.size, 0, none⟩, 1, 1, [selB]), (a0, n0, c0, vs), (some ⟨V0.heap.size, 0, none⟩, 1, 1, [wheB]), (pa, n1, pc, t1.map patB)] _ rfl (Nat.lt_of_lt_of_le (Nat.lt_succ_self _) N6.out.le) (by omega) (by simp [catB, HV.out, HT1.out]; omega) (fun i x hx => by
    have hi := (List.getElem?_eq_some_iff.1 hx).1
    simp only [List.length_cons, List.length_nil] at hi
    obtain rfl | rfl | rfl | rfl : i = 0 ∨ i = 1 ∨ i = 2 ∨ i = 3 := by omega
    · obtain rfl := Option.some.inj hx; exact ⟨(N6.out.now.at 0), isStr_one (L6.out.now.at 0)⟩
    · obtain rfl := Option.some.inj hx; exact ⟨(N6.out.now.at 1), I6.out.1.1⟩
    · obtain rfl := Option.some.inj hx; exact ⟨(N6.out.now.at 2), isStr_one (M6.out.now.at 0)⟩
    · obtain rfl := Option.some.inj hx; exact ⟨(N6.out.now.at 3), P6.out⟩)).mono ?_
      rintro e w7 ⟨rv, rfl, ro, hb⟩
      have B7 := Lib.hid (B6.out.trans (hb.mono B6.out.size))
      have X7 := Lib.hid (X6.out.next hb)
      have I7 := Lib.hid (I6.out.next hb)
      have M7 := Lib.hid (M6.out.next hb)
      have P7 := Lib.hid (P6.out.next hb)
      have L7 := Lib.hid (L6.out.next hb)
      have N7 := Lib.hid (N6.out.next hb)
      clear hb B6 X6 I6 M6 P6 L6 N6
      have ro2 := ro
      rw [show catB _ = [selB] ++ vs ++ [wheB] ++ t1.map patB from by simp [catB]] at ro2
      clear ro
      have R7 := Lib.hid ro2
      clear ro2
      clear L7
      clear M7
      clear N7
      clear P7
      go_wp2_with fail
      clear hHeld
      refine hK.out _ _ ?_ (fun hHeld => ?_)
      · exact X7.out.now.tre
      clear hK K
      refine wpAnyH_take (i := 9) (v := ?_) rfl (by kernel_rfl) (by kernel_rfl) (by kernel_rfl) (fun _ _ _ h => h) (Or.inl ⟨by kernel_rfl, ?_⟩) (by assumption) ?_
      rotate_left
      · intro w hSw; (try dsimp only at hSw); go_simp; try with_reducible rfl
      refine wpAnyH_done (by kernel_rfl) ?_ _
      try simp only [Act.put, List.setIfInBounds_toArray, List.set_cons_zero, List.set_cons_succ, List.getElem_toArray, List.getElem_cons_zero, List.getElem_cons_succ]
      clear hHeld
      obtain ⟨v, u, z⟩ := X7.out.now.tre
      have JN := Lib.hid (implJoinS (ts := [selB] ++ vs ++ [wheB] ++ t1.map patB) R7.out (by simp) (by have := HLW.out; unfold qWords alsoW at this; rw [if_pos hz2.out, List.append_nil] at this; omega) (by have := HMO.out; unfold qWords alsoW at this; rw [if_pos hz2.out, List.append_nil] at this; omega))
      rw [HW.out] at JN
      clear R7
      go_wp2_with fail
      refine (JN.out).mono ?_
      rintro e w8 ⟨rfl, hb⟩
      have B8 := Lib.hid (B7.out.trans (hb.mono B7.out.size))
      have X8 := Lib.hid (X7.out.next hb)
      have I8 := Lib.hid (I7.out.next hb)
      clear hb B7 X7 I7
      clear v u z
      go_wp2_with fail
      go_ret
      exact ⟨rfl, B8.out⟩
  · go_simp
    refine (implPointedAll a1 n1 c1 t1 _ I2.out.2.1 HS1.out hl1).mono ?_
    rintro e w3 ⟨pv, rfl, po, hb⟩
    have B3 := Lib.hid (B2.out.trans (hb.mono B2.out.size))
    have X3 := Lib.hid (X2.out.next hb)
    have I3 := Lib.hid (I2.out.next hb)
    clear hb B2 X2 I2
    obtain ⟨pa, pc, rfl, ip⟩ := po.is
    have hp4 : (t1.map patB).length = n1 := by rw [List.length_map, HT1.out]
    rw [hp4] at ip ⊢
    clear po hp4
    have P3 := Lib.hid ip
    clear ip
    go_wp2_with fail
    clear hHeld
    refine hK.out _ _ ?_ (fun hHeld => ?_)
    · exact X3.out.now.tre
    clear hK K
    refine wpAnyH_ready (rs := [0, 3]) (by kernel_rfl) (by simp) ?_
    refine (AllReadyH.cons rfl (fun K hK => ?_) (AllReadyH.cons rfl (fun K hK => ?_) AllReadyH.nil))
    · go_simp
      clear hHeld
      refine hK.out _ _ ?_ (fun hHeld => ?_)
      · exact (X3.out.alloc _).now.tre
      clear hK K
      have hb := (Below.refl (w3).heap.size (w3)).alloc (Nat.le_refl _) (.cells #[.string ⟨#[115, 101, 108, 101, 99, 116]⟩] 9)
      have B4 := Lib.hid (B3.out.alloc B3.out.size (.cells #[.string ⟨#[115, 101, 108, 101, 99, 116]⟩] 9))
      have X4 := Lib.hid (X3.out.next hb)
      have I4 := Lib.hid (I3.out.next hb)
      have P4 := Lib.hid (P3.out.next hb)
      clear hb B3 X3 I3 P3
      have L4 := Lib.hid (cells_new w3 #[.string ⟨#[115, 101, 108, 101, 99, 116]⟩] 9)
      generalize w3.alloc (.cells #[.string ⟨#[115, 101, 108, 101, 99, 116]⟩] 9) = V4 at B4 X4 I4 P4 L4 hHeld ⊢
      refine wpAnyH_ready (rs := [3]) (by kernel_rfl) (by simp) ?_
      refine (AllReadyH.cons rfl (fun K hK => ?_) AllReadyH.nil)
      go_simp
      clear hHeld
      refine hK.out _ _ ?_ (fun hHeld => ?_)
      · exact (X4.out.alloc _).now.tre
      clear hK K
      have hb := (Below.refl (V4).heap.size (V4)).alloc (Nat.le_refl _) (.cells #[.string ⟨#[119, 104, 101, 114, 101]⟩] 9)
      have B5 := Lib.hid (B4.out.alloc B4.out.size (.cells #[.string ⟨#[119, 104, 101, 114, 101]⟩] 9))
      have X5 := Lib.hid (X4.out.next hb)
      have I5 := Lib.hid (I4.out.next hb)
      have P5 := Lib.hid (P4.out.next hb)
      have L5 := Lib.hid (L4.out.next hb)
      clear hb B4 X4 I4 P4 L4
      have M5 := Lib.hid (cells_new V4 #[.string ⟨#[119, 104, 101, 114, 101]⟩] 9)
      generalize V4.alloc (.cells #[.string ⟨#[119, 104, 101, 114, 101]⟩] 9) = V5 at B5 X5 I5 P5 L5 M5 hHeld ⊢
      refine wpAnyH_ready (rs := [7]) (by kernel_rfl) (by simp) ?_
      refine (AllReadyH.cons rfl (fun K hK => ?_) AllReadyH.nil)
      go_simp
      clear hHeld
      refine hK.out _ _ ?_ (fun hHeld => ?_)
      · exact (X5.out.alloc _).now.tre
      clear hK K
      have hb := (Below.refl (V5).heap.size (V5)).alloc (Nat.le_refl _) (.cells #[.slice (some ⟨w3.heap.size, 0, none⟩) 1 1, .slice a0 n0 c0, .slice (some ⟨V4.heap.size, 0, none⟩) 1 1, .slice pa n1 pc] 36)
      have B6 := Lib.hid (B5.out.alloc B5.out.size (.cells #[.slice (some ⟨w3.heap.size, 0, none⟩) 1 1, .slice a0 n0 c0, .slice (some ⟨V4.heap.size, 0, none⟩) 1 1, .slice pa n1 pc] 36))
      have X6 := Lib.hid (X5.out.next hb)
      have I6 := Lib.hid (I5.out.next hb)
      have P6 := Lib.hid (P5.out.next hb)
      have L6 := Lib.hid (L5.out.next hb)
      have M6 := Lib.hid (M5.out.next hb)
      clear hb B5 X5 I5 P5 L5 M5
      have N6 := Lib.hid (cells_new V5 #[.slice (some ⟨w3.heap.size, 0, none⟩) 1 1, .slice a0 n0 c0, .slice (some ⟨V4.heap.size, 0, none⟩) 1 1, .slice pa n1 pc] 36)
      generalize V5.alloc (.cells #[.slice (some ⟨w3.heap.size, 0, none⟩) 1 1, .slice a0 n0 c0, .slice (some ⟨V4.heap.size, 0, none⟩) 1 1, .slice pa n1 pc] 36) = V6 at B6 X6 I6 P6 L6 M6 N6 hHeld ⊢
      refine wpAnyH_ready (rs := [8]) (by kernel_rfl) (by simp) ?_
      refine (AllReadyH.cons rfl (fun K hK => ?_) AllReadyH.nil)
      go_simp
      refine (implConcat _ 4 [(some ⟨w3.heap.size, 0, none⟩, 1, 1, [selB]), (a0, n0, c0, vs), (some ⟨V4.heap.size, 0, none⟩, 1, 1, [wheB]), (pa, n1, pc, t1.map patB)] _ rfl (Nat.lt_of_lt_of_le (Nat.lt_succ_self _) N6.out.le) (by omega) (by simp [catB, HV.out, HT1.out]; omega) (fun i x hx => by
    have hi := (List.getElem?_eq_some_iff.1 hx).1
    simp only [List.length_cons, List.length_nil] at hi
    obtain rfl | rfl | rfl | rfl : i = 0 ∨ i = 1 ∨ i = 2 ∨ i = 3 := by omega
    · obtain rfl := Option.some.inj hx; exact ⟨(N6.out.now.at 0), isStr_one (L6.out.now.at 0)⟩
    · obtain rfl := Option.some.inj hx; exact ⟨(N6.out.now.at 1), I6.out.1.1⟩
    · obtain rfl := Option.some.inj hx; exact ⟨(N6.out.now.at 2), isStr_one (M6.out.now.at 0)⟩
    · obtain rfl := Option.some.inj hx; exact ⟨(N6.out.now.at 3), P6.out⟩)).mono ?_
      rintro e w7 ⟨rv, rfl, ro, hb⟩
      have B7 := Lib.hid (B6.out.trans (hb.mono B6.out.size))
      have X7 := Lib.hid (X6.out.next hb)
      have I7 := Lib.hid (I6.out.next hb)
      have P7 := Lib.hid (P6.out.next hb)
      have L7 := Lib.hid (L6.out.next hb)
      have M7 := Lib.hid (M6.out.next hb)
      have N7 := Lib.hid (N6.out.next hb)
      clear hb B6 X6 I6 P6 L6 M6 N6
      have ro2 := ro
      rw [show catB _ = [selB] ++ vs ++ [wheB] ++ t1.map patB from by simp [catB]] at ro2
      clear ro
      have R7 := Lib.hid ro2
      clear ro2
      clear L7
      clear M7
      clear N7
      clear P7
      go_wp2_with fail
      clear hHeld
      refine hK.out _ _ ?_ (fun hHeld => ?_)
      · exact X7.out.now.tre
      clear hK K
      refine wpAnyH_take (i := 9) (v := ?_) rfl (by kernel_rfl) (by kernel_rfl) (by kernel_rfl) (fun _ _ _ h => h) (Or.inl ⟨by kernel_rfl, ?_⟩) (by assumption) ?_
      rotate_left
      · intro w hSw; (try dsimp only at hSw); go_simp; try with_reducible rfl
      refine wpAnyH_done (by kernel_rfl) ?_ _
      try simp only [Act.put, List.setIfInBounds_toArray, List.set_cons_zero, List.set_cons_succ, List.getElem_toArray, List.getElem_cons_zero, List.getElem_cons_succ]
      clear hHeld
      obtain ⟨v, u, z⟩ := X7.out.now.tre
      have JN := Lib.hid (implJoinS (ts := [selB] ++ vs ++ [wheB] ++ t1.map patB) R7.out (by simp) (by have := HLW.out; unfold qWords alsoW at this; rw [if_pos hz2.out, List.append_nil] at this; omega) (by have := HMO.out; unfold qWords alsoW at this; rw [if_pos hz2.out, List.append_nil] at this; omega))
      rw [HW.out] at JN
      clear R7
      go_wp2_with fail
      refine (JN.out).mono ?_
      rintro e w8 ⟨rfl, hb⟩
      have B8 := Lib.hid (B7.out.trans (hb.mono B7.out.size))
      have X8 := Lib.hid (X7.out.next hb)
      have I8 := Lib.hid (I7.out.next hb)
      clear hb B7 X7 I7
      clear v u z
      go_wp2_with fail
      go_ret
      exact ⟨rfl, B8.out⟩
    · go_simp
      clear hHeld
      refine hK.out _ _ ?_ (fun hHeld => ?_)
      · exact (X3.out.alloc _).now.tre
      clear hK K
      have hb := (Below.refl (w3).heap.size (w3)).alloc (Nat.le_refl _) (.cells #[.string ⟨#[119, 104, 101, 114, 101]⟩] 9)
      have B4 := Lib.hid (B3.out.alloc B3.out.size (.cells #[.string ⟨#[119, 104, 101, 114, 101]⟩] 9))
      have X4 := Lib.hid (X3.out.next hb)
      have I4 := Lib.hid (I3.out.next hb)
      have P4 := Lib.hid (P3.out.next hb)
      clear hb B3 X3 I3 P3
      have M4 := Lib.hid (cells_new w3 #[.string ⟨#[119, 104, 101, 114, 101]⟩] 9)
      generalize w3.alloc (.cells #[.string ⟨#[119, 104, 101, 114, 101]⟩] 9) = V4 at B4 X4 I4 P4 M4 hHeld ⊢
      refine wpAnyH_ready (rs := [0]) (by kernel_rfl) (by simp) ?_
      refine (AllReadyH.cons rfl (fun K hK => ?_) AllReadyH.nil)
      go_simp
      clear hHeld
      refine hK.out _ _ ?_ (fun hHeld => ?_)
      · exact (X4.out.alloc _).now.tre
      clear hK K
      have hb := (Below.refl (V4).heap.size (V4)).alloc (Nat.le_refl _) (.cells #[.string ⟨#[115, 101, 108, 101, 99, 116]⟩] 9)
      have B5 := Lib.hid (B4.out.alloc B4.out.size (.cells #[.string ⟨#[115, 101, 108, 101, 99, 116]⟩] 9))
      have X5 := Lib.hid (X4.out.next hb)
      have I5 := Lib.hid (I4.out.next hb)
      have P5 := Lib.hid (P4.out.next hb)
      have M5 := Lib.hid (M4.out.next hb)
      clear hb B4 X4 I4 P4 M4
      have L5 := Lib.hid (cells_new V4 #[.string ⟨#[115, 101, 108, 101, 99, 116]⟩] 9)
      generalize V4.alloc (.cells #[.string ⟨#[115, 101, 108, 101, 99, 116]⟩] 9) = V5 at B5 X5 I5 P5 M5 L5 hHeld ⊢
      refine wpAnyH_ready (rs := [7]) (by kernel_rfl) (by simp) ?_
      refine (AllReadyH.cons rfl (fun K hK => ?_) AllReadyH.nil)
      go_simp
      clear hHeld
      refine hK.out _ _ ?_ (fun hHeld => ?_)
      · exact (X5.out.alloc _).now.tre
      clear hK K
      have hb := (Below.refl (V5).heap.size (V5)).alloc (Nat.le_refl _) (.cells #[.slice (some ⟨V4.heap.size, 0, none⟩) 1 1, .slice a0 n0 c0, .slice (some ⟨w3.heap.size, 0, none⟩) 1 1, .slice pa n1 pc] 36)
      have B6 := Lib.hid (B5.out.alloc B5.out.size (.cells #[.slice (some ⟨V4.heap.size, 0, none⟩) 1 1, .slice a0 n0 c0, .slice (some ⟨w3.heap.size, 0, none⟩) 1 1, .slice pa n1 pc] 36))
      have X6 := Lib.hid (X5.out.next hb)
      have I6 := Lib.hid (I5.out.next hb)
      have P6 := Lib.hid (P5.out.next hb)
      have M6 := Lib.hid (M5.out.next hb)
      have L6 := Lib.hid (L5.out.next hb)
      clear hb B5 X5 I5 P5 M5 L5
      have N6 := Lib.hid (cells_new V5 #[.slice (some ⟨V4.heap.size, 0, none⟩) 1 1, .slice a0 n0 c0, .slice (some ⟨w3.heap.size, 0, none⟩) 1 1, .slice pa n1 pc] 36)
      generalize V5.alloc (.cells #[.slice (some ⟨V4.heap.size, 0, none⟩) 1 1, .slice a0 n0 c0, .slice (some ⟨w3.heap.size, 0, none⟩) 1 1, .slice pa n1 pc] 36) = V6 at B6 X6 I6 P6 M6 L6 N6 hHeld ⊢
      refine wpAnyH_ready (rs := [8]) (by kernel_rfl) (by simp) ?_
      refine (AllReadyH.cons rfl (fun K hK => ?_) AllReadyH.nil)
      go_simp
      refine (implConcat _ 4 [(some ⟨V4.heap.size, 0, none⟩, 1, 1, [selB]), (a0, n0, c0, vs), (some ⟨w3.heap.size, 0, none⟩, 1, 1, [wheB]), (pa, n1, pc, t1.map patB)] _ rfl (Nat.lt_of_lt_of_le (Nat.lt_succ_self _) N6.out.le) (by omega) (by simp [catB, HV.out, HT1.out]; omega) (fun i x hx => by
    have hi := (List.getElem?_eq_some_iff.1 hx).1
    simp only [List.length_cons, List.length_nil] at hi
    obtain rfl | rfl | rfl | rfl : i = 0 ∨ i = 1 ∨ i = 2 ∨ i = 3 := by omega
    · obtain rfl := Option.some.inj hx; exact ⟨(N6.out.now.at 0), isStr_one (L6.out.now.at 0)⟩
    · obtain rfl := Option.some.inj hx; exact ⟨(N6.out.now.at 1), I6.out.1.1⟩
    · obtain rfl := Option.some.inj hx; exact ⟨(N6.out.now.at 2), isStr_one (M6.out.now.at 0)⟩
    · obtain rfl := Option.some.inj hx; exact ⟨(N6.out.now.at 3), P6.out⟩)).mono ?_
      rintro e w7 ⟨rv, rfl, ro, hb⟩
      have B7 := Lib.hid (B6.out.trans (hb.mono B6.out.size))
      have X7 := Lib.hid (X6.out.next hb)
      have I7 := Lib.hid (I6.out.next hb)
      have P7 := Lib.hid (P6.out.next hb)
      have M7 := Lib.hid (M6.out.next hb)
      have L7 := Lib.hid (L6.out.next hb)
      have N7 := Lib.hid (N6.out.next hb)
      clear hb B6 X6 I6 P6 M6 L6 N6
      have ro2 := ro
      rw [show catB _ = [selB] ++ vs ++ [wheB] ++ t1.map patB from by simp [catB]] at ro2
      clear ro
      have R7 := Lib.hid ro2
      clear ro2
      clear L7
      clear M7
      clear N7
      clear P7
      go_wp2_with fail
      clear hHeld
      refine hK.out _ _ ?_ (fun hHeld => ?_)
      · exact X7.out.now.tre
      clear hK K
      refine wpAnyH_take (i := 9) (v := ?_) rfl (by kernel_rfl) (by kernel_rfl) (by kernel_rfl) (fun _ _ _ h => h) (Or.inl ⟨by kernel_rfl, ?_⟩) (by assumption) ?_
      rotate_left
      · intro w hSw; (try dsimp only at hSw); go_simp; try with_reducible rfl
      refine wpAnyH_done (by kernel_rfl) ?_ _
      try simp only [Act.put, List.setIfInBounds_toArray, List.set_cons_zero, List.set_cons_succ, List.getElem_toArray, List.getElem_cons_zero, List.getElem_cons_succ]
      clear hHeld
      obtain ⟨v, u, z⟩ := X7.out.now.tre
      have JN := Lib.hid (implJoinS (ts := [selB] ++ vs ++ [wheB] ++ t1.map patB) R7.out (by simp) (by have := HLW.out; unfold qWords alsoW at this; rw [if_pos hz2.out, List.append_nil] at this; omega) (by have := HMO.out; unfold qWords alsoW at this; rw [if_pos hz2.out, List.append_nil] at this; omega))
      rw [HW.out] at JN
      clear R7
      go_wp2_with fail
      refine (JN.out).mono ?_
      rintro e w8 ⟨rfl, hb⟩
      have B8 := Lib.hid (B7.out.trans (hb.mono B7.out.size))
      have X8 := Lib.hid (X7.out.next hb)
      have I8 := Lib.hid (I7.out.next hb)
      clear hb B7 X7 I7
      clear v u z
      go_wp2_with fail
      go_ret
      exact ⟨rfl, B8.out⟩
end Go.Proofs.Ythnpchcfjkepaaa
/- A query's text: the program, with alsos. -/
namespace Go.Proofs.Ythnpchcfjkepaaa
open Go.RowKit Go.WideShapes Go.Maps
set_option maxRecDepth 100000 in
set_option maxHeartbeats 12800000 in
theorem implQueryTextB (a0 a1 a2 : Option Addr) (n0 n1 n2 c0 c1 c2 : Nat) (vs : List ByteArray) (t1 t2 : List Tri3) (w : World) (h : IsQry w a0 a1 a2 n0 n1 n2 c0 c1 c2 vs t1 t2) (hvz : ∀ x ∈ vs, x.size ≤ 1048576) (h1 : Sm t1) (h2 : Sm t2) (l0 : n0 ≤ 1048576) (hk : queryOk vs t1 t2 = true) (hn2 : ¬ t2.length = 0) :
    Calls Try.prog 21 #[.agg #[.slice a0 n0 c0, .slice a1 n1 c1, .slice a2 n2 c2]] w fun e w' => e = .returned (.string (bs (queryTx vs t1 t2))) ∧ Below w.heap.size w w' := by
  have B0 := Lib.hid ((Below.refl w.heap.size w).alloc (Nat.le_refl _) (.cells #[.slice a0 n0 c0, .slice a1 n1 c1, .slice a2 n2 c2] 43))
  have X0 := Lib.hid (cells_new w #[.slice a0 n0 c0, .slice a1 n1 c1, .slice a2 n2 c2] 43)
  have I0 := Lib.hid (h.next ((Below.refl w.heap.size w).alloc (Nat.le_refl _) (.cells #[.slice a0 n0 c0, .slice a1 n1 c1, .slice a2 n2 c2] 43)))
  have HV := Lib.hid h.1.1.len
  have HT1 := Lib.hid h.2.1.len
  have HT2 := Lib.hid h.2.2.len
  have HS1 := Lib.hid h1
  have HS2 := Lib.hid h2
  obtain ⟨q, hq⟩ : ∃ q, queryTx vs t1 t2 = q := ⟨_, rfl⟩
  rw [hq]
  unfold queryTx at hq
  have C1 := fun (W : World) (hi : IsQry W a0 a1 a2 n0 n1 n2 c0 c1 c2 vs t1 t2) => implQueryOk a0 a1 a2 n0 n1 n2 c0 c1 c2 vs t1 t2 W hi HS1.out HS2.out l0
  rw [hk] at C1 hq
  have D1 := Lib.hid C1
  have HMO := Lib.hid (queryTx_most hk hvz h1 h2)
  have HLW := Lib.hid (qWords_len hk)
  obtain ⟨_, hb1, hb2, _, h4⟩ := queryOk_vs hk
  have hl1 : n1 ≤ 4 := by unfold bgpOk at hb1; simp only [Bool.and_eq_true, decide_eq_true_eq] at hb1; have := hb1.1; have := HT1.out; omega
  have hl2 : n2 ≤ 4 := by unfold bgpOk at hb2; simp only [Bool.and_eq_true, decide_eq_true_eq] at hb2; have := hb2.1; have := HT2.out; omega
  have hl0 : n0 ≤ 4 := by have := HV.out; omega
  have HQ : Hid (Lib.join ((qWords vs t1 t2).map (·.data.toList)) [32] = q) := Lib.hid hq
  clear C1 hq h h1 h2 hvz hk hb1 hb2 h4
  have hz2 := Lib.hid hn2
  rw [HT2.out] at hn2
  have hpos : (0 : Int) < (n2 : Int) := by omega
  clear hn2
  go_enter Try.func21, Try.ntmps21
  obtain ⟨v, u, z⟩ := X0.out.now.tre
  go_wp2_with fail
  refine (D1.out _ I0.out).mono ?_
  rintro e w1 ⟨rfl, hb⟩
  have B1 := Lib.hid (B0.out.trans (hb.mono B0.out.size))
  have X1 := Lib.hid (X0.out.next hb)
  have I1 := Lib.hid (I0.out.next hb)
  clear hb B0 X0 I0
  clear v u z D1
  go_wp2_with fail
  have hb : Below w1.heap.size w1 w1.drew := (Below.refl _ _).drew
  have B2 := Lib.hid B1.out.drew
  have X2 := Lib.hid (X1.out.next hb)
  have I2 := Lib.hid (I1.out.next hb)
  clear hb B1 X1 I1
  refine wp_region_held_drew (S := (fun w' => w'.cell? ⟨w.heap.size, 0, none⟩ = some (.slice a0 n0 c0) ∧ w'.cell? ⟨w.heap.size, 1, none⟩ = some (.slice a1 n1 c1) ∧ w'.cell? ⟨w.heap.size, 2, none⟩ = some (.slice a2 n2 c2))) (by kernel_rfl) ?_ (fun hHeld => ?_)
  · exact X2.out.now.tre
  generalize World.drew w1 = V0 at B2 X2 I2 hHeld ⊢
  refine wpAnyH_take (i := 1) (v := ?_) rfl (by kernel_rfl) (by kernel_rfl) (by kernel_rfl) (fun _ _ _ h => h) (Or.inl ⟨by kernel_rfl, ?_⟩) (by assumption) ?_
  rotate_left
  · intro w hSw; (try dsimp only at hSw); go_simp; try with_reducible rfl
  refine wpAnyH_take (i := 2) (v := ?_) rfl (by kernel_rfl) (by kernel_rfl) (by kernel_rfl) (fun _ _ _ h => h) (Or.inl ⟨by kernel_rfl, ?_⟩) (by assumption) ?_
  rotate_left
  · intro w hSw; (try dsimp only at hSw); go_simp; try with_reducible rfl
  refine wpAnyH_take (i := 4) (v := ?_) rfl (by kernel_rfl) (by kernel_rfl) (by kernel_rfl) (fun _ _ _ h => h) (Or.inl ⟨by kernel_rfl, ?_⟩) (by assumption) ?_
  rotate_left
  · intro w hSw; (try dsimp only at hSw); go_simp; try with_reducible rfl
  refine wpAnyH_take (i := 5) (v := ?_) rfl (by kernel_rfl) (by kernel_rfl) (by kernel_rfl) (fun _ _ _ h => h) (Or.inl ⟨by kernel_rfl, ?_⟩) (by assumption) ?_
  rotate_left
  · intro w hSw; (try dsimp only at hSw); go_simp; try with_reducible rfl
  refine wpAnyH_ready (rs := [0, 3, 6]) (by kernel_rfl) (by simp) ?_
  refine (AllReadyH.cons rfl (fun K hK => ?_) (AllReadyH.cons rfl (fun K hK => ?_) (AllReadyH.cons rfl (fun K hK => ?_) AllReadyH.nil)))
  · go_simp
    clear hHeld
    refine hK.out _ _ ?_ (fun hHeld => ?_)
    · exact (X2.out.alloc _).now.tre
    clear hK K
    have hb := (Below.refl (V0).heap.size (V0)).alloc (Nat.le_refl _) (.cells #[.string ⟨#[115, 101, 108, 101, 99, 116]⟩] 9)
    have B3 := Lib.hid (B2.out.alloc B2.out.size (.cells #[.string ⟨#[115, 101, 108, 101, 99, 116]⟩] 9))
    have X3 := Lib.hid (X2.out.next hb)
    have I3 := Lib.hid (I2.out.next hb)
    clear hb B2 X2 I2
    have L3 := Lib.hid (cells_new V0 #[.string ⟨#[115, 101, 108, 101, 99, 116]⟩] 9)
    generalize V0.alloc (.cells #[.string ⟨#[115, 101, 108, 101, 99, 116]⟩] 9) = V3 at B3 X3 I3 L3 hHeld ⊢
    refine wpAnyH_ready (rs := [3, 6]) (by kernel_rfl) (by simp) ?_
    refine (AllReadyH.cons rfl (fun K hK => ?_) (AllReadyH.cons rfl (fun K hK => ?_) AllReadyH.nil))
    · go_simp
      clear hHeld
      refine hK.out _ _ ?_ (fun hHeld => ?_)
      · exact (X3.out.alloc _).now.tre
      clear hK K
      have hb := (Below.refl (V3).heap.size (V3)).alloc (Nat.le_refl _) (.cells #[.string ⟨#[119, 104, 101, 114, 101]⟩] 9)
      have B4 := Lib.hid (B3.out.alloc B3.out.size (.cells #[.string ⟨#[119, 104, 101, 114, 101]⟩] 9))
      have X4 := Lib.hid (X3.out.next hb)
      have I4 := Lib.hid (I3.out.next hb)
      have L4 := Lib.hid (L3.out.next hb)
      clear hb B3 X3 I3 L3
      have M4 := Lib.hid (cells_new V3 #[.string ⟨#[119, 104, 101, 114, 101]⟩] 9)
      generalize V3.alloc (.cells #[.string ⟨#[119, 104, 101, 114, 101]⟩] 9) = V4 at B4 X4 I4 L4 M4 hHeld ⊢
      refine wpAnyH_ready (rs := [6]) (by kernel_rfl) (by simp) ?_
      refine (AllReadyH.cons rfl (fun K hK => ?_) AllReadyH.nil)
      go_simp
      refine (implPointedAll a1 n1 c1 t1 _ I4.out.2.1 HS1.out hl1).mono ?_
      rintro e w5 ⟨pv, rfl, po, hb⟩
      have B5 := Lib.hid (B4.out.trans (hb.mono B4.out.size))
      have X5 := Lib.hid (X4.out.next hb)
      have I5 := Lib.hid (I4.out.next hb)
      have L5 := Lib.hid (L4.out.next hb)
      have M5 := Lib.hid (M4.out.next hb)
      clear hb B4 X4 I4 L4 M4
      obtain ⟨pa, pc, rfl, ip⟩ := po.is
      have hp4 : (t1.map patB).length = n1 := by rw [List.length_map, HT1.out]
      rw [hp4] at ip ⊢
      clear po hp4
      have P5 := Lib.hid ip
      clear ip
      go_wp2_with fail
      clear hHeld
      refine hK.out _ _ ?_ (fun hHeld => ?_)
      · exact X5.out.now.tre
      clear hK K
      refine wpAnyH_ready (rs := [7]) (by kernel_rfl) (by simp) ?_
      refine (AllReadyH.cons rfl (fun K hK => ?_) AllReadyH.nil)
      go_simp
      clear hHeld
      refine hK.out _ _ ?_ (fun hHeld => ?_)
      · exact (X5.out.alloc _).now.tre
      clear hK K
      have hb := (Below.refl (w5).heap.size (w5)).alloc (Nat.le_refl _) (.cells #[.slice (some ⟨V0.heap.size, 0, none⟩) 1 1, .slice a0 n0 c0, .slice (some ⟨V3.heap.size, 0, none⟩) 1 1, .slice pa n1 pc] 36)
      have B6 := Lib.hid (B5.out.alloc B5.out.size (.cells #[.slice (some ⟨V0.heap.size, 0, none⟩) 1 1, .slice a0 n0 c0, .slice (some ⟨V3.heap.size, 0, none⟩) 1 1, .slice pa n1 pc] 36))
      have X6 := Lib.hid (X5.out.next hb)
      have I6 := Lib.hid (I5.out.next hb)
      have L6 := Lib.hid (L5.out.next hb)
      have M6 := Lib.hid (M5.out.next hb)
      have P6 := Lib.hid (P5.out.next hb)
      clear hb B5 X5 I5 L5 M5 P5
      have N6 := Lib.hid (cells_new w5 #[.slice (some ⟨V0.heap.size, 0, none⟩) 1 1, .slice a0 n0 c0, .slice (some ⟨V3.heap.size, 0, none⟩) 1 1, .slice pa n1 pc] 36)
      generalize w5.alloc (.cells #[.slice (some ⟨V0.heap.size, 0, none⟩) 1 1, .slice a0 n0 c0, .slice (some ⟨V3.heap.size, 0, none⟩) 1 1, .slice pa n1 pc] 36) = V6 at B6 X6 I6 L6 M6 P6 N6 hHeld ⊢
      refine wpAnyH_ready (rs := [8]) (by kernel_rfl) (by simp) ?_
      refine (AllReadyH.cons rfl (fun K hK => ?_) AllReadyH.nil)
      go_simp
      refine (implConcat _ 4 [(some ⟨V0.heap.size, 0, none⟩, 1, 1, [selB]), (a0, n0, c0, vs), (some ⟨V3.heap.size, 0, none⟩, 1, 1, [wheB]), (pa, n1, pc, t1.map patB)] _ rfl (Nat.lt_of_lt_of_le (Nat.lt_succ_self _) N6.out.le) (by omega) (by simp [catB, HV.out, HT1.out]; omega) (fun i x hx => by
    have hi := (List.getElem?_eq_some_iff.1 hx).1
    simp only [List.length_cons, List.length_nil] at hi
    obtain rfl | rfl | rfl | rfl : i = 0 ∨ i = 1 ∨ i = 2 ∨ i = 3 := by omega
    · obtain rfl := Option.some.inj hx; exact ⟨(N6.out.now.at 0), isStr_one (L6.out.now.at 0)⟩
    · obtain rfl := Option.some.inj hx; exact ⟨(N6.out.now.at 1), I6.out.1.1⟩
    · obtain rfl := Option.some.inj hx; exact ⟨(N6.out.now.at 2), isStr_one (M6.out.now.at 0)⟩
    · obtain rfl := Option.some.inj hx; exact ⟨(N6.out.now.at 3), P6.out⟩)).mono ?_
      rintro e w7 ⟨rv, rfl, ro, hb⟩
      have B7 := Lib.hid (B6.out.trans (hb.mono B6.out.size))
      have X7 := Lib.hid (X6.out.next hb)
      have I7 := Lib.hid (I6.out.next hb)
      have L7 := Lib.hid (L6.out.next hb)
      have M7 := Lib.hid (M6.out.next hb)
      have P7 := Lib.hid (P6.out.next hb)
      have N7 := Lib.hid (N6.out.next hb)
      clear hb B6 X6 I6 L6 M6 P6 N6
      have ro2 := ro
      rw [show catB _ = [selB] ++ vs ++ [wheB] ++ t1.map patB from by simp [catB]] at ro2
      clear ro
      have R7 := Lib.hid ro2
      clear ro2
      clear L7
      clear M7
      clear N7
      clear P7
      go_wp2_with fail
      clear hHeld
      refine hK.out _ _ ?_ (fun hHeld => ?_)
      · exact X7.out.now.tre
      clear hK K
      refine wpAnyH_take (i := 9) (v := ?_) rfl (by kernel_rfl) (by kernel_rfl) (by kernel_rfl) (fun _ _ _ h => h) (Or.inl ⟨by kernel_rfl, ?_⟩) (by assumption) ?_
      rotate_left
      · intro w hSw; (try dsimp only at hSw); go_simp; try with_reducible rfl
      refine wpAnyH_done (by kernel_rfl) ?_ _
      try simp only [Act.put, List.setIfInBounds_toArray, List.set_cons_zero, List.set_cons_succ, List.getElem_toArray, List.getElem_cons_zero, List.getElem_cons_succ]
      clear hHeld
      obtain ⟨v, u, z⟩ := X7.out.now.tre
      obtain ⟨ra, rc, re, ri⟩ := R7.out.is
      obtain ⟨rn, hrn⟩ : ∃ n, ([selB] ++ vs ++ [wheB] ++ t1.map patB).length = n := ⟨_, rfl⟩
      rw [hrn] at re ri
      subst re
      have hr10 : rn ≤ 10 := by rw [← hrn]; simp only [List.length_append, List.length_cons, List.length_nil, List.length_map]; have := HV.out; have := HT1.out; omega
      have RI7 := Lib.hid ri
      clear ri R7 hrn
      have hb := (Below.refl (w7).heap.size (w7)).alloc (Nat.le_refl _) (.cells #[.string ⟨#[97, 108, 115, 111]⟩] 9)
      have B8 := Lib.hid (B7.out.alloc B7.out.size (.cells #[.string ⟨#[97, 108, 115, 111]⟩] 9))
      have X8 := Lib.hid (X7.out.next hb)
      have I8 := Lib.hid (I7.out.next hb)
      have RI8 := Lib.hid (RI7.out.next hb)
      clear hb B7 X7 I7 RI7
      have L8 := Lib.hid (cells_new w7 #[.string ⟨#[97, 108, 115, 111]⟩] 9)
      obtain ⟨v9, u9, z9⟩ := X8.out.now.tre
      have PC := Lib.hid (implPointedAll a2 n2 c2 t2 _ I8.out.2.2 HS2.out hl2)
      go_wp2_with fail
      refine (PC.out).mono ?_
      rintro e w9 ⟨pv2, rfl, po2, hb⟩
      have B9 := Lib.hid (B8.out.trans (hb.mono B8.out.size))
      have X9 := Lib.hid (X8.out.next hb)
      have I9 := Lib.hid (I8.out.next hb)
      have RI9 := Lib.hid (RI8.out.next hb)
      have L9 := Lib.hid (L8.out.next hb)
      clear hb B8 X8 I8 RI8 L8
      clear v u z v9 u9 z9 PC
      obtain ⟨qa, qc, rfl, iq⟩ := po2.is
      have hq4 : (t2.map patB).length = n2 := by rw [List.length_map, HT2.out]
      rw [hq4] at iq ⊢
      have PQ9 := Lib.hid iq
      clear po2 iq hq4
      have hb := (Below.refl (w9).heap.size (w9)).alloc (Nat.le_refl _) (.cells #[.slice ra rn rc, .slice (some ⟨w7.heap.size, 0, none⟩) 1 1, .slice qa n2 qc] 36)
      have B10 := Lib.hid (B9.out.alloc B9.out.size (.cells #[.slice ra rn rc, .slice (some ⟨w7.heap.size, 0, none⟩) 1 1, .slice qa n2 qc] 36))
      have X10 := Lib.hid (X9.out.next hb)
      have I10 := Lib.hid (I9.out.next hb)
      have RI10 := Lib.hid (RI9.out.next hb)
      have L10 := Lib.hid (L9.out.next hb)
      have PQ10 := Lib.hid (PQ9.out.next hb)
      clear hb B9 X9 I9 RI9 L9 PQ9
      have N10 := Lib.hid (cells_new w9 #[.slice ra rn rc, .slice (some ⟨w7.heap.size, 0, none⟩) 1 1, .slice qa n2 qc] 36)
      have CC := Lib.hid (implConcat _ 3 [(ra, rn, rc, [selB] ++ vs ++ [wheB] ++ t1.map patB), (some ⟨w7.heap.size, 0, none⟩, 1, 1, [alsB]), (qa, n2, qc, t2.map patB)] _ rfl (Nat.lt_of_lt_of_le (Nat.lt_succ_self _) N10.out.le) (by omega) (by simp [catB, HV.out, HT1.out, HT2.out]; omega) (fun i x hx => by
        have hi := (List.getElem?_eq_some_iff.1 hx).1
        simp only [List.length_cons, List.length_nil] at hi
        obtain rfl | rfl | rfl : i = 0 ∨ i = 1 ∨ i = 2 := by omega
        · obtain rfl := Option.some.inj hx; exact ⟨(N10.out.now.at 0), by simpa using RI10.out⟩
        · obtain rfl := Option.some.inj hx; exact ⟨(N10.out.now.at 1), isStr_one (L10.out.now.at 0)⟩
        · obtain rfl := Option.some.inj hx; exact ⟨(N10.out.now.at 2), PQ10.out⟩))
      rw [show catB [(ra, rn, rc, [selB] ++ vs ++ [wheB] ++ t1.map patB), (some ⟨w7.heap.size, 0, none⟩, 1, 1, [alsB]), (qa, n2, qc, t2.map patB)] = qWords vs t1 t2 from by unfold qWords alsoW; rw [if_neg hz2.out]; simp [catB]] at CC
      go_wp2_with fail
      refine (CC.out).mono ?_
      rintro e w11 ⟨jv, rfl, jo, hb⟩
      have B11 := Lib.hid (B10.out.trans (hb.mono B10.out.size))
      have X11 := Lib.hid (X10.out.next hb)
      have I11 := Lib.hid (I10.out.next hb)
      have RI11 := Lib.hid (RI10.out.next hb)
      have L11 := Lib.hid (L10.out.next hb)
      have PQ11 := Lib.hid (PQ10.out.next hb)
      have N11 := Lib.hid (N10.out.next hb)
      clear hb B10 X10 I10 RI10 L10 PQ10 N10
      clear L11
      clear N11
      clear PQ11
      clear RI11
      have JN := Lib.hid (implJoinS jo (by unfold qWords; simp) (by have := HLW.out; omega) (by have := HMO.out; omega))
      rw [HQ.out] at JN
      clear jo CC
      go_wp2_with fail
      refine (JN.out).mono ?_
      rintro e w12 ⟨rfl, hb⟩
      have B12 := Lib.hid (B11.out.trans (hb.mono B11.out.size))
      have X12 := Lib.hid (X11.out.next hb)
      have I12 := Lib.hid (I11.out.next hb)
      clear hb B11 X11 I11
      go_wp2_with fail
      go_ret
      exact ⟨rfl, B12.out⟩
    · go_simp
      refine (implPointedAll a1 n1 c1 t1 _ I3.out.2.1 HS1.out hl1).mono ?_
      rintro e w4 ⟨pv, rfl, po, hb⟩
      have B4 := Lib.hid (B3.out.trans (hb.mono B3.out.size))
      have X4 := Lib.hid (X3.out.next hb)
      have I4 := Lib.hid (I3.out.next hb)
      have L4 := Lib.hid (L3.out.next hb)
      clear hb B3 X3 I3 L3
      obtain ⟨pa, pc, rfl, ip⟩ := po.is
      have hp4 : (t1.map patB).length = n1 := by rw [List.length_map, HT1.out]
      rw [hp4] at ip ⊢
      clear po hp4
      have P4 := Lib.hid ip
      clear ip
      go_wp2_with fail
      clear hHeld
      refine hK.out _ _ ?_ (fun hHeld => ?_)
      · exact X4.out.now.tre
      clear hK K
      refine wpAnyH_ready (rs := [3]) (by kernel_rfl) (by simp) ?_
      refine (AllReadyH.cons rfl (fun K hK => ?_) AllReadyH.nil)
      go_simp
      clear hHeld
      refine hK.out _ _ ?_ (fun hHeld => ?_)
      · exact (X4.out.alloc _).now.tre
      clear hK K
      have hb := (Below.refl (w4).heap.size (w4)).alloc (Nat.le_refl _) (.cells #[.string ⟨#[119, 104, 101, 114, 101]⟩] 9)
      have B5 := Lib.hid (B4.out.alloc B4.out.size (.cells #[.string ⟨#[119, 104, 101, 114, 101]⟩] 9))
      have X5 := Lib.hid (X4.out.next hb)
      have I5 := Lib.hid (I4.out.next hb)
      have L5 := Lib.hid (L4.out.next hb)
      have P5 := Lib.hid (P4.out.next hb)
      clear hb B4 X4 I4 L4 P4
      have M5 := Lib.hid (cells_new w4 #[.string ⟨#[119, 104, 101, 114, 101]⟩] 9)
      generalize w4.alloc (.cells #[.string ⟨#[119, 104, 101, 114, 101]⟩] 9) = V5 at B5 X5 I5 L5 P5 M5 hHeld ⊢
      refine wpAnyH_ready (rs := [7]) (by kernel_rfl) (by simp) ?_
      refine (AllReadyH.cons rfl (fun K hK => ?_) AllReadyH.nil)
      go_simp
      clear hHeld
      refine hK.out _ _ ?_ (fun hHeld => ?_)
      · exact (X5.out.alloc _).now.tre
      clear hK K
      have hb := (Below.refl (V5).heap.size (V5)).alloc (Nat.le_refl _) (.cells #[.slice (some ⟨V0.heap.size, 0, none⟩) 1 1, .slice a0 n0 c0, .slice (some ⟨w4.heap.size, 0, none⟩) 1 1, .slice pa n1 pc] 36)
      have B6 := Lib.hid (B5.out.alloc B5.out.size (.cells #[.slice (some ⟨V0.heap.size, 0, none⟩) 1 1, .slice a0 n0 c0, .slice (some ⟨w4.heap.size, 0, none⟩) 1 1, .slice pa n1 pc] 36))
      have X6 := Lib.hid (X5.out.next hb)
      have I6 := Lib.hid (I5.out.next hb)
      have L6 := Lib.hid (L5.out.next hb)
      have P6 := Lib.hid (P5.out.next hb)
      have M6 := Lib.hid (M5.out.next hb)
      clear hb B5 X5 I5 L5 P5 M5
      have N6 := Lib.hid (cells_new V5 #[.slice (some ⟨V0.heap.size, 0, none⟩) 1 1, .slice a0 n0 c0, .slice (some ⟨w4.heap.size, 0, none⟩) 1 1, .slice pa n1 pc] 36)
      generalize V5.alloc (.cells #[.slice (some ⟨V0.heap.size, 0, none⟩) 1 1, .slice a0 n0 c0, .slice (some ⟨w4.heap.size, 0, none⟩) 1 1, .slice pa n1 pc] 36) = V6 at B6 X6 I6 L6 P6 M6 N6 hHeld ⊢
      refine wpAnyH_ready (rs := [8]) (by kernel_rfl) (by simp) ?_
      refine (AllReadyH.cons rfl (fun K hK => ?_) AllReadyH.nil)
      go_simp
      refine (implConcat _ 4 [(some ⟨V0.heap.size, 0, none⟩, 1, 1, [selB]), (a0, n0, c0, vs), (some ⟨w4.heap.size, 0, none⟩, 1, 1, [wheB]), (pa, n1, pc, t1.map patB)] _ rfl (Nat.lt_of_lt_of_le (Nat.lt_succ_self _) N6.out.le) (by omega) (by simp [catB, HV.out, HT1.out]; omega) (fun i x hx => by
    have hi := (List.getElem?_eq_some_iff.1 hx).1
    simp only [List.length_cons, List.length_nil] at hi
    obtain rfl | rfl | rfl | rfl : i = 0 ∨ i = 1 ∨ i = 2 ∨ i = 3 := by omega
    · obtain rfl := Option.some.inj hx; exact ⟨(N6.out.now.at 0), isStr_one (L6.out.now.at 0)⟩
    · obtain rfl := Option.some.inj hx; exact ⟨(N6.out.now.at 1), I6.out.1.1⟩
    · obtain rfl := Option.some.inj hx; exact ⟨(N6.out.now.at 2), isStr_one (M6.out.now.at 0)⟩
    · obtain rfl := Option.some.inj hx; exact ⟨(N6.out.now.at 3), P6.out⟩)).mono ?_
      rintro e w7 ⟨rv, rfl, ro, hb⟩
      have B7 := Lib.hid (B6.out.trans (hb.mono B6.out.size))
      have X7 := Lib.hid (X6.out.next hb)
      have I7 := Lib.hid (I6.out.next hb)
      have L7 := Lib.hid (L6.out.next hb)
      have P7 := Lib.hid (P6.out.next hb)
      have M7 := Lib.hid (M6.out.next hb)
      have N7 := Lib.hid (N6.out.next hb)
      clear hb B6 X6 I6 L6 P6 M6 N6
      have ro2 := ro
      rw [show catB _ = [selB] ++ vs ++ [wheB] ++ t1.map patB from by simp [catB]] at ro2
      clear ro
      have R7 := Lib.hid ro2
      clear ro2
      clear L7
      clear M7
      clear N7
      clear P7
      go_wp2_with fail
      clear hHeld
      refine hK.out _ _ ?_ (fun hHeld => ?_)
      · exact X7.out.now.tre
      clear hK K
      refine wpAnyH_take (i := 9) (v := ?_) rfl (by kernel_rfl) (by kernel_rfl) (by kernel_rfl) (fun _ _ _ h => h) (Or.inl ⟨by kernel_rfl, ?_⟩) (by assumption) ?_
      rotate_left
      · intro w hSw; (try dsimp only at hSw); go_simp; try with_reducible rfl
      refine wpAnyH_done (by kernel_rfl) ?_ _
      try simp only [Act.put, List.setIfInBounds_toArray, List.set_cons_zero, List.set_cons_succ, List.getElem_toArray, List.getElem_cons_zero, List.getElem_cons_succ]
      clear hHeld
      obtain ⟨v, u, z⟩ := X7.out.now.tre
      obtain ⟨ra, rc, re, ri⟩ := R7.out.is
      obtain ⟨rn, hrn⟩ : ∃ n, ([selB] ++ vs ++ [wheB] ++ t1.map patB).length = n := ⟨_, rfl⟩
      rw [hrn] at re ri
      subst re
      have hr10 : rn ≤ 10 := by rw [← hrn]; simp only [List.length_append, List.length_cons, List.length_nil, List.length_map]; have := HV.out; have := HT1.out; omega
      have RI7 := Lib.hid ri
      clear ri R7 hrn
      have hb := (Below.refl (w7).heap.size (w7)).alloc (Nat.le_refl _) (.cells #[.string ⟨#[97, 108, 115, 111]⟩] 9)
      have B8 := Lib.hid (B7.out.alloc B7.out.size (.cells #[.string ⟨#[97, 108, 115, 111]⟩] 9))
      have X8 := Lib.hid (X7.out.next hb)
      have I8 := Lib.hid (I7.out.next hb)
      have RI8 := Lib.hid (RI7.out.next hb)
      clear hb B7 X7 I7 RI7
      have L8 := Lib.hid (cells_new w7 #[.string ⟨#[97, 108, 115, 111]⟩] 9)
      obtain ⟨v9, u9, z9⟩ := X8.out.now.tre
      have PC := Lib.hid (implPointedAll a2 n2 c2 t2 _ I8.out.2.2 HS2.out hl2)
      go_wp2_with fail
      refine (PC.out).mono ?_
      rintro e w9 ⟨pv2, rfl, po2, hb⟩
      have B9 := Lib.hid (B8.out.trans (hb.mono B8.out.size))
      have X9 := Lib.hid (X8.out.next hb)
      have I9 := Lib.hid (I8.out.next hb)
      have RI9 := Lib.hid (RI8.out.next hb)
      have L9 := Lib.hid (L8.out.next hb)
      clear hb B8 X8 I8 RI8 L8
      clear v u z v9 u9 z9 PC
      obtain ⟨qa, qc, rfl, iq⟩ := po2.is
      have hq4 : (t2.map patB).length = n2 := by rw [List.length_map, HT2.out]
      rw [hq4] at iq ⊢
      have PQ9 := Lib.hid iq
      clear po2 iq hq4
      have hb := (Below.refl (w9).heap.size (w9)).alloc (Nat.le_refl _) (.cells #[.slice ra rn rc, .slice (some ⟨w7.heap.size, 0, none⟩) 1 1, .slice qa n2 qc] 36)
      have B10 := Lib.hid (B9.out.alloc B9.out.size (.cells #[.slice ra rn rc, .slice (some ⟨w7.heap.size, 0, none⟩) 1 1, .slice qa n2 qc] 36))
      have X10 := Lib.hid (X9.out.next hb)
      have I10 := Lib.hid (I9.out.next hb)
      have RI10 := Lib.hid (RI9.out.next hb)
      have L10 := Lib.hid (L9.out.next hb)
      have PQ10 := Lib.hid (PQ9.out.next hb)
      clear hb B9 X9 I9 RI9 L9 PQ9
      have N10 := Lib.hid (cells_new w9 #[.slice ra rn rc, .slice (some ⟨w7.heap.size, 0, none⟩) 1 1, .slice qa n2 qc] 36)
      have CC := Lib.hid (implConcat _ 3 [(ra, rn, rc, [selB] ++ vs ++ [wheB] ++ t1.map patB), (some ⟨w7.heap.size, 0, none⟩, 1, 1, [alsB]), (qa, n2, qc, t2.map patB)] _ rfl (Nat.lt_of_lt_of_le (Nat.lt_succ_self _) N10.out.le) (by omega) (by simp [catB, HV.out, HT1.out, HT2.out]; omega) (fun i x hx => by
        have hi := (List.getElem?_eq_some_iff.1 hx).1
        simp only [List.length_cons, List.length_nil] at hi
        obtain rfl | rfl | rfl : i = 0 ∨ i = 1 ∨ i = 2 := by omega
        · obtain rfl := Option.some.inj hx; exact ⟨(N10.out.now.at 0), by simpa using RI10.out⟩
        · obtain rfl := Option.some.inj hx; exact ⟨(N10.out.now.at 1), isStr_one (L10.out.now.at 0)⟩
        · obtain rfl := Option.some.inj hx; exact ⟨(N10.out.now.at 2), PQ10.out⟩))
      rw [show catB [(ra, rn, rc, [selB] ++ vs ++ [wheB] ++ t1.map patB), (some ⟨w7.heap.size, 0, none⟩, 1, 1, [alsB]), (qa, n2, qc, t2.map patB)] = qWords vs t1 t2 from by unfold qWords alsoW; rw [if_neg hz2.out]; simp [catB]] at CC
      go_wp2_with fail
      refine (CC.out).mono ?_
      rintro e w11 ⟨jv, rfl, jo, hb⟩
      have B11 := Lib.hid (B10.out.trans (hb.mono B10.out.size))
      have X11 := Lib.hid (X10.out.next hb)
      have I11 := Lib.hid (I10.out.next hb)
      have RI11 := Lib.hid (RI10.out.next hb)
      have L11 := Lib.hid (L10.out.next hb)
      have PQ11 := Lib.hid (PQ10.out.next hb)
      have N11 := Lib.hid (N10.out.next hb)
      clear hb B10 X10 I10 RI10 L10 PQ10 N10
      clear L11
      clear N11
      clear PQ11
      clear RI11
      have JN := Lib.hid (implJoinS jo (by unfold qWords; simp) (by have := HLW.out; omega) (by have := HMO.out; omega))
      rw [HQ.out] at JN
      clear jo CC
      go_wp2_with fail
      refine (JN.out).mono ?_
      rintro e w12 ⟨rfl, hb⟩
      have B12 := Lib.hid (B11.out.trans (hb.mono B11.out.size))
      have X12 := Lib.hid (X11.out.next hb)
      have I12 := Lib.hid (I11.out.next hb)
      clear hb B11 X11 I11
      go_wp2_with fail
      go_ret
      exact ⟨rfl, B12.out⟩
  · go_simp
    clear hHeld
    refine hK.out _ _ ?_ (fun hHeld => ?_)
    · exact (X2.out.alloc _).now.tre
    clear hK K
    have hb := (Below.refl (V0).heap.size (V0)).alloc (Nat.le_refl _) (.cells #[.string ⟨#[119, 104, 101, 114, 101]⟩] 9)
    have B3 := Lib.hid (B2.out.alloc B2.out.size (.cells #[.string ⟨#[119, 104, 101, 114, 101]⟩] 9))
    have X3 := Lib.hid (X2.out.next hb)
    have I3 := Lib.hid (I2.out.next hb)
    clear hb B2 X2 I2
    have M3 := Lib.hid (cells_new V0 #[.string ⟨#[119, 104, 101, 114, 101]⟩] 9)
    generalize V0.alloc (.cells #[.string ⟨#[119, 104, 101, 114, 101]⟩] 9) = V3 at B3 X3 I3 M3 hHeld ⊢
    refine wpAnyH_ready (rs := [0, 6]) (by kernel_rfl) (by simp) ?_
    refine (AllReadyH.cons rfl (fun K hK => ?_) (AllReadyH.cons rfl (fun K hK => ?_) AllReadyH.nil))
    · go_simp
      clear hHeld
      refine hK.out _ _ ?_ (fun hHeld => ?_)
      · exact (X3.out.alloc _).now.tre
      clear hK K
      have hb := (Below.refl (V3).heap.size (V3)).alloc (Nat.le_refl _) (.cells #[.string ⟨#[115, 101, 108, 101, 99, 116]⟩] 9)
      have B4 := Lib.hid (B3.out.alloc B3.out.size (.cells #[.string ⟨#[115, 101, 108, 101, 99, 116]⟩] 9))
      have X4 := Lib.hid (X3.out.next hb)
      have I4 := Lib.hid (I3.out.next hb)
      have M4 := Lib.hid (M3.out.next hb)
      clear hb B3 X3 I3 M3
      have L4 := Lib.hid (cells_new V3 #[.string ⟨#[115, 101, 108, 101, 99, 116]⟩] 9)
      generalize V3.alloc (.cells #[.string ⟨#[115, 101, 108, 101, 99, 116]⟩] 9) = V4 at B4 X4 I4 M4 L4 hHeld ⊢
      refine wpAnyH_ready (rs := [6]) (by kernel_rfl) (by simp) ?_
      refine (AllReadyH.cons rfl (fun K hK => ?_) AllReadyH.nil)
      go_simp
      refine (implPointedAll a1 n1 c1 t1 _ I4.out.2.1 HS1.out hl1).mono ?_
      rintro e w5 ⟨pv, rfl, po, hb⟩
      have B5 := Lib.hid (B4.out.trans (hb.mono B4.out.size))
      have X5 := Lib.hid (X4.out.next hb)
      have I5 := Lib.hid (I4.out.next hb)
      have M5 := Lib.hid (M4.out.next hb)
      have L5 := Lib.hid (L4.out.next hb)
      clear hb B4 X4 I4 M4 L4
      obtain ⟨pa, pc, rfl, ip⟩ := po.is
      have hp4 : (t1.map patB).length = n1 := by rw [List.length_map, HT1.out]
      rw [hp4] at ip ⊢
      clear po hp4
      have P5 := Lib.hid ip
      clear ip
      go_wp2_with fail
      clear hHeld
      refine hK.out _ _ ?_ (fun hHeld => ?_)
      · exact X5.out.now.tre
      clear hK K
      refine wpAnyH_ready (rs := [7]) (by kernel_rfl) (by simp) ?_
      refine (AllReadyH.cons rfl (fun K hK => ?_) AllReadyH.nil)
      go_simp
      clear hHeld
      refine hK.out _ _ ?_ (fun hHeld => ?_)
      · exact (X5.out.alloc _).now.tre
      clear hK K
      have hb := (Below.refl (w5).heap.size (w5)).alloc (Nat.le_refl _) (.cells #[.slice (some ⟨V3.heap.size, 0, none⟩) 1 1, .slice a0 n0 c0, .slice (some ⟨V0.heap.size, 0, none⟩) 1 1, .slice pa n1 pc] 36)
      have B6 := Lib.hid (B5.out.alloc B5.out.size (.cells #[.slice (some ⟨V3.heap.size, 0, none⟩) 1 1, .slice a0 n0 c0, .slice (some ⟨V0.heap.size, 0, none⟩) 1 1, .slice pa n1 pc] 36))
      have X6 := Lib.hid (X5.out.next hb)
      have I6 := Lib.hid (I5.out.next hb)
      have M6 := Lib.hid (M5.out.next hb)
      have L6 := Lib.hid (L5.out.next hb)
      have P6 := Lib.hid (P5.out.next hb)
      clear hb B5 X5 I5 M5 L5 P5
      have N6 := Lib.hid (cells_new w5 #[.slice (some ⟨V3.heap.size, 0, none⟩) 1 1, .slice a0 n0 c0, .slice (some ⟨V0.heap.size, 0, none⟩) 1 1, .slice pa n1 pc] 36)
      generalize w5.alloc (.cells #[.slice (some ⟨V3.heap.size, 0, none⟩) 1 1, .slice a0 n0 c0, .slice (some ⟨V0.heap.size, 0, none⟩) 1 1, .slice pa n1 pc] 36) = V6 at B6 X6 I6 M6 L6 P6 N6 hHeld ⊢
      refine wpAnyH_ready (rs := [8]) (by kernel_rfl) (by simp) ?_
      refine (AllReadyH.cons rfl (fun K hK => ?_) AllReadyH.nil)
      go_simp
      refine (implConcat _ 4 [(some ⟨V3.heap.size, 0, none⟩, 1, 1, [selB]), (a0, n0, c0, vs), (some ⟨V0.heap.size, 0, none⟩, 1, 1, [wheB]), (pa, n1, pc, t1.map patB)] _ rfl (Nat.lt_of_lt_of_le (Nat.lt_succ_self _) N6.out.le) (by omega) (by simp [catB, HV.out, HT1.out]; omega) (fun i x hx => by
    have hi := (List.getElem?_eq_some_iff.1 hx).1
    simp only [List.length_cons, List.length_nil] at hi
    obtain rfl | rfl | rfl | rfl : i = 0 ∨ i = 1 ∨ i = 2 ∨ i = 3 := by omega
    · obtain rfl := Option.some.inj hx; exact ⟨(N6.out.now.at 0), isStr_one (L6.out.now.at 0)⟩
    · obtain rfl := Option.some.inj hx; exact ⟨(N6.out.now.at 1), I6.out.1.1⟩
    · obtain rfl := Option.some.inj hx; exact ⟨(N6.out.now.at 2), isStr_one (M6.out.now.at 0)⟩
    · obtain rfl := Option.some.inj hx; exact ⟨(N6.out.now.at 3), P6.out⟩)).mono ?_
      rintro e w7 ⟨rv, rfl, ro, hb⟩
      have B7 := Lib.hid (B6.out.trans (hb.mono B6.out.size))
      have X7 := Lib.hid (X6.out.next hb)
      have I7 := Lib.hid (I6.out.next hb)
      have M7 := Lib.hid (M6.out.next hb)
      have L7 := Lib.hid (L6.out.next hb)
      have P7 := Lib.hid (P6.out.next hb)
      have N7 := Lib.hid (N6.out.next hb)
      clear hb B6 X6 I6 M6 L6 P6 N6
      have ro2 := ro
      rw [show catB _ = [selB] ++ vs ++ [wheB] ++ t1.map patB from by simp [catB]] at ro2
      clear ro
      have R7 := Lib.hid ro2
      clear ro2
      clear L7
      clear M7
      clear N7
      clear P7
      go_wp2_with fail
      clear hHeld
      refine hK.out _ _ ?_ (fun hHeld => ?_)
      · exact X7.out.now.tre
      clear hK K
      refine wpAnyH_take (i := 9) (v := ?_) rfl (by kernel_rfl) (by kernel_rfl) (by kernel_rfl) (fun _ _ _ h => h) (Or.inl ⟨by kernel_rfl, ?_⟩) (by assumption) ?_
      rotate_left
      · intro w hSw; (try dsimp only at hSw); go_simp; try with_reducible rfl
      refine wpAnyH_done (by kernel_rfl) ?_ _
      try simp only [Act.put, List.setIfInBounds_toArray, List.set_cons_zero, List.set_cons_succ, List.getElem_toArray, List.getElem_cons_zero, List.getElem_cons_succ]
      clear hHeld
      obtain ⟨v, u, z⟩ := X7.out.now.tre
      obtain ⟨ra, rc, re, ri⟩ := R7.out.is
      obtain ⟨rn, hrn⟩ : ∃ n, ([selB] ++ vs ++ [wheB] ++ t1.map patB).length = n := ⟨_, rfl⟩
      rw [hrn] at re ri
      subst re
      have hr10 : rn ≤ 10 := by rw [← hrn]; simp only [List.length_append, List.length_cons, List.length_nil, List.length_map]; have := HV.out; have := HT1.out; omega
      have RI7 := Lib.hid ri
      clear ri R7 hrn
      have hb := (Below.refl (w7).heap.size (w7)).alloc (Nat.le_refl _) (.cells #[.string ⟨#[97, 108, 115, 111]⟩] 9)
      have B8 := Lib.hid (B7.out.alloc B7.out.size (.cells #[.string ⟨#[97, 108, 115, 111]⟩] 9))
      have X8 := Lib.hid (X7.out.next hb)
      have I8 := Lib.hid (I7.out.next hb)
      have RI8 := Lib.hid (RI7.out.next hb)
      clear hb B7 X7 I7 RI7
      have L8 := Lib.hid (cells_new w7 #[.string ⟨#[97, 108, 115, 111]⟩] 9)
      obtain ⟨v9, u9, z9⟩ := X8.out.now.tre
      have PC := Lib.hid (implPointedAll a2 n2 c2 t2 _ I8.out.2.2 HS2.out hl2)
      go_wp2_with fail
      refine (PC.out).mono ?_
      rintro e w9 ⟨pv2, rfl, po2, hb⟩
      have B9 := Lib.hid (B8.out.trans (hb.mono B8.out.size))
      have X9 := Lib.hid (X8.out.next hb)
      have I9 := Lib.hid (I8.out.next hb)
      have RI9 := Lib.hid (RI8.out.next hb)
      have L9 := Lib.hid (L8.out.next hb)
      clear hb B8 X8 I8 RI8 L8
      clear v u z v9 u9 z9 PC
      obtain ⟨qa, qc, rfl, iq⟩ := po2.is
      have hq4 : (t2.map patB).length = n2 := by rw [List.length_map, HT2.out]
      rw [hq4] at iq ⊢
      have PQ9 := Lib.hid iq
      clear po2 iq hq4
      have hb := (Below.refl (w9).heap.size (w9)).alloc (Nat.le_refl _) (.cells #[.slice ra rn rc, .slice (some ⟨w7.heap.size, 0, none⟩) 1 1, .slice qa n2 qc] 36)
      have B10 := Lib.hid (B9.out.alloc B9.out.size (.cells #[.slice ra rn rc, .slice (some ⟨w7.heap.size, 0, none⟩) 1 1, .slice qa n2 qc] 36))
      have X10 := Lib.hid (X9.out.next hb)
      have I10 := Lib.hid (I9.out.next hb)
      have RI10 := Lib.hid (RI9.out.next hb)
      have L10 := Lib.hid (L9.out.next hb)
      have PQ10 := Lib.hid (PQ9.out.next hb)
      clear hb B9 X9 I9 RI9 L9 PQ9
      have N10 := Lib.hid (cells_new w9 #[.slice ra rn rc, .slice (some ⟨w7.heap.size, 0, none⟩) 1 1, .slice qa n2 qc] 36)
      have CC := Lib.hid (implConcat _ 3 [(ra, rn, rc, [selB] ++ vs ++ [wheB] ++ t1.map patB), (some ⟨w7.heap.size, 0, none⟩, 1, 1, [alsB]), (qa, n2, qc, t2.map patB)] _ rfl (Nat.lt_of_lt_of_le (Nat.lt_succ_self _) N10.out.le) (by omega) (by simp [catB, HV.out, HT1.out, HT2.out]; omega) (fun i x hx => by
        have hi := (List.getElem?_eq_some_iff.1 hx).1
        simp only [List.length_cons, List.length_nil] at hi
        obtain rfl | rfl | rfl : i = 0 ∨ i = 1 ∨ i = 2 := by omega
        · obtain rfl := Option.some.inj hx; exact ⟨(N10.out.now.at 0), by simpa using RI10.out⟩
        · obtain rfl := Option.some.inj hx; exact ⟨(N10.out.now.at 1), isStr_one (L10.out.now.at 0)⟩
        · obtain rfl := Option.some.inj hx; exact ⟨(N10.out.now.at 2), PQ10.out⟩))
      rw [show catB [(ra, rn, rc, [selB] ++ vs ++ [wheB] ++ t1.map patB), (some ⟨w7.heap.size, 0, none⟩, 1, 1, [alsB]), (qa, n2, qc, t2.map patB)] = qWords vs t1 t2 from by unfold qWords alsoW; rw [if_neg hz2.out]; simp [catB]] at CC
      go_wp2_with fail
      refine (CC.out).mono ?_
      rintro e w11 ⟨jv, rfl, jo, hb⟩
      have B11 := Lib.hid (B10.out.trans (hb.mono B10.out.size))
      have X11 := Lib.hid (X10.out.next hb)
      have I11 := Lib.hid (I10.out.next hb)
      have RI11 := Lib.hid (RI10.out.next hb)
      have L11 := Lib.hid (L10.out.next hb)
      have PQ11 := Lib.hid (PQ10.out.next hb)
      have N11 := Lib.hid (N10.out.next hb)
      clear hb B10 X10 I10 RI10 L10 PQ10 N10
      clear L11
      clear N11
      clear PQ11
      clear RI11
      have JN := Lib.hid (implJoinS jo (by unfold qWords; simp) (by have := HLW.out; omega) (by have := HMO.out; omega))
      rw [HQ.out] at JN
      clear jo CC
      go_wp2_with fail
      refine (JN.out).mono ?_
      rintro e w12 ⟨rfl, hb⟩
      have B12 := Lib.hid (B11.out.trans (hb.mono B11.out.size))
      have X12 := Lib.hid (X11.out.next hb)
      have I12 := Lib.hid (I11.out.next hb)
      clear hb B11 X11 I11
      go_wp2_with fail
      go_ret
      exact ⟨rfl, B12.out⟩
    · go_simp
      refine (implPointedAll a1 n1 c1 t1 _ I3.out.2.1 HS1.out hl1).mono ?_
      rintro e w4 ⟨pv, rfl, po, hb⟩
      have B4 := Lib.hid (B3.out.trans (hb.mono B3.out.size))
      have X4 := Lib.hid (X3.out.next hb)
      have I4 := Lib.hid (I3.out.next hb)
      have M4 := Lib.hid (M3.out.next hb)
      clear hb B3 X3 I3 M3
      obtain ⟨pa, pc, rfl, ip⟩ := po.is
      have hp4 : (t1.map patB).length = n1 := by rw [List.length_map, HT1.out]
      rw [hp4] at ip ⊢
      clear po hp4
      have P4 := Lib.hid ip
      clear ip
      go_wp2_with fail
      clear hHeld
      refine hK.out _ _ ?_ (fun hHeld => ?_)
      · exact X4.out.now.tre
      clear hK K
      refine wpAnyH_ready (rs := [0]) (by kernel_rfl) (by simp) ?_
      refine (AllReadyH.cons rfl (fun K hK => ?_) AllReadyH.nil)
      go_simp
      clear hHeld
      refine hK.out _ _ ?_ (fun hHeld => ?_)
      · exact (X4.out.alloc _).now.tre
      clear hK K
      have hb := (Below.refl (w4).heap.size (w4)).alloc (Nat.le_refl _) (.cells #[.string ⟨#[115, 101, 108, 101, 99, 116]⟩] 9)
      have B5 := Lib.hid (B4.out.alloc B4.out.size (.cells #[.string ⟨#[115, 101, 108, 101, 99, 116]⟩] 9))
      have X5 := Lib.hid (X4.out.next hb)
      have I5 := Lib.hid (I4.out.next hb)
      have M5 := Lib.hid (M4.out.next hb)
      have P5 := Lib.hid (P4.out.next hb)
      clear hb B4 X4 I4 M4 P4
      have L5 := Lib.hid (cells_new w4 #[.string ⟨#[115, 101, 108, 101, 99, 116]⟩] 9)
      generalize w4.alloc (.cells #[.string ⟨#[115, 101, 108, 101, 99, 116]⟩] 9) = V5 at B5 X5 I5 M5 P5 L5 hHeld ⊢
      refine wpAnyH_ready (rs := [7]) (by kernel_rfl) (by simp) ?_
      refine (AllReadyH.cons rfl (fun K hK => ?_) AllReadyH.nil)
      go_simp
      clear hHeld
      refine hK.out _ _ ?_ (fun hHeld => ?_)
      · exact (X5.out.alloc _).now.tre
      clear hK K
      have hb := (Below.refl (V5).heap.size (V5)).alloc (Nat.le_refl _) (.cells #[.slice (some ⟨w4.heap.size, 0, none⟩) 1 1, .slice a0 n0 c0, .slice (some ⟨V0.heap.size, 0, none⟩) 1 1, .slice pa n1 pc] 36)
      have B6 := Lib.hid (B5.out.alloc B5.out.size (.cells #[.slice (some ⟨w4.heap.size, 0, none⟩) 1 1, .slice a0 n0 c0, .slice (some ⟨V0.heap.size, 0, none⟩) 1 1, .slice pa n1 pc] 36))
      have X6 := Lib.hid (X5.out.next hb)
      have I6 := Lib.hid (I5.out.next hb)
      have M6 := Lib.hid (M5.out.next hb)
      have P6 := Lib.hid (P5.out.next hb)
      have L6 := Lib.hid (L5.out.next hb)
      clear hb B5 X5 I5 M5 P5 L5
      have N6 := Lib.hid (cells_new V5 #[.slice (some ⟨w4.heap.size, 0, none⟩) 1 1, .slice a0 n0 c0, .slice (some ⟨V0.heap.size, 0, none⟩) 1 1, .slice pa n1 pc] 36)
      generalize V5.alloc (.cells #[.slice (some ⟨w4.heap.size, 0, none⟩) 1 1, .slice a0 n0 c0, .slice (some ⟨V0.heap.size, 0, none⟩) 1 1, .slice pa n1 pc] 36) = V6 at B6 X6 I6 M6 P6 L6 N6 hHeld ⊢
      refine wpAnyH_ready (rs := [8]) (by kernel_rfl) (by simp) ?_
      refine (AllReadyH.cons rfl (fun K hK => ?_) AllReadyH.nil)
      go_simp
      refine (implConcat _ 4 [(some ⟨w4.heap.size, 0, none⟩, 1, 1, [selB]), (a0, n0, c0, vs), (some ⟨V0.heap.size, 0, none⟩, 1, 1, [wheB]), (pa, n1, pc, t1.map patB)] _ rfl (Nat.lt_of_lt_of_le (Nat.lt_succ_self _) N6.out.le) (by omega) (by simp [catB, HV.out, HT1.out]; omega) (fun i x hx => by
    have hi := (List.getElem?_eq_some_iff.1 hx).1
    simp only [List.length_cons, List.length_nil] at hi
    obtain rfl | rfl | rfl | rfl : i = 0 ∨ i = 1 ∨ i = 2 ∨ i = 3 := by omega
    · obtain rfl := Option.some.inj hx; exact ⟨(N6.out.now.at 0), isStr_one (L6.out.now.at 0)⟩
    · obtain rfl := Option.some.inj hx; exact ⟨(N6.out.now.at 1), I6.out.1.1⟩
    · obtain rfl := Option.some.inj hx; exact ⟨(N6.out.now.at 2), isStr_one (M6.out.now.at 0)⟩
    · obtain rfl := Option.some.inj hx; exact ⟨(N6.out.now.at 3), P6.out⟩)).mono ?_
      rintro e w7 ⟨rv, rfl, ro, hb⟩
      have B7 := Lib.hid (B6.out.trans (hb.mono B6.out.size))
      have X7 := Lib.hid (X6.out.next hb)
      have I7 := Lib.hid (I6.out.next hb)
      have M7 := Lib.hid (M6.out.next hb)
      have P7 := Lib.hid (P6.out.next hb)
      have L7 := Lib.hid (L6.out.next hb)
      have N7 := Lib.hid (N6.out.next hb)
      clear hb B6 X6 I6 M6 P6 L6 N6
      have ro2 := ro
      rw [show catB _ = [selB] ++ vs ++ [wheB] ++ t1.map patB from by simp [catB]] at ro2
      clear ro
      have R7 := Lib.hid ro2
      clear ro2
      clear L7
      clear M7
      clear N7
      clear P7
      go_wp2_with fail
      clear hHeld
      refine hK.out _ _ ?_ (fun hHeld => ?_)
      · exact X7.out.now.tre
      clear hK K
      refine wpAnyH_take (i := 9) (v := ?_) rfl (by kernel_rfl) (by kernel_rfl) (by kernel_rfl) (fun _ _ _ h => h) (Or.inl ⟨by kernel_rfl, ?_⟩) (by assumption) ?_
      rotate_left
      · intro w hSw; (try dsimp only at hSw); go_simp; try with_reducible rfl
      refine wpAnyH_done (by kernel_rfl) ?_ _
      try simp only [Act.put, List.setIfInBounds_toArray, List.set_cons_zero, List.set_cons_succ, List.getElem_toArray, List.getElem_cons_zero, List.getElem_cons_succ]
      clear hHeld
      obtain ⟨v, u, z⟩ := X7.out.now.tre
      obtain ⟨ra, rc, re, ri⟩ := R7.out.is
      obtain ⟨rn, hrn⟩ : ∃ n, ([selB] ++ vs ++ [wheB] ++ t1.map patB).length = n := ⟨_, rfl⟩
      rw [hrn] at re ri
      subst re
      have hr10 : rn ≤ 10 := by rw [← hrn]; simp only [List.length_append, List.length_cons, List.length_nil, List.length_map]; have := HV.out; have := HT1.out; omega
      have RI7 := Lib.hid ri
      clear ri R7 hrn
      have hb := (Below.refl (w7).heap.size (w7)).alloc (Nat.le_refl _) (.cells #[.string ⟨#[97, 108, 115, 111]⟩] 9)
      have B8 := Lib.hid (B7.out.alloc B7.out.size (.cells #[.string ⟨#[97, 108, 115, 111]⟩] 9))
      have X8 := Lib.hid (X7.out.next hb)
      have I8 := Lib.hid (I7.out.next hb)
      have RI8 := Lib.hid (RI7.out.next hb)
      clear hb B7 X7 I7 RI7
      have L8 := Lib.hid (cells_new w7 #[.string ⟨#[97, 108, 115, 111]⟩] 9)
      obtain ⟨v9, u9, z9⟩ := X8.out.now.tre
      have PC := Lib.hid (implPointedAll a2 n2 c2 t2 _ I8.out.2.2 HS2.out hl2)
      go_wp2_with fail
      refine (PC.out).mono ?_
      rintro e w9 ⟨pv2, rfl, po2, hb⟩
      have B9 := Lib.hid (B8.out.trans (hb.mono B8.out.size))
      have X9 := Lib.hid (X8.out.next hb)
      have I9 := Lib.hid (I8.out.next hb)
      have RI9 := Lib.hid (RI8.out.next hb)
      have L9 := Lib.hid (L8.out.next hb)
      clear hb B8 X8 I8 RI8 L8
      clear v u z v9 u9 z9 PC
      obtain ⟨qa, qc, rfl, iq⟩ := po2.is
      have hq4 : (t2.map patB).length = n2 := by rw [List.length_map, HT2.out]
      rw [hq4] at iq ⊢
      have PQ9 := Lib.hid iq
      clear po2 iq hq4
      have hb := (Below.refl (w9).heap.size (w9)).alloc (Nat.le_refl _) (.cells #[.slice ra rn rc, .slice (some ⟨w7.heap.size, 0, none⟩) 1 1, .slice qa n2 qc] 36)
      have B10 := Lib.hid (B9.out.alloc B9.out.size (.cells #[.slice ra rn rc, .slice (some ⟨w7.heap.size, 0, none⟩) 1 1, .slice qa n2 qc] 36))
      have X10 := Lib.hid (X9.out.next hb)
      have I10 := Lib.hid (I9.out.next hb)
      have RI10 := Lib.hid (RI9.out.next hb)
      have L10 := Lib.hid (L9.out.next hb)
      have PQ10 := Lib.hid (PQ9.out.next hb)
      clear hb B9 X9 I9 RI9 L9 PQ9
      have N10 := Lib.hid (cells_new w9 #[.slice ra rn rc, .slice (some ⟨w7.heap.size, 0, none⟩) 1 1, .slice qa n2 qc] 36)
      have CC := Lib.hid (implConcat _ 3 [(ra, rn, rc, [selB] ++ vs ++ [wheB] ++ t1.map patB), (some ⟨w7.heap.size, 0, none⟩, 1, 1, [alsB]), (qa, n2, qc, t2.map patB)] _ rfl (Nat.lt_of_lt_of_le (Nat.lt_succ_self _) N10.out.le) (by omega) (by simp [catB, HV.out, HT1.out, HT2.out]; omega) (fun i x hx => by
        have hi := (List.getElem?_eq_some_iff.1 hx).1
        simp only [List.length_cons, List.length_nil] at hi
        obtain rfl | rfl | rfl : i = 0 ∨ i = 1 ∨ i = 2 := by omega
        · obtain rfl := Option.some.inj hx; exact ⟨(N10.out.now.at 0), by simpa using RI10.out⟩
        · obtain rfl := Option.some.inj hx; exact ⟨(N10.out.now.at 1), isStr_one (L10.out.now.at 0)⟩
        · obtain rfl := Option.some.inj hx; exact ⟨(N10.out.now.at 2), PQ10.out⟩))
      rw [show catB [(ra, rn, rc, [selB] ++ vs ++ [wheB] ++ t1.map patB), (some ⟨w7.heap.size, 0, none⟩, 1, 1, [alsB]), (qa, n2, qc, t2.map patB)] = qWords vs t1 t2 from by unfold qWords alsoW; rw [if_neg hz2.out]; simp [catB]] at CC
      go_wp2_with fail
      refine (CC.out).mono ?_
      rintro e w11 ⟨jv, rfl, jo, hb⟩
      have B11 := Lib.hid (B10.out.trans (hb.mono B10.out.size))
      have X11 := Lib.hid (X10.out.next hb)
      have I11 := Lib.hid (I10.out.next hb)
      have RI11 := Lib.hid (RI10.out.next hb)
      have L11 := Lib.hid (L10.out.next hb)
      have PQ11 := Lib.hid (PQ10.out.next hb)
      have N11 := Lib.hid (N10.out.next hb)
      clear hb B10 X10 I10 RI10 L10 PQ10 N10
      clear L11
      clear N11
      clear PQ11
      clear RI11
      have JN := Lib.hid (implJoinS jo (by unfold qWords; simp) (by have := HLW.out; omega) (by have := HMO.out; omega))
      rw [HQ.out] at JN
      clear jo CC
      go_wp2_with fail
      refine (JN.out).mono ?_
      rintro e w12 ⟨rfl, hb⟩
      have B12 := Lib.hid (B11.out.trans (hb.mono B11.out.size))
      have X12 := Lib.hid (X11.out.next hb)
      have I12 := Lib.hid (I11.out.next hb)
      clear hb B11 X11 I11
      go_wp2_with fail
      go_ret
      exact ⟨rfl, B12.out⟩
  · go_simp
    refine (implPointedAll a1 n1 c1 t1 _ I2.out.2.1 HS1.out hl1).mono ?_
    rintro e w3 ⟨pv, rfl, po, hb⟩
    have B3 := Lib.hid (B2.out.trans (hb.mono B2.out.size))
    have X3 := Lib.hid (X2.out.next hb)
    have I3 := Lib.hid (I2.out.next hb)
    clear hb B2 X2 I2
    obtain ⟨pa, pc, rfl, ip⟩ := po.is
    have hp4 : (t1.map patB).length = n1 := by rw [List.length_map, HT1.out]
    rw [hp4] at ip ⊢
    clear po hp4
    have P3 := Lib.hid ip
    clear ip
    go_wp2_with fail
    clear hHeld
    refine hK.out _ _ ?_ (fun hHeld => ?_)
    · exact X3.out.now.tre
    clear hK K
    refine wpAnyH_ready (rs := [0, 3]) (by kernel_rfl) (by simp) ?_
    refine (AllReadyH.cons rfl (fun K hK => ?_) (AllReadyH.cons rfl (fun K hK => ?_) AllReadyH.nil))
    · go_simp
      clear hHeld
      refine hK.out _ _ ?_ (fun hHeld => ?_)
      · exact (X3.out.alloc _).now.tre
      clear hK K
      have hb := (Below.refl (w3).heap.size (w3)).alloc (Nat.le_refl _) (.cells #[.string ⟨#[115, 101, 108, 101, 99, 116]⟩] 9)
      have B4 := Lib.hid (B3.out.alloc B3.out.size (.cells #[.string ⟨#[115, 101, 108, 101, 99, 116]⟩] 9))
      have X4 := Lib.hid (X3.out.next hb)
      have I4 := Lib.hid (I3.out.next hb)
      have P4 := Lib.hid (P3.out.next hb)
      clear hb B3 X3 I3 P3
      have L4 := Lib.hid (cells_new w3 #[.string ⟨#[115, 101, 108, 101, 99, 116]⟩] 9)
      generalize w3.alloc (.cells #[.string ⟨#[115, 101, 108, 101, 99, 116]⟩] 9) = V4 at B4 X4 I4 P4 L4 hHeld ⊢
      refine wpAnyH_ready (rs := [3]) (by kernel_rfl) (by simp) ?_
      refine (AllReadyH.cons rfl (fun K hK => ?_) AllReadyH.nil)
      go_simp
      clear hHeld
      refine hK.out _ _ ?_ (fun hHeld => ?_)
      · exact (X4.out.alloc _).now.tre
      clear hK K
      have hb := (Below.refl (V4).heap.size (V4)).alloc (Nat.le_refl _) (.cells #[.string ⟨#[119, 104, 101, 114, 101]⟩] 9)
      have B5 := Lib.hid (B4.out.alloc B4.out.size (.cells #[.string ⟨#[119, 104, 101, 114, 101]⟩] 9))
      have X5 := Lib.hid (X4.out.next hb)
      have I5 := Lib.hid (I4.out.next hb)
      have P5 := Lib.hid (P4.out.next hb)
      have L5 := Lib.hid (L4.out.next hb)
      clear hb B4 X4 I4 P4 L4
      have M5 := Lib.hid (cells_new V4 #[.string ⟨#[119, 104, 101, 114, 101]⟩] 9)
      generalize V4.alloc (.cells #[.string ⟨#[119, 104, 101, 114, 101]⟩] 9) = V5 at B5 X5 I5 P5 L5 M5 hHeld ⊢
      refine wpAnyH_ready (rs := [7]) (by kernel_rfl) (by simp) ?_
      refine (AllReadyH.cons rfl (fun K hK => ?_) AllReadyH.nil)
      go_simp
      clear hHeld
      refine hK.out _ _ ?_ (fun hHeld => ?_)
      · exact (X5.out.alloc _).now.tre
      clear hK K
      have hb := (Below.refl (V5).heap.size (V5)).alloc (Nat.le_refl _) (.cells #[.slice (some ⟨w3.heap.size, 0, none⟩) 1 1, .slice a0 n0 c0, .slice (some ⟨V4.heap.size, 0, none⟩) 1 1, .slice pa n1 pc] 36)
      have B6 := Lib.hid (B5.out.alloc B5.out.size (.cells #[.slice (some ⟨w3.heap.size, 0, none⟩) 1 1, .slice a0 n0 c0, .slice (some ⟨V4.heap.size, 0, none⟩) 1 1, .slice pa n1 pc] 36))
      have X6 := Lib.hid (X5.out.next hb)
      have I6 := Lib.hid (I5.out.next hb)
      have P6 := Lib.hid (P5.out.next hb)
      have L6 := Lib.hid (L5.out.next hb)
      have M6 := Lib.hid (M5.out.next hb)
      clear hb B5 X5 I5 P5 L5 M5
      have N6 := Lib.hid (cells_new V5 #[.slice (some ⟨w3.heap.size, 0, none⟩) 1 1, .slice a0 n0 c0, .slice (some ⟨V4.heap.size, 0, none⟩) 1 1, .slice pa n1 pc] 36)
      generalize V5.alloc (.cells #[.slice (some ⟨w3.heap.size, 0, none⟩) 1 1, .slice a0 n0 c0, .slice (some ⟨V4.heap.size, 0, none⟩) 1 1, .slice pa n1 pc] 36) = V6 at B6 X6 I6 P6 L6 M6 N6 hHeld ⊢
      refine wpAnyH_ready (rs := [8]) (by kernel_rfl) (by simp) ?_
      refine (AllReadyH.cons rfl (fun K hK => ?_) AllReadyH.nil)
      go_simp
      refine (implConcat _ 4 [(some ⟨w3.heap.size, 0, none⟩, 1, 1, [selB]), (a0, n0, c0, vs), (some ⟨V4.heap.size, 0, none⟩, 1, 1, [wheB]), (pa, n1, pc, t1.map patB)] _ rfl (Nat.lt_of_lt_of_le (Nat.lt_succ_self _) N6.out.le) (by omega) (by simp [catB, HV.out, HT1.out]; omega) (fun i x hx => by
    have hi := (List.getElem?_eq_some_iff.1 hx).1
    simp only [List.length_cons, List.length_nil] at hi
    obtain rfl | rfl | rfl | rfl : i = 0 ∨ i = 1 ∨ i = 2 ∨ i = 3 := by omega
    · obtain rfl := Option.some.inj hx; exact ⟨(N6.out.now.at 0), isStr_one (L6.out.now.at 0)⟩
    · obtain rfl := Option.some.inj hx; exact ⟨(N6.out.now.at 1), I6.out.1.1⟩
    · obtain rfl := Option.some.inj hx; exact ⟨(N6.out.now.at 2), isStr_one (M6.out.now.at 0)⟩
    · obtain rfl := Option.some.inj hx; exact ⟨(N6.out.now.at 3), P6.out⟩)).mono ?_
      rintro e w7 ⟨rv, rfl, ro, hb⟩
      have B7 := Lib.hid (B6.out.trans (hb.mono B6.out.size))
      have X7 := Lib.hid (X6.out.next hb)
      have I7 := Lib.hid (I6.out.next hb)
      have P7 := Lib.hid (P6.out.next hb)
      have L7 := Lib.hid (L6.out.next hb)
      have M7 := Lib.hid (M6.out.next hb)
      have N7 := Lib.hid (N6.out.next hb)
      clear hb B6 X6 I6 P6 L6 M6 N6
      have ro2 := ro
      rw [show catB _ = [selB] ++ vs ++ [wheB] ++ t1.map patB from by simp [catB]] at ro2
      clear ro
      have R7 := Lib.hid ro2
      clear ro2
      clear L7
      clear M7
      clear N7
      clear P7
      go_wp2_with fail
      clear hHeld
      refine hK.out _ _ ?_ (fun hHeld => ?_)
      · exact X7.out.now.tre
      clear hK K
      refine wpAnyH_take (i := 9) (v := ?_) rfl (by kernel_rfl) (by kernel_rfl) (by kernel_rfl) (fun _ _ _ h => h) (Or.inl ⟨by kernel_rfl, ?_⟩) (by assumption) ?_
      rotate_left
      · intro w hSw; (try dsimp only at hSw); go_simp; try with_reducible rfl
      refine wpAnyH_done (by kernel_rfl) ?_ _
      try simp only [Act.put, List.setIfInBounds_toArray, List.set_cons_zero, List.set_cons_succ, List.getElem_toArray, List.getElem_cons_zero, List.getElem_cons_succ]
      clear hHeld
      obtain ⟨v, u, z⟩ := X7.out.now.tre
      obtain ⟨ra, rc, re, ri⟩ := R7.out.is
      obtain ⟨rn, hrn⟩ : ∃ n, ([selB] ++ vs ++ [wheB] ++ t1.map patB).length = n := ⟨_, rfl⟩
      rw [hrn] at re ri
      subst re
      have hr10 : rn ≤ 10 := by rw [← hrn]; simp only [List.length_append, List.length_cons, List.length_nil, List.length_map]; have := HV.out; have := HT1.out; omega
      have RI7 := Lib.hid ri
      clear ri R7 hrn
      have hb := (Below.refl (w7).heap.size (w7)).alloc (Nat.le_refl _) (.cells #[.string ⟨#[97, 108, 115, 111]⟩] 9)
      have B8 := Lib.hid (B7.out.alloc B7.out.size (.cells #[.string ⟨#[97, 108, 115, 111]⟩] 9))
      have X8 := Lib.hid (X7.out.next hb)
      have I8 := Lib.hid (I7.out.next hb)
      have RI8 := Lib.hid (RI7.out.next hb)
      clear hb B7 X7 I7 RI7
      have L8 := Lib.hid (cells_new w7 #[.string ⟨#[97, 108, 115, 111]⟩] 9)
      obtain ⟨v9, u9, z9⟩ := X8.out.now.tre
      have PC := Lib.hid (implPointedAll a2 n2 c2 t2 _ I8.out.2.2 HS2.out hl2)
      go_wp2_with fail
      refine (PC.out).mono ?_
      rintro e w9 ⟨pv2, rfl, po2, hb⟩
      have B9 := Lib.hid (B8.out.trans (hb.mono B8.out.size))
      have X9 := Lib.hid (X8.out.next hb)
      have I9 := Lib.hid (I8.out.next hb)
      have RI9 := Lib.hid (RI8.out.next hb)
      have L9 := Lib.hid (L8.out.next hb)
      clear hb B8 X8 I8 RI8 L8
      clear v u z v9 u9 z9 PC
      obtain ⟨qa, qc, rfl, iq⟩ := po2.is
      have hq4 : (t2.map patB).length = n2 := by rw [List.length_map, HT2.out]
      rw [hq4] at iq ⊢
      have PQ9 := Lib.hid iq
      clear po2 iq hq4
      have hb := (Below.refl (w9).heap.size (w9)).alloc (Nat.le_refl _) (.cells #[.slice ra rn rc, .slice (some ⟨w7.heap.size, 0, none⟩) 1 1, .slice qa n2 qc] 36)
      have B10 := Lib.hid (B9.out.alloc B9.out.size (.cells #[.slice ra rn rc, .slice (some ⟨w7.heap.size, 0, none⟩) 1 1, .slice qa n2 qc] 36))
      have X10 := Lib.hid (X9.out.next hb)
      have I10 := Lib.hid (I9.out.next hb)
      have RI10 := Lib.hid (RI9.out.next hb)
      have L10 := Lib.hid (L9.out.next hb)
      have PQ10 := Lib.hid (PQ9.out.next hb)
      clear hb B9 X9 I9 RI9 L9 PQ9
      have N10 := Lib.hid (cells_new w9 #[.slice ra rn rc, .slice (some ⟨w7.heap.size, 0, none⟩) 1 1, .slice qa n2 qc] 36)
      have CC := Lib.hid (implConcat _ 3 [(ra, rn, rc, [selB] ++ vs ++ [wheB] ++ t1.map patB), (some ⟨w7.heap.size, 0, none⟩, 1, 1, [alsB]), (qa, n2, qc, t2.map patB)] _ rfl (Nat.lt_of_lt_of_le (Nat.lt_succ_self _) N10.out.le) (by omega) (by simp [catB, HV.out, HT1.out, HT2.out]; omega) (fun i x hx => by
        have hi := (List.getElem?_eq_some_iff.1 hx).1
        simp only [List.length_cons, List.length_nil] at hi
        obtain rfl | rfl | rfl : i = 0 ∨ i = 1 ∨ i = 2 := by omega
        · obtain rfl := Option.some.inj hx; exact ⟨(N10.out.now.at 0), by simpa using RI10.out⟩
        · obtain rfl := Option.some.inj hx; exact ⟨(N10.out.now.at 1), isStr_one (L10.out.now.at 0)⟩
        · obtain rfl := Option.some.inj hx; exact ⟨(N10.out.now.at 2), PQ10.out⟩))
      rw [show catB [(ra, rn, rc, [selB] ++ vs ++ [wheB] ++ t1.map patB), (some ⟨w7.heap.size, 0, none⟩, 1, 1, [alsB]), (qa, n2, qc, t2.map patB)] = qWords vs t1 t2 from by unfold qWords alsoW; rw [if_neg hz2.out]; simp [catB]] at CC
      go_wp2_with fail
      refine (CC.out).mono ?_
      rintro e w11 ⟨jv, rfl, jo, hb⟩
      have B11 := Lib.hid (B10.out.trans (hb.mono B10.out.size))
      have X11 := Lib.hid (X10.out.next hb)
      have I11 := Lib.hid (I10.out.next hb)
      have RI11 := Lib.hid (RI10.out.next hb)
      have L11 := Lib.hid (L10.out.next hb)
      have PQ11 := Lib.hid (PQ10.out.next hb)
      have N11 := Lib.hid (N10.out.next hb)
      clear hb B10 X10 I10 RI10 L10 PQ10 N10
      clear L11
      clear N11
      clear PQ11
      clear RI11
      have JN := Lib.hid (implJoinS jo (by unfold qWords; simp) (by have := HLW.out; omega) (by have := HMO.out; omega))
      rw [HQ.out] at JN
      clear jo CC
      go_wp2_with fail
      refine (JN.out).mono ?_
      rintro e w12 ⟨rfl, hb⟩
      have B12 := Lib.hid (B11.out.trans (hb.mono B11.out.size))
      have X12 := Lib.hid (X11.out.next hb)
      have I12 := Lib.hid (I11.out.next hb)
      clear hb B11 X11 I11
      go_wp2_with fail
      go_ret
      exact ⟨rfl, B12.out⟩
    · go_simp
      clear hHeld
      refine hK.out _ _ ?_ (fun hHeld => ?_)
      · exact (X3.out.alloc _).now.tre
      clear hK K
      have hb := (Below.refl (w3).heap.size (w3)).alloc (Nat.le_refl _) (.cells #[.string ⟨#[119, 104, 101, 114, 101]⟩] 9)
      have B4 := Lib.hid (B3.out.alloc B3.out.size (.cells #[.string ⟨#[119, 104, 101, 114, 101]⟩] 9))
      have X4 := Lib.hid (X3.out.next hb)
      have I4 := Lib.hid (I3.out.next hb)
      have P4 := Lib.hid (P3.out.next hb)
      clear hb B3 X3 I3 P3
      have M4 := Lib.hid (cells_new w3 #[.string ⟨#[119, 104, 101, 114, 101]⟩] 9)
      generalize w3.alloc (.cells #[.string ⟨#[119, 104, 101, 114, 101]⟩] 9) = V4 at B4 X4 I4 P4 M4 hHeld ⊢
      refine wpAnyH_ready (rs := [0]) (by kernel_rfl) (by simp) ?_
      refine (AllReadyH.cons rfl (fun K hK => ?_) AllReadyH.nil)
      go_simp
      clear hHeld
      refine hK.out _ _ ?_ (fun hHeld => ?_)
      · exact (X4.out.alloc _).now.tre
      clear hK K
      have hb := (Below.refl (V4).heap.size (V4)).alloc (Nat.le_refl _) (.cells #[.string ⟨#[115, 101, 108, 101, 99, 116]⟩] 9)
      have B5 := Lib.hid (B4.out.alloc B4.out.size (.cells #[.string ⟨#[115, 101, 108, 101, 99, 116]⟩] 9))
      have X5 := Lib.hid (X4.out.next hb)
      have I5 := Lib.hid (I4.out.next hb)
      have P5 := Lib.hid (P4.out.next hb)
      have M5 := Lib.hid (M4.out.next hb)
      clear hb B4 X4 I4 P4 M4
      have L5 := Lib.hid (cells_new V4 #[.string ⟨#[115, 101, 108, 101, 99, 116]⟩] 9)
      generalize V4.alloc (.cells #[.string ⟨#[115, 101, 108, 101, 99, 116]⟩] 9) = V5 at B5 X5 I5 P5 M5 L5 hHeld ⊢
      refine wpAnyH_ready (rs := [7]) (by kernel_rfl) (by simp) ?_
      refine (AllReadyH.cons rfl (fun K hK => ?_) AllReadyH.nil)
      go_simp
      clear hHeld
      refine hK.out _ _ ?_ (fun hHeld => ?_)
      · exact (X5.out.alloc _).now.tre
      clear hK K
      have hb := (Below.refl (V5).heap.size (V5)).alloc (Nat.le_refl _) (.cells #[.slice (some ⟨V4.heap.size, 0, none⟩) 1 1, .slice a0 n0 c0, .slice (some ⟨w3.heap.size, 0, none⟩) 1 1, .slice pa n1 pc] 36)
      have B6 := Lib.hid (B5.out.alloc B5.out.size (.cells #[.slice (some ⟨V4.heap.size, 0, none⟩) 1 1, .slice a0 n0 c0, .slice (some ⟨w3.heap.size, 0, none⟩) 1 1, .slice pa n1 pc] 36))
      have X6 := Lib.hid (X5.out.next hb)
      have I6 := Lib.hid (I5.out.next hb)
      have P6 := Lib.hid (P5.out.next hb)
      have M6 := Lib.hid (M5.out.next hb)
      have L6 := Lib.hid (L5.out.next hb)
      clear hb B5 X5 I5 P5 M5 L5
      have N6 := Lib.hid (cells_new V5 #[.slice (some ⟨V4.heap.size, 0, none⟩) 1 1, .slice a0 n0 c0, .slice (some ⟨w3.heap.size, 0, none⟩) 1 1, .slice pa n1 pc] 36)
      generalize V5.alloc (.cells #[.slice (some ⟨V4.heap.size, 0, none⟩) 1 1, .slice a0 n0 c0, .slice (some ⟨w3.heap.size, 0, none⟩) 1 1, .slice pa n1 pc] 36) = V6 at B6 X6 I6 P6 M6 L6 N6 hHeld ⊢
      refine wpAnyH_ready (rs := [8]) (by kernel_rfl) (by simp) ?_
      refine (AllReadyH.cons rfl (fun K hK => ?_) AllReadyH.nil)
      go_simp
      refine (implConcat _ 4 [(some ⟨V4.heap.size, 0, none⟩, 1, 1, [selB]), (a0, n0, c0, vs), (some ⟨w3.heap.size, 0, none⟩, 1, 1, [wheB]), (pa, n1, pc, t1.map patB)] _ rfl (Nat.lt_of_lt_of_le (Nat.lt_succ_self _) N6.out.le) (by omega) (by simp [catB, HV.out, HT1.out]; omega) (fun i x hx => by
    have hi := (List.getElem?_eq_some_iff.1 hx).1
    simp only [List.length_cons, List.length_nil] at hi
    obtain rfl | rfl | rfl | rfl : i = 0 ∨ i = 1 ∨ i = 2 ∨ i = 3 := by omega
    · obtain rfl := Option.some.inj hx; exact ⟨(N6.out.now.at 0), isStr_one (L6.out.now.at 0)⟩
    · obtain rfl := Option.some.inj hx; exact ⟨(N6.out.now.at 1), I6.out.1.1⟩
    · obtain rfl := Option.some.inj hx; exact ⟨(N6.out.now.at 2), isStr_one (M6.out.now.at 0)⟩
    · obtain rfl := Option.some.inj hx; exact ⟨(N6.out.now.at 3), P6.out⟩)).mono ?_
      rintro e w7 ⟨rv, rfl, ro, hb⟩
      have B7 := Lib.hid (B6.out.trans (hb.mono B6.out.size))
      have X7 := Lib.hid (X6.out.next hb)
      have I7 := Lib.hid (I6.out.next hb)
      have P7 := Lib.hid (P6.out.next hb)
      have M7 := Lib.hid (M6.out.next hb)
      have L7 := Lib.hid (L6.out.next hb)
      have N7 := Lib.hid (N6.out.next hb)
      clear hb B6 X6 I6 P6 M6 L6 N6
      have ro2 := ro
      rw [show catB _ = [selB] ++ vs ++ [wheB] ++ t1.map patB from by simp [catB]] at ro2
      clear ro
      have R7 := Lib.hid ro2
      clear ro2
      clear L7
      clear M7
      clear N7
      clear P7
      go_wp2_with fail
      clear hHeld
      refine hK.out _ _ ?_ (fun hHeld => ?_)
      · exact X7.out.now.tre
      clear hK K
      refine wpAnyH_take (i := 9) (v := ?_) rfl (by kernel_rfl) (by kernel_rfl) (by kernel_rfl) (fun _ _ _ h => h) (Or.inl ⟨by kernel_rfl, ?_⟩) (by assumption) ?_
      rotate_left
      · intro w hSw; (try dsimp only at hSw); go_simp; try with_reducible rfl
      refine wpAnyH_done (by kernel_rfl) ?_ _
      try simp only [Act.put, List.setIfInBounds_toArray, List.set_cons_zero, List.set_cons_succ, List.getElem_toArray, List.getElem_cons_zero, List.getElem_cons_succ]
      clear hHeld
      obtain ⟨v, u, z⟩ := X7.out.now.tre
      obtain ⟨ra, rc, re, ri⟩ := R7.out.is
      obtain ⟨rn, hrn⟩ : ∃ n, ([selB] ++ vs ++ [wheB] ++ t1.map patB).length = n := ⟨_, rfl⟩
      rw [hrn] at re ri
      subst re
      have hr10 : rn ≤ 10 := by rw [← hrn]; simp only [List.length_append, List.length_cons, List.length_nil, List.length_map]; have := HV.out; have := HT1.out; omega
      have RI7 := Lib.hid ri
      clear ri R7 hrn
      have hb := (Below.refl (w7).heap.size (w7)).alloc (Nat.le_refl _) (.cells #[.string ⟨#[97, 108, 115, 111]⟩] 9)
      have B8 := Lib.hid (B7.out.alloc B7.out.size (.cells #[.string ⟨#[97, 108, 115, 111]⟩] 9))
      have X8 := Lib.hid (X7.out.next hb)
      have I8 := Lib.hid (I7.out.next hb)
      have RI8 := Lib.hid (RI7.out.next hb)
      clear hb B7 X7 I7 RI7
      have L8 := Lib.hid (cells_new w7 #[.string ⟨#[97, 108, 115, 111]⟩] 9)
      obtain ⟨v9, u9, z9⟩ := X8.out.now.tre
      have PC := Lib.hid (implPointedAll a2 n2 c2 t2 _ I8.out.2.2 HS2.out hl2)
      go_wp2_with fail
      refine (PC.out).mono ?_
      rintro e w9 ⟨pv2, rfl, po2, hb⟩
      have B9 := Lib.hid (B8.out.trans (hb.mono B8.out.size))
      have X9 := Lib.hid (X8.out.next hb)
      have I9 := Lib.hid (I8.out.next hb)
      have RI9 := Lib.hid (RI8.out.next hb)
      have L9 := Lib.hid (L8.out.next hb)
      clear hb B8 X8 I8 RI8 L8
      clear v u z v9 u9 z9 PC
      obtain ⟨qa, qc, rfl, iq⟩ := po2.is
      have hq4 : (t2.map patB).length = n2 := by rw [List.length_map, HT2.out]
      rw [hq4] at iq ⊢
      have PQ9 := Lib.hid iq
      clear po2 iq hq4
      have hb := (Below.refl (w9).heap.size (w9)).alloc (Nat.le_refl _) (.cells #[.slice ra rn rc, .slice (some ⟨w7.heap.size, 0, none⟩) 1 1, .slice qa n2 qc] 36)
      have B10 := Lib.hid (B9.out.alloc B9.out.size (.cells #[.slice ra rn rc, .slice (some ⟨w7.heap.size, 0, none⟩) 1 1, .slice qa n2 qc] 36))
      have X10 := Lib.hid (X9.out.next hb)
      have I10 := Lib.hid (I9.out.next hb)
      have RI10 := Lib.hid (RI9.out.next hb)
      have L10 := Lib.hid (L9.out.next hb)
      have PQ10 := Lib.hid (PQ9.out.next hb)
      clear hb B9 X9 I9 RI9 L9 PQ9
      have N10 := Lib.hid (cells_new w9 #[.slice ra rn rc, .slice (some ⟨w7.heap.size, 0, none⟩) 1 1, .slice qa n2 qc] 36)
      have CC := Lib.hid (implConcat _ 3 [(ra, rn, rc, [selB] ++ vs ++ [wheB] ++ t1.map patB), (some ⟨w7.heap.size, 0, none⟩, 1, 1, [alsB]), (qa, n2, qc, t2.map patB)] _ rfl (Nat.lt_of_lt_of_le (Nat.lt_succ_self _) N10.out.le) (by omega) (by simp [catB, HV.out, HT1.out, HT2.out]; omega) (fun i x hx => by
        have hi := (List.getElem?_eq_some_iff.1 hx).1
        simp only [List.length_cons, List.length_nil] at hi
        obtain rfl | rfl | rfl : i = 0 ∨ i = 1 ∨ i = 2 := by omega
        · obtain rfl := Option.some.inj hx; exact ⟨(N10.out.now.at 0), by simpa using RI10.out⟩
        · obtain rfl := Option.some.inj hx; exact ⟨(N10.out.now.at 1), isStr_one (L10.out.now.at 0)⟩
        · obtain rfl := Option.some.inj hx; exact ⟨(N10.out.now.at 2), PQ10.out⟩))
      rw [show catB [(ra, rn, rc, [selB] ++ vs ++ [wheB] ++ t1.map patB), (some ⟨w7.heap.size, 0, none⟩, 1, 1, [alsB]), (qa, n2, qc, t2.map patB)] = qWords vs t1 t2 from by unfold qWords alsoW; rw [if_neg hz2.out]; simp [catB]] at CC
      go_wp2_with fail
      refine (CC.out).mono ?_
      rintro e w11 ⟨jv, rfl, jo, hb⟩
      have B11 := Lib.hid (B10.out.trans (hb.mono B10.out.size))
      have X11 := Lib.hid (X10.out.next hb)
      have I11 := Lib.hid (I10.out.next hb)
      have RI11 := Lib.hid (RI10.out.next hb)
      have L11 := Lib.hid (L10.out.next hb)
      have PQ11 := Lib.hid (PQ10.out.next hb)
      have N11 := Lib.hid (N10.out.next hb)
      clear hb B10 X10 I10 RI10 L10 PQ10 N10
      clear L11
      clear N11
      clear PQ11
      clear RI11
      have JN := Lib.hid (implJoinS jo (by unfold qWords; simp) (by have := HLW.out; omega) (by have := HMO.out; omega))
      rw [HQ.out] at JN
      clear jo CC
      go_wp2_with fail
      refine (JN.out).mono ?_
      rintro e w12 ⟨rfl, hb⟩
      have B12 := Lib.hid (B11.out.trans (hb.mono B11.out.size))
      have X12 := Lib.hid (X11.out.next hb)
      have I12 := Lib.hid (I11.out.next hb)
      clear hb B11 X11 I11
      go_wp2_with fail
      go_ret
      exact ⟨rfl, B12.out⟩
end Go.Proofs.Ythnpchcfjkepaaa
/- A query's text: the program, all of it. -/
namespace Go.Proofs.Ythnpchcfjkepaaa
open Go.RowKit Go.WideShapes
theorem implQueryText (a0 a1 a2 : Option Addr) (n0 n1 n2 c0 c1 c2 : Nat) (vs : List ByteArray) (t1 t2 : List Tri3) (w : World) (h : IsQry w a0 a1 a2 n0 n1 n2 c0 c1 c2 vs t1 t2) (hvz : ∀ x ∈ vs, x.size ≤ 1048576) (h1 : Sm t1) (h2 : Sm t2) (l0 : n0 ≤ 1048576) :
    Calls Try.prog 21 #[.agg #[.slice a0 n0 c0, .slice a1 n1 c1, .slice a2 n2 c2]] w fun e w' => e = .returned (.string (bs (queryTx vs t1 t2))) ∧ Below w.heap.size w w' := by
  cases hk : queryOk vs t1 t2
  · exact implQueryText0 _ _ _ _ _ _ _ _ _ _ _ _ w h hvz h1 h2 l0 hk
  · by_cases hn2 : t2.length = 0
    · exact implQueryTextA _ _ _ _ _ _ _ _ _ _ _ _ w h hvz h1 h2 l0 hk hn2
    · exact implQueryTextB _ _ _ _ _ _ _ _ _ _ _ _ w h hvz h1 h2 l0 hk hn2
end Go.Proofs.Ythnpchcfjkepaaa
