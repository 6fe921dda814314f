/- The walk of FnExactChained. -/
import Derived.Test.YtofkploffcplhaaG00
import Derived.Test.YtofkploffcplhaaG24
import Derived.Test.YtofkploffcplhaaG22
import Derived.Test.YtofkploffcplhaaG02
import Derived.Deep.RegionHeld3
namespace Go.Proofs.Ytofkploffcplhaa
open Go.RowKit Go.WideShapes
namespace fnExactChained
set_option maxRecDepth 100000 in
set_option maxHeartbeats 16000000 in
theorem walk (a01 : Option Addr) (n01 c01 : Nat) (t01 : List Tri3) (a02 : Option Addr) (n02 c02 : Nat) (t02 : List Tri3) (a11 : Option Addr) (n11 c11 : Nat) (t11 : List Tri3) (a12 : Option Addr) (n12 c12 : Nat) (t12 : List Tri3) (w : World) (h0 : Is2 w a01 a02 n01 n02 c01 c02 t01 t02) (h1 : Is2 w a11 a12 n11 n12 c11 c12 t11 t12) :
    Calls Try.prog 7 #[.agg #[.slice a01 n01 c01, .slice a02 n02 c02], .agg #[.slice a11 n11 c11, .slice a12 n12 c12]] w fun e w' => e = .returned (.bool true) ∧ Below w.heap.size w w' := by
  obtain ⟨W1, hW1⟩ : ∃ W, w.alloc (.cells #[.slice a01 n01 c01, .slice a02 n02 c02] 24) = W := ⟨_, rfl⟩
  obtain ⟨W2, hW2⟩ : ∃ W, W1.alloc (.cells #[.slice a11 n11 c11, .slice a12 n12 c12] 24) = W := ⟨_, rfl⟩
  have z1 : W1.heap.size = w.heap.size + 1 := by rw [← hW1]; simp
  have z2 : W2.heap.size = w.heap.size + 2 := by rw [← hW2]; simp [z1]
  have B0 : Hid (Below w.heap.size w W2) := Lib.hid (by rw [← hW2, ← hW1]; exact (((Below.refl w.heap.size w).alloc (Nat.le_refl _) _).alloc (by simp) _))
  have A00 : Hid (Holds (w.heap.size) (w.heap.size + 1) W2 (Cells (w.heap.size) #[.slice a01 n01 c01, .slice a02 n02 c02] 24)) := Lib.hid (by
    have := ((cells_new w #[.slice a01 n01 c01, .slice a02 n02 c02] 24).alloc (.cells #[.slice a11 n11 c11, .slice a12 n12 c12] 24))
    rw [hW1, hW2] at this; exact this)
  have A10 : Hid (Holds (w.heap.size + 1) (w.heap.size + 1 + 1) W2 (Cells (w.heap.size + 1) #[.slice a11 n11 c11, .slice a12 n12 c12] 24)) := Lib.hid (by
    have := (cells_new W1 #[.slice a11 n11 c11, .slice a12 n12 c12] 24)
    rw [hW2, z1] at this; exact this)
  have HW := Lib.hid (And.intro hW1 (hW2))
  clear hW1 z1 hW2 z2
  have H0 := Lib.hid h0
  have HL0 := Lib.hid (And.intro h0.1.len h0.2.len)
  have HM0 : Hid (SmAll t01 ∧ SmAll t02) := Lib.hid ⟨h0.1.small, h0.2.small⟩
  clear h0
  have H1 := Lib.hid h1
  have HL1 := Lib.hid (And.intro h1.1.len h1.2.len)
  have HM1 : Hid (SmAll t11 ∧ SmAll t12) := Lib.hid ⟨h1.1.small, h1.2.small⟩
  clear h1
  go_enter Try.func7, Try.ntmps7
  obtain ⟨v0, u0⟩ := A00.out.now.two
  go_wp2_with fail
  rw [HW.out.1, HW.out.2]
  refine (szPatch a01 a02 n01 n02 c01 c02 t01 t02 _ (H0.out.next B0.out) 1048576 (by omega) (by omega)).mono ?_
  rintro e w1 ⟨g0, rfl, hg, hb⟩
  clear v0 u0
  have B1 := Lib.hid (B0.out.trans (hb.mono B0.out.size))
  have A01 := Lib.hid (A00.out.next hb)
  have A11 := Lib.hid (A10.out.next hb)
  clear B0 A00 A10
  clear hb
  rcases hg with rfl | ⟨e0, f0, ps0, qs0⟩
  · go_wp2_with fail
    go_ret
    exact ⟨rfl, B1.out⟩
  have S0 : Hid (Sm t01 ∧ Sm t02) := Lib.hid ⟨fun t ht => by have := ps0.2 t ht; omega, fun t ht => by have := qs0.2 t ht; omega⟩
  have l0 : n01 ≤ 1048576 ∧ n02 ≤ 1048576 := ⟨ps0.1, qs0.1⟩
  clear ps0 qs0
  have d0 : ¬ g0 < 0 := by omega
  obtain ⟨v0, u0⟩ := A11.out.now.two
  go_wp2_with fail
  refine (szPatch a11 a12 n11 n12 c11 c12 t11 t12 _ (H1.out.next B1.out) g0 e0 (by omega)).mono ?_
  rintro e w2 ⟨g1, rfl, hg, hb⟩
  clear v0 u0
  have B2 := Lib.hid (B1.out.trans (hb.mono B1.out.size))
  have A02 := Lib.hid (A01.out.next hb)
  have A12 := Lib.hid (A11.out.next hb)
  clear B1 A01 A11
  clear hb
  rcases hg with rfl | ⟨e1, f1, ps1, qs1⟩
  · go_wp2_with fail
    go_ret
    exact ⟨rfl, B2.out⟩
  have S1 : Hid (Sm t11 ∧ Sm t12) := Lib.hid ⟨fun t ht => by have := ps1.2 t ht; omega, fun t ht => by have := qs1.2 t ht; omega⟩
  have l1 : n11 ≤ 1048576 ∧ n12 ≤ 1048576 := ⟨ps1.1, qs1.1⟩
  clear ps1 qs1
  have d1 : ¬ g1 < 0 := by omega
  obtain ⟨N1, hN1⟩ : ∃ N, ((chainedO t01 t02 t11 t12).getD ([], [])).1.length = N := ⟨_, rfl⟩
  obtain ⟨N2, hN2⟩ : ∃ N, ((chainedO t01 t02 t11 t12).getD ([], [])).2.length = N := ⟨_, rfl⟩
  have C1 := fun x1 y1 x2 y2 z1 u1 z2 u2 W hi ki => (specChained x1 x2 z1 z2 n01 n02 y1 y2 n11 n12 u1 u2 t01 t02 t11 t12 W hi ki S0.out.1 S0.out.2 S1.out.1 S1.out.2 l0 l1).mono fun e w' h => res2_shape h hN1 hN2
  have C2 := fun x1 y1 x2 y2 z1 u1 z2 u2 W hi ki => (implChained x1 x2 z1 z2 n01 n02 y1 y2 n11 n12 u1 u2 t01 t02 t11 t12 W hi ki S0.out.1 S0.out.2 S1.out.1 S1.out.2).mono fun e w' h => res2_shape h hN1 hN2
  have hmost := chainedO_most t01 t02 t11 t12 HM0.out HM1.out
  rw [hN1, hN2] at hmost
  generalize ((chainedO t01 t02 t11 t12).getD ([], [])).1 = R1 at C1 C2 hN1 hmost
  generalize ((chainedO t01 t02 t11 t12).getD ([], [])).2 = R2 at C1 C2 hN2 hmost
  generalize (chainedO t01 t02 t11 t12).isSome = bb at C1 C2
  have HN := Lib.hid (And.intro hN1 hN2)
  have HRM := Lib.hid hmost.2
  have rl : N1 ≤ 1048576 ∧ N2 ≤ 1048576 := by have := hmost.1; omega
  have HC1 := Lib.hid C1
  have HC2 := Lib.hid C2
  clear C1 C2 hmost hN1 hN2
  clear e0 f0 e1 f1
  go_wp2_with fail
  go_cut [6, 7] from 8 (fun s6 s7 wx => ∃ g ras rcs rbs rds, s6 = .pointer (some ⟨g, 0, none⟩) ∧ s7 = .bool bb ∧ Hid (Below w.heap.size w wx) ∧ Hid (Holds (w.heap.size) (w.heap.size + 1) wx (Cells (w.heap.size) #[.slice a01 n01 c01, .slice a02 n02 c02] 24)) ∧ Hid (Holds (w.heap.size + 1) (w.heap.size + 1 + 1) wx (Cells (w.heap.size + 1) #[.slice a11 n11 c11, .slice a12 n12 c12] 24)) ∧ Hid (Holds g (g + 1) wx (Cells g #[.slice ras N1 rcs, .slice rbs N2 rds] 29)) ∧ ∃ B C, Hid (Holds B C wx (Own2 B C (.slice ras N1 rcs) (.slice rbs N2 rds) R1 R2)))
  case first =>
    have B3 := Lib.hid B2.out.drew
    have A03 := Lib.hid A02.out.drew
    have A13 := Lib.hid A12.out.drew
    clear B2 A02 A12
    refine wp_region_held_drew (S := (fun w' => (w'.cell? ⟨w.heap.size, 0, none⟩ = some (.slice a01 n01 c01) ∧ w'.cell? ⟨w.heap.size, 1, none⟩ = some (.slice a02 n02 c02)) ∧ (w'.cell? ⟨w.heap.size + 1, 0, none⟩ = some (.slice a11 n11 c11) ∧ w'.cell? ⟨w.heap.size + 1, 1, none⟩ = some (.slice a12 n12 c12)))) (by kernel_rfl) ?_ (fun hHeld => ?_)
    · exact ⟨A03.out.now.two, A13.out.now.two⟩
    generalize hV0 : w2.drew = V0 at B3 A03 A13 hHeld ⊢
    clear hV0
    refine wpAnyH_take (i := 0) (v := ?_) rfl (by kernel_rfl) (by kernel_rfl) (by kernel_rfl) (fun _ _ _ h => h) (Or.inl ⟨by kernel_rfl, ?_⟩) (by assumption) ?_
    rotate_left
    · intro w hSw; (try dsimp only at hSw); go_simp; try with_reducible rfl
    refine wpAnyH_take (i := 2) (v := ?_) rfl (by kernel_rfl) (by kernel_rfl) (by kernel_rfl) (fun _ _ _ h => h) (Or.inl ⟨by kernel_rfl, ?_⟩) (by assumption) ?_
    rotate_left
    · intro w hSw; (try dsimp only at hSw); go_simp; try with_reducible rfl
    refine wpAnyH_ready (rs := [1, 8]) (by kernel_rfl) (by simp) ?_
    refine AllReadyH.cons rfl (fun KK hK => ?_) (AllReadyH.cons rfl (fun KK hK => ?_) AllReadyH.nil)
    · go_simp
      refine (exToP a01 a02 n01 n02 c01 c02 t01 t02 _ (H0.out.next B3.out) l0 HL0.out).mono ?_
      rintro e z0 ⟨x01_S, y01_S, x02_S, y02_S, rfl, hh, hb⟩
      have B4 := Lib.hid (B3.out.trans (hb.mono B3.out.size))
      have A04 := Lib.hid (A03.out.next hb)
      have A14 := Lib.hid (A13.out.next hb)
      clear B3 A03 A13
      have Q0S4 := Lib.hid (hh)
      clear hb hh
      go_wp2_with fail
      clear hHeld
      refine hK.out _ _ ?_ (fun hHeld => ?_)
      · exact ⟨A04.out.now.two, A14.out.now.two⟩
      clear hK KK
      refine wpAnyH_ready (rs := [3, 8]) (by kernel_rfl) (by simp) ?_
      refine AllReadyH.cons rfl (fun KK hK => ?_) (AllReadyH.cons rfl (fun KK hK => ?_) AllReadyH.nil)
      · go_simp
        refine (exToP a11 a12 n11 n12 c11 c12 t11 t12 _ (H1.out.next B4.out) l1 HL1.out).mono ?_
        rintro e z1 ⟨x11_S, y11_S, x12_S, y12_S, rfl, hh, hb⟩
        have B5 := Lib.hid (B4.out.trans (hb.mono B4.out.size))
        have A05 := Lib.hid (A04.out.next hb)
        have A15 := Lib.hid (A14.out.next hb)
        have Q0S5 := Lib.hid (Q0S4.out.next hb)
        clear B4 A04 A14 Q0S4
        have Q1S5 := Lib.hid (hh)
        clear hb hh
        go_wp2_with fail
        clear hHeld
        refine hK.out _ _ ?_ (fun hHeld => ?_)
        · exact ⟨A05.out.now.two, A15.out.now.two⟩
        clear hK KK
        refine wpAnyH_ready (rs := [4, 8]) (by kernel_rfl) (by simp) ?_
        refine AllReadyH.cons rfl (fun KK hK => ?_) (AllReadyH.cons rfl (fun KK hK => ?_) AllReadyH.nil)
        · go_simp
          refine (HC1.out x01_S y01_S x02_S y02_S x11_S y11_S x12_S y12_S _ (Q0S5.out.now.readP HM0.out HL0.out) (Q1S5.out.now.readP HM1.out HL1.out)).mono ?_
          rintro e zf ⟨ras, rcs, rbs, rds, rfl, hh, hb⟩
          clear Q0S5
          clear Q1S5
          have B6 := Lib.hid (B5.out.trans (hb.mono B5.out.size))
          have A06 := Lib.hid (A05.out.next hb)
          have A16 := Lib.hid (A15.out.next hb)
          clear B5 A05 A15
          have S6 := Lib.hid (hh)
          clear hb hh
          go_wp2_with fail
          clear hHeld
          refine hK.out _ _ ?_ (fun hHeld => ?_)
          · exact ⟨A06.out.now.two, A16.out.now.two⟩
          clear hK KK
          refine wpAnyH_take (i := 5) (v := ?_) rfl (by kernel_rfl) (by kernel_rfl) (by kernel_rfl) (fun _ _ _ h => h) (Or.inl ⟨by kernel_rfl, ?_⟩) (by assumption) ?_
          rotate_left
          · intro w hSw; (try dsimp only at hSw); go_simp; try with_reducible rfl
          refine wpAnyH_take (i := 6) (v := ?_) rfl (by kernel_rfl) (by kernel_rfl) (by kernel_rfl) (fun _ _ _ h => h) (Or.inl ⟨by kernel_rfl, ?_⟩) (by assumption) ?_
          rotate_left
          · intro w hSw; (try dsimp only at hSw); go_simp; try with_reducible rfl
          refine wpAnyH_take (i := 7) (v := ?_) rfl (by kernel_rfl) (by kernel_rfl) (by kernel_rfl) (fun _ _ _ h => h) (Or.inl ⟨by kernel_rfl, ?_⟩) (by assumption) ?_
          rotate_left
          · intro w hSw; (try dsimp only at hSw); go_simp; try with_reducible rfl
          refine wpAnyH_ready (rs := [8]) (by kernel_rfl) (by simp) ?_
          refine AllReadyH.cons rfl (fun KK hK => ?_) AllReadyH.nil
          go_simp
          have hgz := Lib.hid A16.out.le
          have leS_Z := Lib.hid S6.out.le
          have B7 := Lib.hid (B6.out.alloc B6.out.size (.cells #[.slice none 0 0, .slice none 0 0] 29))
          have A07 := Lib.hid (A06.out.alloc (.cells #[.slice none 0 0, .slice none 0 0] 29))
          have A17 := Lib.hid (A16.out.alloc (.cells #[.slice none 0 0, .slice none 0 0] 29))
          have S7 := Lib.hid (S6.out.alloc (.cells #[.slice none 0 0, .slice none 0 0] 29))
          clear B6 A06 A16 S6
          have tz := cells_new zf #[.slice none 0 0, .slice none 0 0] 29
          have Z7 := Lib.hid (tz)
          clear tz
          clear hHeld
          refine hK.out _ _ ?_ (fun hHeld => ?_)
          · exact ⟨A07.out.now.two, A17.out.now.two⟩
          clear hK KK
          refine wpAnyH_ready (rs := [9]) (by kernel_rfl) (by simp) ?_
          refine AllReadyH.cons rfl (fun KK hK => ?_) AllReadyH.nil
          obtain ⟨y0, y1⟩ := Z7.out.now.two
          obtain ⟨f0, f1⟩ := Z7.out.now.frees
          go_simp
          have A0S := Lib.hid (holds_realloc A07.out (by have := hgz.out; omega) (.cells #[.slice ras N1 rcs, .slice rbs N2 rds] 29))
          have A1S := Lib.hid (holds_realloc A17.out (by have := hgz.out; omega) (.cells #[.slice ras N1 rcs, .slice rbs N2 rds] 29))
          have SS := Lib.hid (holds_realloc S7.out leS_Z.out (.cells #[.slice ras N1 rcs, .slice rbs N2 rds] 29))
          have ZS := Lib.hid (cells_new zf #[.slice ras N1 rcs, .slice rbs N2 rds] 29)
          have BS := Lib.hid (below_realloc B7.out (by have := hgz.out; omega) (.cells #[.slice ras N1 rcs, .slice rbs N2 rds] 29))
          clear hHeld
          refine hK.out _ _ ?_ (fun hHeld => ?_)
          · exact ⟨A0S.out.now.two, A1S.out.now.two⟩
          clear hK KK
          refine wpAnyH_take (i := 10) (v := ?_) rfl (by kernel_rfl) (by kernel_rfl) (by kernel_rfl) (fun _ _ _ h => h) (Or.inl ⟨by kernel_rfl, ?_⟩) (by assumption) ?_
          rotate_left
          · intro w hSw; (try dsimp only at hSw); go_simp; try with_reducible rfl
          clear hHeld
          refine wpAnyH_done (by kernel_rfl) ?_ _
          try simp only [Act.put, List.setIfInBounds_toArray, List.set_cons_zero, List.set_cons_succ, List.getElem_toArray, List.getElem_cons_zero, List.getElem_cons_succ]
          go_wp2_with fail
          go_meet
          exact ⟨_, ras, rcs, rbs, rds, rfl, rfl, BS, A0S, A1S, ZS, _, _, SS⟩
        · go_simp
          have hgz := Lib.hid A15.out.le
          have B6 := Lib.hid (B5.out.alloc B5.out.size (.cells #[.slice none 0 0, .slice none 0 0] 29))
          have A06 := Lib.hid (A05.out.alloc (.cells #[.slice none 0 0, .slice none 0 0] 29))
          have A16 := Lib.hid (A15.out.alloc (.cells #[.slice none 0 0, .slice none 0 0] 29))
          have Q0S6 := Lib.hid (Q0S5.out.alloc (.cells #[.slice none 0 0, .slice none 0 0] 29))
          have Q1S6 := Lib.hid (Q1S5.out.alloc (.cells #[.slice none 0 0, .slice none 0 0] 29))
          clear B5 A05 A15 Q0S5 Q1S5
          have tz := cells_new z1 #[.slice none 0 0, .slice none 0 0] 29
          have Z6 := Lib.hid (tz)
          clear tz
          clear hHeld
          refine hK.out _ _ ?_ (fun hHeld => ?_)
          · exact ⟨A06.out.now.two, A16.out.now.two⟩
          clear hK KK
          refine wpAnyH_ready (rs := [4]) (by kernel_rfl) (by simp) ?_
          refine AllReadyH.cons rfl (fun KK hK => ?_) AllReadyH.nil
          go_simp
          have leZ_R := Lib.hid Z6.out.le
          refine (HC1.out x01_S y01_S x02_S y02_S x11_S y11_S x12_S y12_S _ (Q0S6.out.now.readP HM0.out HL0.out) (Q1S6.out.now.readP HM1.out HL1.out)).mono ?_
          rintro e zf ⟨ras, rcs, rbs, rds, rfl, hh, hb⟩
          clear Q0S6
          clear Q1S6
          have B7 := Lib.hid (B6.out.trans (hb.mono B6.out.size))
          have A07 := Lib.hid (A06.out.next hb)
          have A17 := Lib.hid (A16.out.next hb)
          have Z7 := Lib.hid (Z6.out.next hb)
          clear B6 A06 A16 Z6
          have S7 := Lib.hid (hh)
          clear hb hh
          go_wp2_with fail
          clear hHeld
          refine hK.out _ _ ?_ (fun hHeld => ?_)
          · exact ⟨A07.out.now.two, A17.out.now.two⟩
          clear hK KK
          refine wpAnyH_take (i := 5) (v := ?_) rfl (by kernel_rfl) (by kernel_rfl) (by kernel_rfl) (fun _ _ _ h => h) (Or.inl ⟨by kernel_rfl, ?_⟩) (by assumption) ?_
          rotate_left
          · intro w hSw; (try dsimp only at hSw); go_simp; try with_reducible rfl
          refine wpAnyH_take (i := 6) (v := ?_) rfl (by kernel_rfl) (by kernel_rfl) (by kernel_rfl) (fun _ _ _ h => h) (Or.inl ⟨by kernel_rfl, ?_⟩) (by assumption) ?_
          rotate_left
          · intro w hSw; (try dsimp only at hSw); go_simp; try with_reducible rfl
          refine wpAnyH_take (i := 7) (v := ?_) rfl (by kernel_rfl) (by kernel_rfl) (by kernel_rfl) (fun _ _ _ h => h) (Or.inl ⟨by kernel_rfl, ?_⟩) (by assumption) ?_
          rotate_left
          · intro w hSw; (try dsimp only at hSw); go_simp; try with_reducible rfl
          refine wpAnyH_ready (rs := [9]) (by kernel_rfl) (by simp) ?_
          refine AllReadyH.cons rfl (fun KK hK => ?_) AllReadyH.nil
          obtain ⟨y0, y1⟩ := Z7.out.now.two
          obtain ⟨f0, f1⟩ := Z7.out.now.frees
          go_simp
          have TS := turn_set2 zf (z1.heap.size) (.slice ras N1 rcs) (.slice rbs N2 rds)
          have A0S := Lib.hid (A07.out.step TS (.inl (by have := hgz.out; omega)))
          have A1S := Lib.hid (A17.out.step TS (.inl (by have := hgz.out; omega)))
          have SS := Lib.hid (S7.out.step TS (by first | exact .inl leS_Z.out | exact .inr leZ_R.out))
          have ZS := Lib.hid (cells_set2 Z7.out (.slice ras N1 rcs) (.slice rbs N2 rds))
          have BS := Lib.hid (below_two B7.out (z1.heap.size) (by have := hgz.out; omega) (.slice ras N1 rcs) (.slice rbs N2 rds))
          clear TS hHeld
          refine hK.out _ _ ?_ (fun hHeld => ?_)
          · exact ⟨A0S.out.now.two, A1S.out.now.two⟩
          clear hK KK
          refine wpAnyH_take (i := 10) (v := ?_) rfl (by kernel_rfl) (by kernel_rfl) (by kernel_rfl) (fun _ _ _ h => h) (Or.inl ⟨by kernel_rfl, ?_⟩) (by assumption) ?_
          rotate_left
          · intro w hSw; (try dsimp only at hSw); go_simp; try with_reducible rfl
          clear hHeld
          refine wpAnyH_done (by kernel_rfl) ?_ _
          try simp only [Act.put, List.setIfInBounds_toArray, List.set_cons_zero, List.set_cons_succ, List.getElem_toArray, List.getElem_cons_zero, List.getElem_cons_succ]
          go_wp2_with fail
          go_meet
          exact ⟨_, ras, rcs, rbs, rds, rfl, rfl, BS, A0S, A1S, ZS, _, _, SS⟩
      · go_simp
        have hgz := Lib.hid A14.out.le
        have B5 := Lib.hid (B4.out.alloc B4.out.size (.cells #[.slice none 0 0, .slice none 0 0] 29))
        have A05 := Lib.hid (A04.out.alloc (.cells #[.slice none 0 0, .slice none 0 0] 29))
        have A15 := Lib.hid (A14.out.alloc (.cells #[.slice none 0 0, .slice none 0 0] 29))
        have Q0S5 := Lib.hid (Q0S4.out.alloc (.cells #[.slice none 0 0, .slice none 0 0] 29))
        clear B4 A04 A14 Q0S4
        have tz := cells_new z0 #[.slice none 0 0, .slice none 0 0] 29
        have Z5 := Lib.hid (tz)
        clear tz
        clear hHeld
        refine hK.out _ _ ?_ (fun hHeld => ?_)
        · exact ⟨A05.out.now.two, A15.out.now.two⟩
        clear hK KK
        refine wpAnyH_ready (rs := [3]) (by kernel_rfl) (by simp) ?_
        refine AllReadyH.cons rfl (fun KK hK => ?_) AllReadyH.nil
        go_simp
        refine (exToP a11 a12 n11 n12 c11 c12 t11 t12 _ (H1.out.next B5.out) l1 HL1.out).mono ?_
        rintro e z1 ⟨x11_S, y11_S, x12_S, y12_S, rfl, hh, hb⟩
        have B6 := Lib.hid (B5.out.trans (hb.mono B5.out.size))
        have A06 := Lib.hid (A05.out.next hb)
        have A16 := Lib.hid (A15.out.next hb)
        have Q0S6 := Lib.hid (Q0S5.out.next hb)
        have Z6 := Lib.hid (Z5.out.next hb)
        clear B5 A05 A15 Q0S5 Z5
        have Q1S6 := Lib.hid (hh)
        clear hb hh
        go_wp2_with fail
        clear hHeld
        refine hK.out _ _ ?_ (fun hHeld => ?_)
        · exact ⟨A06.out.now.two, A16.out.now.two⟩
        clear hK KK
        refine wpAnyH_ready (rs := [4]) (by kernel_rfl) (by simp) ?_
        refine AllReadyH.cons rfl (fun KK hK => ?_) AllReadyH.nil
        go_simp
        have leZ_R := Lib.hid Z6.out.le
        refine (HC1.out x01_S y01_S x02_S y02_S x11_S y11_S x12_S y12_S _ (Q0S6.out.now.readP HM0.out HL0.out) (Q1S6.out.now.readP HM1.out HL1.out)).mono ?_
        rintro e zf ⟨ras, rcs, rbs, rds, rfl, hh, hb⟩
        clear Q0S6
        clear Q1S6
        have B7 := Lib.hid (B6.out.trans (hb.mono B6.out.size))
        have A07 := Lib.hid (A06.out.next hb)
        have A17 := Lib.hid (A16.out.next hb)
        have Z7 := Lib.hid (Z6.out.next hb)
        clear B6 A06 A16 Z6
        have S7 := Lib.hid (hh)
        clear hb hh
        go_wp2_with fail
        clear hHeld
        refine hK.out _ _ ?_ (fun hHeld => ?_)
        · exact ⟨A07.out.now.two, A17.out.now.two⟩
        clear hK KK
        refine wpAnyH_take (i := 5) (v := ?_) rfl (by kernel_rfl) (by kernel_rfl) (by kernel_rfl) (fun _ _ _ h => h) (Or.inl ⟨by kernel_rfl, ?_⟩) (by assumption) ?_
        rotate_left
        · intro w hSw; (try dsimp only at hSw); go_simp; try with_reducible rfl
        refine wpAnyH_take (i := 6) (v := ?_) rfl (by kernel_rfl) (by kernel_rfl) (by kernel_rfl) (fun _ _ _ h => h) (Or.inl ⟨by kernel_rfl, ?_⟩) (by assumption) ?_
        rotate_left
        · intro w hSw; (try dsimp only at hSw); go_simp; try with_reducible rfl
        refine wpAnyH_take (i := 7) (v := ?_) rfl (by kernel_rfl) (by kernel_rfl) (by kernel_rfl) (fun _ _ _ h => h) (Or.inl ⟨by kernel_rfl, ?_⟩) (by assumption) ?_
        rotate_left
        · intro w hSw; (try dsimp only at hSw); go_simp; try with_reducible rfl
        refine wpAnyH_ready (rs := [9]) (by kernel_rfl) (by simp) ?_
        refine AllReadyH.cons rfl (fun KK hK => ?_) AllReadyH.nil
        obtain ⟨y0, y1⟩ := Z7.out.now.two
        obtain ⟨f0, f1⟩ := Z7.out.now.frees
        go_simp
        have TS := turn_set2 zf (z0.heap.size) (.slice ras N1 rcs) (.slice rbs N2 rds)
        have A0S := Lib.hid (A07.out.step TS (.inl (by have := hgz.out; omega)))
        have A1S := Lib.hid (A17.out.step TS (.inl (by have := hgz.out; omega)))
        have SS := Lib.hid (S7.out.step TS (by first | exact .inl leS_Z.out | exact .inr leZ_R.out))
        have ZS := Lib.hid (cells_set2 Z7.out (.slice ras N1 rcs) (.slice rbs N2 rds))
        have BS := Lib.hid (below_two B7.out (z0.heap.size) (by have := hgz.out; omega) (.slice ras N1 rcs) (.slice rbs N2 rds))
        clear TS hHeld
        refine hK.out _ _ ?_ (fun hHeld => ?_)
        · exact ⟨A0S.out.now.two, A1S.out.now.two⟩
        clear hK KK
        refine wpAnyH_take (i := 10) (v := ?_) rfl (by kernel_rfl) (by kernel_rfl) (by kernel_rfl) (fun _ _ _ h => h) (Or.inl ⟨by kernel_rfl, ?_⟩) (by assumption) ?_
        rotate_left
        · intro w hSw; (try dsimp only at hSw); go_simp; try with_reducible rfl
        clear hHeld
        refine wpAnyH_done (by kernel_rfl) ?_ _
        try simp only [Act.put, List.setIfInBounds_toArray, List.set_cons_zero, List.set_cons_succ, List.getElem_toArray, List.getElem_cons_zero, List.getElem_cons_succ]
        go_wp2_with fail
        go_meet
        exact ⟨_, ras, rcs, rbs, rds, rfl, rfl, BS, A0S, A1S, ZS, _, _, SS⟩
    · go_simp
      have hgz := Lib.hid A13.out.le
      have B4 := Lib.hid (B3.out.alloc B3.out.size (.cells #[.slice none 0 0, .slice none 0 0] 29))
      have A04 := Lib.hid (A03.out.alloc (.cells #[.slice none 0 0, .slice none 0 0] 29))
      have A14 := Lib.hid (A13.out.alloc (.cells #[.slice none 0 0, .slice none 0 0] 29))
      clear B3 A03 A13
      have tz := cells_new V0 #[.slice none 0 0, .slice none 0 0] 29
      have Z4 := Lib.hid (tz)
      clear tz
      clear hHeld
      refine hK.out _ _ ?_ (fun hHeld => ?_)
      · exact ⟨A04.out.now.two, A14.out.now.two⟩
      clear hK KK
      refine wpAnyH_ready (rs := [1]) (by kernel_rfl) (by simp) ?_
      refine AllReadyH.cons rfl (fun KK hK => ?_) AllReadyH.nil
      go_simp
      refine (exToP a01 a02 n01 n02 c01 c02 t01 t02 _ (H0.out.next B4.out) l0 HL0.out).mono ?_
      rintro e z0 ⟨x01_S, y01_S, x02_S, y02_S, rfl, hh, hb⟩
      have B5 := Lib.hid (B4.out.trans (hb.mono B4.out.size))
      have A05 := Lib.hid (A04.out.next hb)
      have A15 := Lib.hid (A14.out.next hb)
      have Z5 := Lib.hid (Z4.out.next hb)
      clear B4 A04 A14 Z4
      have Q0S5 := Lib.hid (hh)
      clear hb hh
      go_wp2_with fail
      clear hHeld
      refine hK.out _ _ ?_ (fun hHeld => ?_)
      · exact ⟨A05.out.now.two, A15.out.now.two⟩
      clear hK KK
      refine wpAnyH_ready (rs := [3]) (by kernel_rfl) (by simp) ?_
      refine AllReadyH.cons rfl (fun KK hK => ?_) AllReadyH.nil
      go_simp
      refine (exToP a11 a12 n11 n12 c11 c12 t11 t12 _ (H1.out.next B5.out) l1 HL1.out).mono ?_
      rintro e z1 ⟨x11_S, y11_S, x12_S, y12_S, rfl, hh, hb⟩
      have B6 := Lib.hid (B5.out.trans (hb.mono B5.out.size))
      have A06 := Lib.hid (A05.out.next hb)
      have A16 := Lib.hid (A15.out.next hb)
      have Z6 := Lib.hid (Z5.out.next hb)
      have Q0S6 := Lib.hid (Q0S5.out.next hb)
      clear B5 A05 A15 Z5 Q0S5
      have Q1S6 := Lib.hid (hh)
      clear hb hh
      go_wp2_with fail
      clear hHeld
      refine hK.out _ _ ?_ (fun hHeld => ?_)
      · exact ⟨A06.out.now.two, A16.out.now.two⟩
      clear hK KK
      refine wpAnyH_ready (rs := [4]) (by kernel_rfl) (by simp) ?_
      refine AllReadyH.cons rfl (fun KK hK => ?_) AllReadyH.nil
      go_simp
      have leZ_R := Lib.hid Z6.out.le
      refine (HC1.out x01_S y01_S x02_S y02_S x11_S y11_S x12_S y12_S _ (Q0S6.out.now.readP HM0.out HL0.out) (Q1S6.out.now.readP HM1.out HL1.out)).mono ?_
      rintro e zf ⟨ras, rcs, rbs, rds, rfl, hh, hb⟩
      clear Q0S6
      clear Q1S6
      have B7 := Lib.hid (B6.out.trans (hb.mono B6.out.size))
      have A07 := Lib.hid (A06.out.next hb)
      have A17 := Lib.hid (A16.out.next hb)
      have Z7 := Lib.hid (Z6.out.next hb)
      clear B6 A06 A16 Z6
      have S7 := Lib.hid (hh)
      clear hb hh
      go_wp2_with fail
      clear hHeld
      refine hK.out _ _ ?_ (fun hHeld => ?_)
      · exact ⟨A07.out.now.two, A17.out.now.two⟩
      clear hK KK
      refine wpAnyH_take (i := 5) (v := ?_) rfl (by kernel_rfl) (by kernel_rfl) (by kernel_rfl) (fun _ _ _ h => h) (Or.inl ⟨by kernel_rfl, ?_⟩) (by assumption) ?_
      rotate_left
      · intro w hSw; (try dsimp only at hSw); go_simp; try with_reducible rfl
      refine wpAnyH_take (i := 6) (v := ?_) rfl (by kernel_rfl) (by kernel_rfl) (by kernel_rfl) (fun _ _ _ h => h) (Or.inl ⟨by kernel_rfl, ?_⟩) (by assumption) ?_
      rotate_left
      · intro w hSw; (try dsimp only at hSw); go_simp; try with_reducible rfl
      refine wpAnyH_take (i := 7) (v := ?_) rfl (by kernel_rfl) (by kernel_rfl) (by kernel_rfl) (fun _ _ _ h => h) (Or.inl ⟨by kernel_rfl, ?_⟩) (by assumption) ?_
      rotate_left
      · intro w hSw; (try dsimp only at hSw); go_simp; try with_reducible rfl
      refine wpAnyH_ready (rs := [9]) (by kernel_rfl) (by simp) ?_
      refine AllReadyH.cons rfl (fun KK hK => ?_) AllReadyH.nil
      obtain ⟨y0, y1⟩ := Z7.out.now.two
      obtain ⟨f0, f1⟩ := Z7.out.now.frees
      go_simp
      have TS := turn_set2 zf (V0.heap.size) (.slice ras N1 rcs) (.slice rbs N2 rds)
      have A0S := Lib.hid (A07.out.step TS (.inl (by have := hgz.out; omega)))
      have A1S := Lib.hid (A17.out.step TS (.inl (by have := hgz.out; omega)))
      have SS := Lib.hid (S7.out.step TS (by first | exact .inl leS_Z.out | exact .inr leZ_R.out))
      have ZS := Lib.hid (cells_set2 Z7.out (.slice ras N1 rcs) (.slice rbs N2 rds))
      have BS := Lib.hid (below_two B7.out (V0.heap.size) (by have := hgz.out; omega) (.slice ras N1 rcs) (.slice rbs N2 rds))
      clear TS hHeld
      refine hK.out _ _ ?_ (fun hHeld => ?_)
      · exact ⟨A0S.out.now.two, A1S.out.now.two⟩
      clear hK KK
      refine wpAnyH_take (i := 10) (v := ?_) rfl (by kernel_rfl) (by kernel_rfl) (by kernel_rfl) (fun _ _ _ h => h) (Or.inl ⟨by kernel_rfl, ?_⟩) (by assumption) ?_
      rotate_left
      · intro w hSw; (try dsimp only at hSw); go_simp; try with_reducible rfl
      clear hHeld
      refine wpAnyH_done (by kernel_rfl) ?_ _
      try simp only [Act.put, List.setIfInBounds_toArray, List.set_cons_zero, List.set_cons_succ, List.getElem_toArray, List.getElem_cons_zero, List.getElem_cons_succ]
      go_wp2_with fail
      go_meet
      exact ⟨_, ras, rcs, rbs, rds, rfl, rfl, BS, A0S, A1S, ZS, _, _, SS⟩
  clear B2 A02 A12
  obtain ⟨gS, ras, rcs, rbs, rds, rfl, rfl, B23, A023, A123, KS23, BS, CS, S23⟩ := hcut
  obtain ⟨v0, u0⟩ := A023.out.now.two
  go_wp2_with fail
  have LEA0_X0 := Lib.hid A023.out.le
  have LEA1_X0 := Lib.hid A123.out.le
  have LES_X0 := Lib.hid S23.out.le
  have LEKS_X0 := Lib.hid KS23.out.le
  have LEw_X0 := Lib.hid B23.out.size
  refine (exToP a01 a02 n01 n02 c01 c02 t01 t02 _ (H0.out.next B23.out) l0 HL0.out).mono ?_
  rintro e w3 ⟨x01_x, y01_x, x02_x, y02_x, rfl, hh, hb⟩
  clear v0 u0
  have B24 := Lib.hid (B23.out.trans (hb.mono B23.out.size))
  have A024 := Lib.hid (A023.out.next hb)
  have A124 := Lib.hid (A123.out.next hb)
  have S24 := Lib.hid (S23.out.next hb)
  have KS24 := Lib.hid (KS23.out.next hb)
  clear B23 A023 A123 S23 KS23
  have X024 := Lib.hid (hh)
  clear hb hh
  have LEA0_KX0 := Lib.hid A024.out.le
  have LEA1_KX0 := Lib.hid A124.out.le
  have LES_KX0 := Lib.hid S24.out.le
  have LEKS_KX0 := Lib.hid KS24.out.le
  have LEX0_KX0 := Lib.hid X024.out.le
  have B25 := Lib.hid (B24.out.alloc B24.out.size (.cells #[.slice x01_x n01 y01_x, .slice x02_x n02 y02_x] 29))
  have A025 := Lib.hid (A024.out.alloc (.cells #[.slice x01_x n01 y01_x, .slice x02_x n02 y02_x] 29))
  have A125 := Lib.hid (A124.out.alloc (.cells #[.slice x01_x n01 y01_x, .slice x02_x n02 y02_x] 29))
  have S25 := Lib.hid (S24.out.alloc (.cells #[.slice x01_x n01 y01_x, .slice x02_x n02 y02_x] 29))
  have KS25 := Lib.hid (KS24.out.alloc (.cells #[.slice x01_x n01 y01_x, .slice x02_x n02 y02_x] 29))
  have X025 := Lib.hid (X024.out.alloc (.cells #[.slice x01_x n01 y01_x, .slice x02_x n02 y02_x] 29))
  clear B24 A024 A124 S24 KS24 X024
  have KX025 := Lib.hid (cells_new w3 #[.slice x01_x n01 y01_x, .slice x02_x n02 y02_x] 29)
  obtain ⟨v0, u0⟩ := A125.out.now.two
  go_wp2_with fail
  have HZw4 := Lib.hid (show w3.heap.size ≤ ((w3.alloc (.cells #[.slice x01_x n01 y01_x, .slice x02_x n02 y02_x] 29))).heap.size from by simp)
  generalize (w3.alloc (.cells #[.slice x01_x n01 y01_x, .slice x02_x n02 y02_x] 29)) = w4 at B25 A025 A125 S25 KS25 X025 KX025 HZw4 ⊢
  have LEA0_X1 := Lib.hid A025.out.le
  have LEA1_X1 := Lib.hid A125.out.le
  have LES_X1 := Lib.hid S25.out.le
  have LEKS_X1 := Lib.hid KS25.out.le
  have LEX0_X1 := Lib.hid X025.out.le
  have LEKX0_X1 := Lib.hid KX025.out.le
  have LEw_X1 := Lib.hid B25.out.size
  refine (exToP a11 a12 n11 n12 c11 c12 t11 t12 _ (H1.out.next B25.out) l1 HL1.out).mono ?_
  rintro e w5 ⟨x11_x, y11_x, x12_x, y12_x, rfl, hh, hb⟩
  clear v0 u0
  have B26 := Lib.hid (B25.out.trans (hb.mono B25.out.size))
  have A026 := Lib.hid (A025.out.next hb)
  have A126 := Lib.hid (A125.out.next hb)
  have S26 := Lib.hid (S25.out.next hb)
  have KS26 := Lib.hid (KS25.out.next hb)
  have X026 := Lib.hid (X025.out.next hb)
  have KX026 := Lib.hid (KX025.out.next hb)
  clear B25 A025 A125 S25 KS25 X025 KX025
  have X126 := Lib.hid (hh)
  clear hb hh
  have LEA0_KX1 := Lib.hid A026.out.le
  have LEA1_KX1 := Lib.hid A126.out.le
  have LES_KX1 := Lib.hid S26.out.le
  have LEKS_KX1 := Lib.hid KS26.out.le
  have LEX0_KX1 := Lib.hid X026.out.le
  have LEKX0_KX1 := Lib.hid KX026.out.le
  have LEX1_KX1 := Lib.hid X126.out.le
  have B27 := Lib.hid (B26.out.alloc B26.out.size (.cells #[.slice x11_x n11 y11_x, .slice x12_x n12 y12_x] 29))
  have A027 := Lib.hid (A026.out.alloc (.cells #[.slice x11_x n11 y11_x, .slice x12_x n12 y12_x] 29))
  have A127 := Lib.hid (A126.out.alloc (.cells #[.slice x11_x n11 y11_x, .slice x12_x n12 y12_x] 29))
  have S27 := Lib.hid (S26.out.alloc (.cells #[.slice x11_x n11 y11_x, .slice x12_x n12 y12_x] 29))
  have KS27 := Lib.hid (KS26.out.alloc (.cells #[.slice x11_x n11 y11_x, .slice x12_x n12 y12_x] 29))
  have X027 := Lib.hid (X026.out.alloc (.cells #[.slice x11_x n11 y11_x, .slice x12_x n12 y12_x] 29))
  have KX027 := Lib.hid (KX026.out.alloc (.cells #[.slice x11_x n11 y11_x, .slice x12_x n12 y12_x] 29))
  have X127 := Lib.hid (X126.out.alloc (.cells #[.slice x11_x n11 y11_x, .slice x12_x n12 y12_x] 29))
  clear B26 A026 A126 S26 KS26 X026 KX026 X126
  have KX127 := Lib.hid (cells_new w5 #[.slice x11_x n11 y11_x, .slice x12_x n12 y12_x] 29)
  obtain ⟨v0, u0⟩ := KX027.out.now.two
  obtain ⟨v1, u1⟩ := KX127.out.now.two
  go_wp2_with fail
  have HZw6 := Lib.hid (show w5.heap.size ≤ ((w5.alloc (.cells #[.slice x11_x n11 y11_x, .slice x12_x n12 y12_x] 29))).heap.size from by simp)
  generalize (w5.alloc (.cells #[.slice x11_x n11 y11_x, .slice x12_x n12 y12_x] 29)) = w6 at B27 A027 A127 S27 KS27 X027 KX027 X127 KX127 HZw6 ⊢
  have LEA0_G := Lib.hid A027.out.le
  have LEA1_G := Lib.hid A127.out.le
  have LES_G := Lib.hid S27.out.le
  have LEKS_G := Lib.hid KS27.out.le
  have LEX0_G := Lib.hid X027.out.le
  have LEKX0_G := Lib.hid KX027.out.le
  have LEX1_G := Lib.hid X127.out.le
  have LEKX1_G := Lib.hid KX127.out.le
  have LEw_G := Lib.hid B27.out.size
  refine (HC2.out x01_x y01_x x02_x y02_x x11_x y11_x x12_x y12_x _ (X027.out.now.readP HM0.out HL0.out) (X127.out.now.readP HM1.out HL1.out)).mono ?_
  rintro e w7 ⟨rag, rcg, rbg, rdg, rfl, hh, hb⟩
  clear v0 u0 v1 u1
  have B28 := Lib.hid (B27.out.trans (hb.mono B27.out.size))
  have A028 := Lib.hid (A027.out.next hb)
  have A128 := Lib.hid (A127.out.next hb)
  have S28 := Lib.hid (S27.out.next hb)
  have KS28 := Lib.hid (KS27.out.next hb)
  have X028 := Lib.hid (X027.out.next hb)
  have KX028 := Lib.hid (KX027.out.next hb)
  have X128 := Lib.hid (X127.out.next hb)
  have KX128 := Lib.hid (KX127.out.next hb)
  clear B27 A027 A127 S27 KS27 X027 KX027 X127 KX127
  have G28 := Lib.hid (hh)
  clear hb hh
  have LEA0_KG := Lib.hid A028.out.le
  have LEA1_KG := Lib.hid A128.out.le
  have LES_KG := Lib.hid S28.out.le
  have LEKS_KG := Lib.hid KS28.out.le
  have LEX0_KG := Lib.hid X028.out.le
  have LEKX0_KG := Lib.hid KX028.out.le
  have LEX1_KG := Lib.hid X128.out.le
  have LEKX1_KG := Lib.hid KX128.out.le
  have LEG_KG := Lib.hid G28.out.le
  have B29 := Lib.hid (B28.out.alloc B28.out.size (.cells #[.slice rag N1 rcg, .slice rbg N2 rdg] 29))
  have A029 := Lib.hid (A028.out.alloc (.cells #[.slice rag N1 rcg, .slice rbg N2 rdg] 29))
  have A129 := Lib.hid (A128.out.alloc (.cells #[.slice rag N1 rcg, .slice rbg N2 rdg] 29))
  have S29 := Lib.hid (S28.out.alloc (.cells #[.slice rag N1 rcg, .slice rbg N2 rdg] 29))
  have KS29 := Lib.hid (KS28.out.alloc (.cells #[.slice rag N1 rcg, .slice rbg N2 rdg] 29))
  have X029 := Lib.hid (X028.out.alloc (.cells #[.slice rag N1 rcg, .slice rbg N2 rdg] 29))
  have KX029 := Lib.hid (KX028.out.alloc (.cells #[.slice rag N1 rcg, .slice rbg N2 rdg] 29))
  have X129 := Lib.hid (X128.out.alloc (.cells #[.slice rag N1 rcg, .slice rbg N2 rdg] 29))
  have KX129 := Lib.hid (KX128.out.alloc (.cells #[.slice rag N1 rcg, .slice rbg N2 rdg] 29))
  have G29 := Lib.hid (G28.out.alloc (.cells #[.slice rag N1 rcg, .slice rbg N2 rdg] 29))
  clear B28 A028 A128 S28 KS28 X028 KX028 X128 KX128 G28
  have KG29 := Lib.hid (cells_new w7 #[.slice rag N1 rcg, .slice rbg N2 rdg] 29)
  obtain ⟨v0, u0⟩ := KG29.out.now.two
  obtain ⟨v1, u1⟩ := KS29.out.now.two
  go_wp2_with fail
  have HZw8 := Lib.hid (show w7.heap.size ≤ ((w7.alloc (.cells #[.slice rag N1 rcg, .slice rbg N2 rdg] 29))).heap.size from by simp)
  generalize (w7.alloc (.cells #[.slice rag N1 rcg, .slice rbg N2 rdg] 29)) = w8 at B29 A029 A129 S29 KS29 X029 KX029 X129 KX129 G29 KG29 HZw8 ⊢
  refine (eqPatch rag rbg ras rbs N1 N2 rcg rdg rcs rds R1 R2 _ (G29.out.now.readP HRM.out HN.out) (S29.out.now.readP HRM.out HN.out) rl.1 rl.2).mono ?_
  rintro e w9 ⟨rfl, hb⟩
  clear v0 u0 v1 u1
  have B30 := Lib.hid (B29.out.trans (hb.mono B29.out.size))
  have A030 := Lib.hid (A029.out.next hb)
  have A130 := Lib.hid (A129.out.next hb)
  have S30 := Lib.hid (S29.out.next hb)
  have KS30 := Lib.hid (KS29.out.next hb)
  have X030 := Lib.hid (X029.out.next hb)
  have KX030 := Lib.hid (KX029.out.next hb)
  have X130 := Lib.hid (X129.out.next hb)
  have KX130 := Lib.hid (KX129.out.next hb)
  have G30 := Lib.hid (G29.out.next hb)
  have KG30 := Lib.hid (KG29.out.next hb)
  clear B29 A029 A129 S29 KS29 X029 KX029 X129 KX129 G29 KG29
  clear hb
  obtain ⟨bf, hbf⟩ : ∃ q : Bool, q = bb := ⟨_, rfl⟩
  have HBF := Lib.hid hbf
  clear hbf
  cases bb
  all_goals
    go_wp2_with fail
    have B31 := Lib.hid B30.out.drew
    have A031 := Lib.hid A030.out.drew
    have A131 := Lib.hid A130.out.drew
    have S31 := Lib.hid S30.out.drew
    have KS31 := Lib.hid KS30.out.drew
    have X031 := Lib.hid X030.out.drew
    have KX031 := Lib.hid KX030.out.drew
    have X131 := Lib.hid X130.out.drew
    have KX131 := Lib.hid KX130.out.drew
    have G31 := Lib.hid G30.out.drew
    have KG31 := Lib.hid KG30.out.drew
    clear B30 A030 A130 S30 KS30 X030 KX030 X130 KX130 G30 KG30
    go_region_held3 (fun w' => (w'.cell? ⟨w3.heap.size, 0, none⟩ = some (.slice x01_x n01 y01_x) ∧ w'.cell? ⟨w3.heap.size, 1, none⟩ = some (.slice x02_x n02 y02_x)) ∧ (w'.cell? ⟨w.heap.size, 0, none⟩ = some (.slice a01 n01 c01) ∧ w'.cell? ⟨w.heap.size, 1, none⟩ = some (.slice a02 n02 c02)))
      (first | with_reducible exact ⟨KX033.out.now.two, A033.out.now.two⟩ | with_reducible exact ⟨KX032.out.now.two, A032.out.now.two⟩ | with_reducible exact ⟨KX031.out.now.two, A031.out.now.two⟩)
      (first | (go_at_call 14; refine (eqPatch x01_x x02_x x01_e x02_e n01 n02 y01_x y02_x y01_e y02_e t01 t02 _ (X032.out.now.readP HM0.out HL0.out) (E032.out.now.readP HM0.out HL0.out) l0.1 l0.2).mono ?_; rintro e w11 ⟨rfl, hb⟩; clear E032; have B33 := Lib.hid (B32.out.trans (hb.mono B32.out.size)); have A033 := Lib.hid (A032.out.next hb); have A133 := Lib.hid (A132.out.next hb); have S33 := Lib.hid (S32.out.next hb); have KS33 := Lib.hid (KS32.out.next hb); have X033 := Lib.hid (X032.out.next hb); have KX033 := Lib.hid (KX032.out.next hb); have X133 := Lib.hid (X132.out.next hb); have KX133 := Lib.hid (KX132.out.next hb); have G33 := Lib.hid (G32.out.next hb); have KG33 := Lib.hid (KG32.out.next hb); clear B32 A032 A132 S32 KS32 X032 KX032 X132 KX132 G32 KG32; clear hb) | (go_at_call 12; refine (exToP a01 a02 n01 n02 c01 c02 t01 t02 _ (H0.out.next B31.out) l0 HL0.out).mono ?_; rintro e w10 ⟨x01_e, y01_e, x02_e, y02_e, rfl, hh, hb⟩; have B32 := Lib.hid (B31.out.trans (hb.mono B31.out.size)); have A032 := Lib.hid (A031.out.next hb); have A132 := Lib.hid (A131.out.next hb); have S32 := Lib.hid (S31.out.next hb); have KS32 := Lib.hid (KS31.out.next hb); have X032 := Lib.hid (X031.out.next hb); have KX032 := Lib.hid (KX031.out.next hb); have X132 := Lib.hid (X131.out.next hb); have KX132 := Lib.hid (KX131.out.next hb); have G32 := Lib.hid (G31.out.next hb); have KG32 := Lib.hid (KG31.out.next hb); clear B31 A031 A131 S31 KS31 X031 KX031 X131 KX131 G31 KG31; have E032 := Lib.hid (hh); clear hb hh))
    go_wp2_with fail
    have B34 := Lib.hid B33.out.drew
    have A034 := Lib.hid A033.out.drew
    have A134 := Lib.hid A133.out.drew
    have S34 := Lib.hid S33.out.drew
    have KS34 := Lib.hid KS33.out.drew
    have X034 := Lib.hid X033.out.drew
    have KX034 := Lib.hid KX033.out.drew
    have X134 := Lib.hid X133.out.drew
    have KX134 := Lib.hid KX133.out.drew
    have G34 := Lib.hid G33.out.drew
    have KG34 := Lib.hid KG33.out.drew
    clear B33 A033 A133 S33 KS33 X033 KX033 X133 KX133 G33 KG33
    go_region_held3 (fun w' => (w'.cell? ⟨w5.heap.size, 0, none⟩ = some (.slice x11_x n11 y11_x) ∧ w'.cell? ⟨w5.heap.size, 1, none⟩ = some (.slice x12_x n12 y12_x)) ∧ (w'.cell? ⟨w.heap.size + 1, 0, none⟩ = some (.slice a11 n11 c11) ∧ w'.cell? ⟨w.heap.size + 1, 1, none⟩ = some (.slice a12 n12 c12)))
      (first | with_reducible exact ⟨KX136.out.now.two, A136.out.now.two⟩ | with_reducible exact ⟨KX135.out.now.two, A135.out.now.two⟩ | with_reducible exact ⟨KX134.out.now.two, A134.out.now.two⟩)
      (first | (go_at_call 14; refine (eqPatch x11_x x12_x x11_e x12_e n11 n12 y11_x y12_x y11_e y12_e t11 t12 _ (X135.out.now.readP HM1.out HL1.out) (E135.out.now.readP HM1.out HL1.out) l1.1 l1.2).mono ?_; rintro e w13 ⟨rfl, hb⟩; clear E135; have B36 := Lib.hid (B35.out.trans (hb.mono B35.out.size)); have A036 := Lib.hid (A035.out.next hb); have A136 := Lib.hid (A135.out.next hb); have S36 := Lib.hid (S35.out.next hb); have KS36 := Lib.hid (KS35.out.next hb); have X036 := Lib.hid (X035.out.next hb); have KX036 := Lib.hid (KX035.out.next hb); have X136 := Lib.hid (X135.out.next hb); have KX136 := Lib.hid (KX135.out.next hb); have G36 := Lib.hid (G35.out.next hb); have KG36 := Lib.hid (KG35.out.next hb); clear B35 A035 A135 S35 KS35 X035 KX035 X135 KX135 G35 KG35; clear hb) | (go_at_call 12; refine (exToP a11 a12 n11 n12 c11 c12 t11 t12 _ (H1.out.next B34.out) l1 HL1.out).mono ?_; rintro e w12 ⟨x11_e, y11_e, x12_e, y12_e, rfl, hh, hb⟩; have B35 := Lib.hid (B34.out.trans (hb.mono B34.out.size)); have A035 := Lib.hid (A034.out.next hb); have A135 := Lib.hid (A134.out.next hb); have S35 := Lib.hid (S34.out.next hb); have KS35 := Lib.hid (KS34.out.next hb); have X035 := Lib.hid (X034.out.next hb); have KX035 := Lib.hid (KX034.out.next hb); have X135 := Lib.hid (X134.out.next hb); have KX135 := Lib.hid (KX134.out.next hb); have G35 := Lib.hid (G34.out.next hb); have KG35 := Lib.hid (KG34.out.next hb); clear B34 A034 A134 S34 KS34 X034 KX034 X134 KX134 G34 KG34; have E135 := Lib.hid (hh); clear hb hh))
    obtain ⟨v0, u0⟩ := KX036.out.now.two
    go_wp2_with fail
    obtain ⟨q0, hq0⟩ : ∃ q : Nat, 1 + (3 * n01 + 3 * n02) = q := ⟨_, rfl⟩
    have MK := exMarkP X036.out l0 HL0.out 1 (by omega) (by omega)
    rw [hq0] at MK
    have b0 : 0 < q0 ∧ q0 ≤ 9000000 := by have := l0; omega
    clear hq0
    refine (MK).mono ?_
    rintro e w14 ⟨rfl, hh, ht⟩
    have B37 := Lib.hid (B36.out.trans (ht.below B36.out.size LEw_X0.out))
    have A037 := Lib.hid (A036.out.step ht (.inl LEA0_X0.out))
    have A137 := Lib.hid (A136.out.step ht (.inl LEA1_X0.out))
    have S37 := Lib.hid (S36.out.step ht (.inl LES_X0.out))
    have KS37 := Lib.hid (KS36.out.step ht (.inl LEKS_X0.out))
    have X037 := Lib.hid hh
    have KX037 := Lib.hid (KX036.out.step ht (.inr LEX0_KX0.out))
    have X137 := Lib.hid (X136.out.step ht (.inr LEX0_X1.out))
    have KX137 := Lib.hid (KX136.out.step ht (.inr LEX0_KX1.out))
    have G37 := Lib.hid (G36.out.step ht (.inr LEX0_G.out))
    have KG37 := Lib.hid (KG36.out.step ht (.inr LEX0_KG.out))
    clear hh ht
    clear v0 u0 MK
    clear X037
    obtain ⟨v0, u0⟩ := KX137.out.now.two
    go_wp2_with fail
    obtain ⟨q1, hq1⟩ : ∃ q : Nat, q0 + (3 * n11 + 3 * n12) = q := ⟨_, rfl⟩
    have MK := exMarkP X137.out l1 HL1.out q0 (by omega) (by omega)
    rw [hq1] at MK
    have b1 : 0 < q1 ∧ q1 ≤ 18000000 := by have := l1; omega
    clear hq1
    refine (MK).mono ?_
    rintro e w15 ⟨rfl, hh, ht⟩
    have B38 := Lib.hid (B37.out.trans (ht.below B37.out.size LEw_X1.out))
    have A038 := Lib.hid (A037.out.step ht (.inl LEA0_X1.out))
    have A138 := Lib.hid (A137.out.step ht (.inl LEA1_X1.out))
    have S38 := Lib.hid (S37.out.step ht (.inl LES_X1.out))
    have KS38 := Lib.hid (KS37.out.step ht (.inl LEKS_X1.out))
    have KX038 := Lib.hid (KX037.out.step ht (.inl LEKX0_X1.out))
    have X138 := Lib.hid hh
    have KX138 := Lib.hid (KX137.out.step ht (.inr LEX1_KX1.out))
    have G38 := Lib.hid (G37.out.step ht (.inr LEX1_G.out))
    have KG38 := Lib.hid (KG37.out.step ht (.inr LEX1_KG.out))
    clear hh ht
    clear v0 u0 MK
    clear X138
    have nk : ¬ (q1 : Int) < 0 := by omega
    obtain ⟨v0, u0⟩ := KG38.out.now.two
    obtain ⟨v1, u1⟩ := KS38.out.now.two
    go_wp2_with fail
    refine (eqPatch rag rbg ras rbs N1 N2 rcg rdg rcs rds R1 R2 _ (G38.out.now.readP HRM.out HN.out) (S38.out.now.readP HRM.out HN.out) rl.1 rl.2).mono ?_
    rintro e w16 ⟨rfl, hb⟩
    clear v0 u0 v1 u1
    have B39 := Lib.hid (B38.out.trans (hb.mono B38.out.size))
    have A039 := Lib.hid (A038.out.next hb)
    have A139 := Lib.hid (A138.out.next hb)
    have S39 := Lib.hid (S38.out.next hb)
    have KS39 := Lib.hid (KS38.out.next hb)
    have KX039 := Lib.hid (KX038.out.next hb)
    have KX139 := Lib.hid (KX138.out.next hb)
    have G39 := Lib.hid (G38.out.next hb)
    have KG39 := Lib.hid (KG38.out.next hb)
    clear B38 A038 A138 S38 KS38 KX038 KX138 G38 KG38
    clear hb
    obtain ⟨v0, u0⟩ := KG39.out.now.two
    go_wp2_with fail
    obtain ⟨qq, hqq⟩ : ∃ q : Nat, 1 + (3 * N1 + 3 * N2) = q := ⟨_, rfl⟩
    have MK := exMarkP G39.out rl HN.out 1 (by omega) (by omega)
    rw [hqq] at MK
    have HQQ := Lib.hid hqq
    have nq : ¬ (qq : Int) < 0 := by omega
    clear hqq
    refine (MK).mono ?_
    rintro e w17 ⟨rfl, hh, ht⟩
    have B40 := Lib.hid (B39.out.trans (ht.below B39.out.size LEw_G.out))
    have A040 := Lib.hid (A039.out.step ht (.inl LEA0_G.out))
    have A140 := Lib.hid (A139.out.step ht (.inl LEA1_G.out))
    have S40 := Lib.hid (S39.out.step ht (.inl LES_G.out))
    have KS40 := Lib.hid (KS39.out.step ht (.inl LEKS_G.out))
    have KX040 := Lib.hid (KX039.out.step ht (.inl LEKX0_G.out))
    have KX140 := Lib.hid (KX139.out.step ht (.inl LEKX1_G.out))
    have G40 := Lib.hid hh
    have KG40 := Lib.hid (KG39.out.step ht (.inr LEG_KG.out))
    clear hh ht
    clear v0 u0 MK
    obtain ⟨v0, u0⟩ := KG40.out.now.two
    go_wp2_with fail
    have HD := exHeldP G40.out rl (by omega) (by omega)
    rw [HQQ.out] at HD
    refine HD.mono ?_
    rintro e w18 ⟨rfl, hb⟩
    clear v0 u0 HD
    have B41 := Lib.hid (B40.out.trans (hb.mono B40.out.size))
    have A041 := Lib.hid (A040.out.next hb)
    have A141 := Lib.hid (A140.out.next hb)
    have S41 := Lib.hid (S40.out.next hb)
    have KS41 := Lib.hid (KS40.out.next hb)
    have KX041 := Lib.hid (KX040.out.next hb)
    have KX141 := Lib.hid (KX140.out.next hb)
    have G41 := Lib.hid (G40.out.next hb)
    have KG41 := Lib.hid (KG40.out.next hb)
    clear B40 A040 A140 S40 KS40 KX040 KX140 G40 KG40
    clear hb
    go_wp2_with fail
    clear KX041
    clear KX141
    go_cut [15, 16] from 17 (fun s15 s16 wx => ∃ g rah rch rbh rdh, s15 = .pointer (some ⟨g, 0, none⟩) ∧ s16 = .bool bf ∧ Hid (Below w.heap.size w wx) ∧ Hid (Holds (w.heap.size) (w.heap.size + 1) wx (Cells (w.heap.size) #[.slice a01 n01 c01, .slice a02 n02 c02] 24)) ∧ Hid (Holds (w.heap.size + 1) (w.heap.size + 1 + 1) wx (Cells (w.heap.size + 1) #[.slice a11 n11 c11, .slice a12 n12 c12] 24)) ∧ Hid (Holds (BS) (CS) wx (Own2 (BS) (CS) (.slice ras N1 rcs) (.slice rbs N2 rds) R1 R2)) ∧ Hid (Holds gS (gS + 1) wx (Cells gS #[.slice ras N1 rcs, .slice rbs N2 rds] 29)) ∧ Hid (Holds (w6.heap.size) (w7.heap.size) wx (Own2 (w6.heap.size) (w7.heap.size) (.slice rag N1 rcg) (.slice rbg N2 rdg) (marksK 1 N1) (marksK (1 + 3 * N1) N2))) ∧ Hid (Holds (w7.heap.size) (w7.heap.size + 1) wx (Cells (w7.heap.size) #[.slice rag N1 rcg, .slice rbg N2 rdg] 29)) ∧ Hid (Holds g (g + 1) wx (Cells g #[.slice rah N1 rch, .slice rbh N2 rdh] 29)) ∧ ∃ B C, Hid (Holds B C wx (Own2 B C (.slice rah N1 rch) (.slice rbh N2 rdh) R1 R2)))
    case first =>
      have B42 := Lib.hid B41.out.drew
      have A042 := Lib.hid A041.out.drew
      have A142 := Lib.hid A141.out.drew
      have S42 := Lib.hid S41.out.drew
      have KS42 := Lib.hid KS41.out.drew
      have G42 := Lib.hid G41.out.drew
      have KG42 := Lib.hid KG41.out.drew
      clear B41 A041 A141 S41 KS41 G41 KG41
      refine wp_region_held_drew (S := (fun w' => (w'.cell? ⟨w.heap.size, 0, none⟩ = some (.slice a01 n01 c01) ∧ w'.cell? ⟨w.heap.size, 1, none⟩ = some (.slice a02 n02 c02)) ∧ (w'.cell? ⟨w.heap.size + 1, 0, none⟩ = some (.slice a11 n11 c11) ∧ w'.cell? ⟨w.heap.size + 1, 1, none⟩ = some (.slice a12 n12 c12)))) (by kernel_rfl) ?_ (fun hHeld => ?_)
      · exact ⟨A042.out.now.two, A142.out.now.two⟩
      generalize hV0 : w18.drew = V0 at B42 A042 A142 S42 KS42 G42 KG42 hHeld ⊢
      clear hV0
      refine wpAnyH_take (i := 0) (v := ?_) rfl (by kernel_rfl) (by kernel_rfl) (by kernel_rfl) (fun _ _ _ h => h) (Or.inl ⟨by kernel_rfl, ?_⟩) (by assumption) ?_
      rotate_left
      · intro w hSw; (try dsimp only at hSw); go_simp; try with_reducible rfl
      refine wpAnyH_take (i := 2) (v := ?_) rfl (by kernel_rfl) (by kernel_rfl) (by kernel_rfl) (fun _ _ _ h => h) (Or.inl ⟨by kernel_rfl, ?_⟩) (by assumption) ?_
      rotate_left
      · intro w hSw; (try dsimp only at hSw); go_simp; try with_reducible rfl
      refine wpAnyH_ready (rs := [1, 8]) (by kernel_rfl) (by simp) ?_
      refine AllReadyH.cons rfl (fun KK hK => ?_) (AllReadyH.cons rfl (fun KK hK => ?_) AllReadyH.nil)
      · go_simp
        refine (exToP a01 a02 n01 n02 c01 c02 t01 t02 _ (H0.out.next B42.out) l0 HL0.out).mono ?_
        rintro e z0 ⟨x01_H, y01_H, x02_H, y02_H, rfl, hh, hb⟩
        have B43 := Lib.hid (B42.out.trans (hb.mono B42.out.size))
        have A043 := Lib.hid (A042.out.next hb)
        have A143 := Lib.hid (A142.out.next hb)
        have S43 := Lib.hid (S42.out.next hb)
        have KS43 := Lib.hid (KS42.out.next hb)
        have G43 := Lib.hid (G42.out.next hb)
        have KG43 := Lib.hid (KG42.out.next hb)
        clear B42 A042 A142 S42 KS42 G42 KG42
        have Q0H43 := Lib.hid (hh)
        clear hb hh
        go_wp2_with fail
        clear hHeld
        refine hK.out _ _ ?_ (fun hHeld => ?_)
        · exact ⟨A043.out.now.two, A143.out.now.two⟩
        clear hK KK
        refine wpAnyH_ready (rs := [3, 8]) (by kernel_rfl) (by simp) ?_
        refine AllReadyH.cons rfl (fun KK hK => ?_) (AllReadyH.cons rfl (fun KK hK => ?_) AllReadyH.nil)
        · go_simp
          refine (exToP a11 a12 n11 n12 c11 c12 t11 t12 _ (H1.out.next B43.out) l1 HL1.out).mono ?_
          rintro e z1 ⟨x11_H, y11_H, x12_H, y12_H, rfl, hh, hb⟩
          have B44 := Lib.hid (B43.out.trans (hb.mono B43.out.size))
          have A044 := Lib.hid (A043.out.next hb)
          have A144 := Lib.hid (A143.out.next hb)
          have S44 := Lib.hid (S43.out.next hb)
          have KS44 := Lib.hid (KS43.out.next hb)
          have G44 := Lib.hid (G43.out.next hb)
          have KG44 := Lib.hid (KG43.out.next hb)
          have Q0H44 := Lib.hid (Q0H43.out.next hb)
          clear B43 A043 A143 S43 KS43 G43 KG43 Q0H43
          have Q1H44 := Lib.hid (hh)
          clear hb hh
          go_wp2_with fail
          clear hHeld
          refine hK.out _ _ ?_ (fun hHeld => ?_)
          · exact ⟨A044.out.now.two, A144.out.now.two⟩
          clear hK KK
          refine wpAnyH_ready (rs := [4, 8]) (by kernel_rfl) (by simp) ?_
          refine AllReadyH.cons rfl (fun KK hK => ?_) (AllReadyH.cons rfl (fun KK hK => ?_) AllReadyH.nil)
          · go_simp
            refine (HC2.out x01_H y01_H x02_H y02_H x11_H y11_H x12_H y12_H _ (Q0H44.out.now.readP HM0.out HL0.out) (Q1H44.out.now.readP HM1.out HL1.out)).mono ?_
            rintro e zf ⟨rah, rch, rbh, rdh, rfl, hh, hb⟩
            clear Q0H44
            clear Q1H44
            have B45 := Lib.hid (B44.out.trans (hb.mono B44.out.size))
            have A045 := Lib.hid (A044.out.next hb)
            have A145 := Lib.hid (A144.out.next hb)
            have S45 := Lib.hid (S44.out.next hb)
            have KS45 := Lib.hid (KS44.out.next hb)
            have G45 := Lib.hid (G44.out.next hb)
            have KG45 := Lib.hid (KG44.out.next hb)
            clear B44 A044 A144 S44 KS44 G44 KG44
            have H45 := Lib.hid (hh)
            clear hb hh
            go_wp2_with fail
            clear hHeld
            refine hK.out _ _ ?_ (fun hHeld => ?_)
            · exact ⟨A045.out.now.two, A145.out.now.two⟩
            clear hK KK
            refine wpAnyH_take (i := 5) (v := ?_) rfl (by kernel_rfl) (by kernel_rfl) (by kernel_rfl) (fun _ _ _ h => h) (Or.inl ⟨by kernel_rfl, ?_⟩) (by assumption) ?_
            rotate_left
            · intro w hSw; (try dsimp only at hSw); go_simp; try with_reducible rfl
            refine wpAnyH_take (i := 6) (v := ?_) rfl (by kernel_rfl) (by kernel_rfl) (by kernel_rfl) (fun _ _ _ h => h) (Or.inl ⟨by kernel_rfl, ?_⟩) (by assumption) ?_
            rotate_left
            · intro w hSw; (try dsimp only at hSw); go_simp; try with_reducible rfl
            refine wpAnyH_take (i := 7) (v := ?_) rfl (by kernel_rfl) (by kernel_rfl) (by kernel_rfl) (fun _ _ _ h => h) (Or.inl ⟨by kernel_rfl, ?_⟩) (by assumption) ?_
            rotate_left
            · intro w hSw; (try dsimp only at hSw); go_simp; try with_reducible rfl
            refine wpAnyH_ready (rs := [8]) (by kernel_rfl) (by simp) ?_
            refine AllReadyH.cons rfl (fun KK hK => ?_) AllReadyH.nil
            go_simp
            have hgz := Lib.hid A145.out.le
            have leS_Z := Lib.hid S45.out.le
            have leKS_Z := Lib.hid KS45.out.le
            have leG_Z := Lib.hid G45.out.le
            have leKG_Z := Lib.hid KG45.out.le
            have leH_Z := Lib.hid H45.out.le
            have B46 := Lib.hid (B45.out.alloc B45.out.size (.cells #[.slice none 0 0, .slice none 0 0] 29))
            have A046 := Lib.hid (A045.out.alloc (.cells #[.slice none 0 0, .slice none 0 0] 29))
            have A146 := Lib.hid (A145.out.alloc (.cells #[.slice none 0 0, .slice none 0 0] 29))
            have S46 := Lib.hid (S45.out.alloc (.cells #[.slice none 0 0, .slice none 0 0] 29))
            have KS46 := Lib.hid (KS45.out.alloc (.cells #[.slice none 0 0, .slice none 0 0] 29))
            have G46 := Lib.hid (G45.out.alloc (.cells #[.slice none 0 0, .slice none 0 0] 29))
            have KG46 := Lib.hid (KG45.out.alloc (.cells #[.slice none 0 0, .slice none 0 0] 29))
            have H46 := Lib.hid (H45.out.alloc (.cells #[.slice none 0 0, .slice none 0 0] 29))
            clear B45 A045 A145 S45 KS45 G45 KG45 H45
            have tz := cells_new zf #[.slice none 0 0, .slice none 0 0] 29
            have Z46 := Lib.hid (tz)
            clear tz
            clear hHeld
            refine hK.out _ _ ?_ (fun hHeld => ?_)
            · exact ⟨A046.out.now.two, A146.out.now.two⟩
            clear hK KK
            refine wpAnyH_ready (rs := [9]) (by kernel_rfl) (by simp) ?_
            refine AllReadyH.cons rfl (fun KK hK => ?_) AllReadyH.nil
            obtain ⟨y0, y1⟩ := Z46.out.now.two
            obtain ⟨f0, f1⟩ := Z46.out.now.frees
            go_simp
            have A0S := Lib.hid (holds_realloc A046.out (by have := hgz.out; omega) (.cells #[.slice rah N1 rch, .slice rbh N2 rdh] 29))
            have A1S := Lib.hid (holds_realloc A146.out (by have := hgz.out; omega) (.cells #[.slice rah N1 rch, .slice rbh N2 rdh] 29))
            have SS := Lib.hid (holds_realloc S46.out leS_Z.out (.cells #[.slice rah N1 rch, .slice rbh N2 rdh] 29))
            have KSS := Lib.hid (holds_realloc KS46.out leKS_Z.out (.cells #[.slice rah N1 rch, .slice rbh N2 rdh] 29))
            have GS := Lib.hid (holds_realloc G46.out leG_Z.out (.cells #[.slice rah N1 rch, .slice rbh N2 rdh] 29))
            have KGS := Lib.hid (holds_realloc KG46.out leKG_Z.out (.cells #[.slice rah N1 rch, .slice rbh N2 rdh] 29))
            have HS := Lib.hid (holds_realloc H46.out leH_Z.out (.cells #[.slice rah N1 rch, .slice rbh N2 rdh] 29))
            have ZS := Lib.hid (cells_new zf #[.slice rah N1 rch, .slice rbh N2 rdh] 29)
            have BS := Lib.hid (below_realloc B46.out (by have := hgz.out; omega) (.cells #[.slice rah N1 rch, .slice rbh N2 rdh] 29))
            clear hHeld
            refine hK.out _ _ ?_ (fun hHeld => ?_)
            · exact ⟨A0S.out.now.two, A1S.out.now.two⟩
            clear hK KK
            refine wpAnyH_take (i := 10) (v := ?_) rfl (by kernel_rfl) (by kernel_rfl) (by kernel_rfl) (fun _ _ _ h => h) (Or.inl ⟨by kernel_rfl, ?_⟩) (by assumption) ?_
            rotate_left
            · intro w hSw; (try dsimp only at hSw); go_simp; try with_reducible rfl
            clear hHeld
            refine wpAnyH_done (by kernel_rfl) ?_ _
            try simp only [Act.put, List.setIfInBounds_toArray, List.set_cons_zero, List.set_cons_succ, List.getElem_toArray, List.getElem_cons_zero, List.getElem_cons_succ]
            go_wp2_with fail
            go_meet
            exact ⟨_, rah, rch, rbh, rdh, rfl, by rw [HBF.out], BS, A0S, A1S, SS, KSS, GS, KGS, ZS, _, _, HS⟩
          · go_simp
            have hgz := Lib.hid A144.out.le
            have leS_Z := Lib.hid S44.out.le
            have leKS_Z := Lib.hid KS44.out.le
            have leG_Z := Lib.hid G44.out.le
            have leKG_Z := Lib.hid KG44.out.le
            have B45 := Lib.hid (B44.out.alloc B44.out.size (.cells #[.slice none 0 0, .slice none 0 0] 29))
            have A045 := Lib.hid (A044.out.alloc (.cells #[.slice none 0 0, .slice none 0 0] 29))
            have A145 := Lib.hid (A144.out.alloc (.cells #[.slice none 0 0, .slice none 0 0] 29))
            have S45 := Lib.hid (S44.out.alloc (.cells #[.slice none 0 0, .slice none 0 0] 29))
            have KS45 := Lib.hid (KS44.out.alloc (.cells #[.slice none 0 0, .slice none 0 0] 29))
            have G45 := Lib.hid (G44.out.alloc (.cells #[.slice none 0 0, .slice none 0 0] 29))
            have KG45 := Lib.hid (KG44.out.alloc (.cells #[.slice none 0 0, .slice none 0 0] 29))
            have Q0H45 := Lib.hid (Q0H44.out.alloc (.cells #[.slice none 0 0, .slice none 0 0] 29))
            have Q1H45 := Lib.hid (Q1H44.out.alloc (.cells #[.slice none 0 0, .slice none 0 0] 29))
            clear B44 A044 A144 S44 KS44 G44 KG44 Q0H44 Q1H44
            have tz := cells_new z1 #[.slice none 0 0, .slice none 0 0] 29
            have Z45 := Lib.hid (tz)
            clear tz
            clear hHeld
            refine hK.out _ _ ?_ (fun hHeld => ?_)
            · exact ⟨A045.out.now.two, A145.out.now.two⟩
            clear hK KK
            refine wpAnyH_ready (rs := [4]) (by kernel_rfl) (by simp) ?_
            refine AllReadyH.cons rfl (fun KK hK => ?_) AllReadyH.nil
            go_simp
            have leZ_R := Lib.hid Z45.out.le
            refine (HC2.out x01_H y01_H x02_H y02_H x11_H y11_H x12_H y12_H _ (Q0H45.out.now.readP HM0.out HL0.out) (Q1H45.out.now.readP HM1.out HL1.out)).mono ?_
            rintro e zf ⟨rah, rch, rbh, rdh, rfl, hh, hb⟩
            clear Q0H45
            clear Q1H45
            have B46 := Lib.hid (B45.out.trans (hb.mono B45.out.size))
            have A046 := Lib.hid (A045.out.next hb)
            have A146 := Lib.hid (A145.out.next hb)
            have S46 := Lib.hid (S45.out.next hb)
            have KS46 := Lib.hid (KS45.out.next hb)
            have G46 := Lib.hid (G45.out.next hb)
            have KG46 := Lib.hid (KG45.out.next hb)
            have Z46 := Lib.hid (Z45.out.next hb)
            clear B45 A045 A145 S45 KS45 G45 KG45 Z45
            have H46 := Lib.hid (hh)
            clear hb hh
            go_wp2_with fail
            clear hHeld
            refine hK.out _ _ ?_ (fun hHeld => ?_)
            · exact ⟨A046.out.now.two, A146.out.now.two⟩
            clear hK KK
            refine wpAnyH_take (i := 5) (v := ?_) rfl (by kernel_rfl) (by kernel_rfl) (by kernel_rfl) (fun _ _ _ h => h) (Or.inl ⟨by kernel_rfl, ?_⟩) (by assumption) ?_
            rotate_left
            · intro w hSw; (try dsimp only at hSw); go_simp; try with_reducible rfl
            refine wpAnyH_take (i := 6) (v := ?_) rfl (by kernel_rfl) (by kernel_rfl) (by kernel_rfl) (fun _ _ _ h => h) (Or.inl ⟨by kernel_rfl, ?_⟩) (by assumption) ?_
            rotate_left
            · intro w hSw; (try dsimp only at hSw); go_simp; try with_reducible rfl
            refine wpAnyH_take (i := 7) (v := ?_) rfl (by kernel_rfl) (by kernel_rfl) (by kernel_rfl) (fun _ _ _ h => h) (Or.inl ⟨by kernel_rfl, ?_⟩) (by assumption) ?_
            rotate_left
            · intro w hSw; (try dsimp only at hSw); go_simp; try with_reducible rfl
            refine wpAnyH_ready (rs := [9]) (by kernel_rfl) (by simp) ?_
            refine AllReadyH.cons rfl (fun KK hK => ?_) AllReadyH.nil
            obtain ⟨y0, y1⟩ := Z46.out.now.two
            obtain ⟨f0, f1⟩ := Z46.out.now.frees
            go_simp
            have TS := turn_set2 zf (z1.heap.size) (.slice rah N1 rch) (.slice rbh N2 rdh)
            have A0S := Lib.hid (A046.out.step TS (.inl (by have := hgz.out; omega)))
            have A1S := Lib.hid (A146.out.step TS (.inl (by have := hgz.out; omega)))
            have SS := Lib.hid (S46.out.step TS (.inl leS_Z.out))
            have KSS := Lib.hid (KS46.out.step TS (.inl leKS_Z.out))
            have GS := Lib.hid (G46.out.step TS (.inl leG_Z.out))
            have KGS := Lib.hid (KG46.out.step TS (.inl leKG_Z.out))
            have HS := Lib.hid (H46.out.step TS (by first | exact .inl leH_Z.out | exact .inr leZ_R.out))
            have ZS := Lib.hid (cells_set2 Z46.out (.slice rah N1 rch) (.slice rbh N2 rdh))
            have BS := Lib.hid (below_two B46.out (z1.heap.size) (by have := hgz.out; omega) (.slice rah N1 rch) (.slice rbh N2 rdh))
            clear TS hHeld
            refine hK.out _ _ ?_ (fun hHeld => ?_)
            · exact ⟨A0S.out.now.two, A1S.out.now.two⟩
            clear hK KK
            refine wpAnyH_take (i := 10) (v := ?_) rfl (by kernel_rfl) (by kernel_rfl) (by kernel_rfl) (fun _ _ _ h => h) (Or.inl ⟨by kernel_rfl, ?_⟩) (by assumption) ?_
            rotate_left
            · intro w hSw; (try dsimp only at hSw); go_simp; try with_reducible rfl
            clear hHeld
            refine wpAnyH_done (by kernel_rfl) ?_ _
            try simp only [Act.put, List.setIfInBounds_toArray, List.set_cons_zero, List.set_cons_succ, List.getElem_toArray, List.getElem_cons_zero, List.getElem_cons_succ]
            go_wp2_with fail
            go_meet
            exact ⟨_, rah, rch, rbh, rdh, rfl, by rw [HBF.out], BS, A0S, A1S, SS, KSS, GS, KGS, ZS, _, _, HS⟩
        · go_simp
          have hgz := Lib.hid A143.out.le
          have leS_Z := Lib.hid S43.out.le
          have leKS_Z := Lib.hid KS43.out.le
          have leG_Z := Lib.hid G43.out.le
          have leKG_Z := Lib.hid KG43.out.le
          have B44 := Lib.hid (B43.out.alloc B43.out.size (.cells #[.slice none 0 0, .slice none 0 0] 29))
          have A044 := Lib.hid (A043.out.alloc (.cells #[.slice none 0 0, .slice none 0 0] 29))
          have A144 := Lib.hid (A143.out.alloc (.cells #[.slice none 0 0, .slice none 0 0] 29))
          have S44 := Lib.hid (S43.out.alloc (.cells #[.slice none 0 0, .slice none 0 0] 29))
          have KS44 := Lib.hid (KS43.out.alloc (.cells #[.slice none 0 0, .slice none 0 0] 29))
          have G44 := Lib.hid (G43.out.alloc (.cells #[.slice none 0 0, .slice none 0 0] 29))
          have KG44 := Lib.hid (KG43.out.alloc (.cells #[.slice none 0 0, .slice none 0 0] 29))
          have Q0H44 := Lib.hid (Q0H43.out.alloc (.cells #[.slice none 0 0, .slice none 0 0] 29))
          clear B43 A043 A143 S43 KS43 G43 KG43 Q0H43
          have tz := cells_new z0 #[.slice none 0 0, .slice none 0 0] 29
          have Z44 := Lib.hid (tz)
          clear tz
          clear hHeld
          refine hK.out _ _ ?_ (fun hHeld => ?_)
          · exact ⟨A044.out.now.two, A144.out.now.two⟩
          clear hK KK
          refine wpAnyH_ready (rs := [3]) (by kernel_rfl) (by simp) ?_
          refine AllReadyH.cons rfl (fun KK hK => ?_) AllReadyH.nil
          go_simp
          refine (exToP a11 a12 n11 n12 c11 c12 t11 t12 _ (H1.out.next B44.out) l1 HL1.out).mono ?_
          rintro e z1 ⟨x11_H, y11_H, x12_H, y12_H, rfl, hh, hb⟩
          have B45 := Lib.hid (B44.out.trans (hb.mono B44.out.size))
          have A045 := Lib.hid (A044.out.next hb)
          have A145 := Lib.hid (A144.out.next hb)
          have S45 := Lib.hid (S44.out.next hb)
          have KS45 := Lib.hid (KS44.out.next hb)
          have G45 := Lib.hid (G44.out.next hb)
          have KG45 := Lib.hid (KG44.out.next hb)
          have Q0H45 := Lib.hid (Q0H44.out.next hb)
          have Z45 := Lib.hid (Z44.out.next hb)
          clear B44 A044 A144 S44 KS44 G44 KG44 Q0H44 Z44
          have Q1H45 := Lib.hid (hh)
          clear hb hh
          go_wp2_with fail
          clear hHeld
          refine hK.out _ _ ?_ (fun hHeld => ?_)
          · exact ⟨A045.out.now.two, A145.out.now.two⟩
          clear hK KK
          refine wpAnyH_ready (rs := [4]) (by kernel_rfl) (by simp) ?_
          refine AllReadyH.cons rfl (fun KK hK => ?_) AllReadyH.nil
          go_simp
          have leZ_R := Lib.hid Z45.out.le
          refine (HC2.out x01_H y01_H x02_H y02_H x11_H y11_H x12_H y12_H _ (Q0H45.out.now.readP HM0.out HL0.out) (Q1H45.out.now.readP HM1.out HL1.out)).mono ?_
          rintro e zf ⟨rah, rch, rbh, rdh, rfl, hh, hb⟩
          clear Q0H45
          clear Q1H45
          have B46 := Lib.hid (B45.out.trans (hb.mono B45.out.size))
          have A046 := Lib.hid (A045.out.next hb)
          have A146 := Lib.hid (A145.out.next hb)
          have S46 := Lib.hid (S45.out.next hb)
          have KS46 := Lib.hid (KS45.out.next hb)
          have G46 := Lib.hid (G45.out.next hb)
          have KG46 := Lib.hid (KG45.out.next hb)
          have Z46 := Lib.hid (Z45.out.next hb)
          clear B45 A045 A145 S45 KS45 G45 KG45 Z45
          have H46 := Lib.hid (hh)
          clear hb hh
          go_wp2_with fail
          clear hHeld
          refine hK.out _ _ ?_ (fun hHeld => ?_)
          · exact ⟨A046.out.now.two, A146.out.now.two⟩
          clear hK KK
          refine wpAnyH_take (i := 5) (v := ?_) rfl (by kernel_rfl) (by kernel_rfl) (by kernel_rfl) (fun _ _ _ h => h) (Or.inl ⟨by kernel_rfl, ?_⟩) (by assumption) ?_
          rotate_left
          · intro w hSw; (try dsimp only at hSw); go_simp; try with_reducible rfl
          refine wpAnyH_take (i := 6) (v := ?_) rfl (by kernel_rfl) (by kernel_rfl) (by kernel_rfl) (fun _ _ _ h => h) (Or.inl ⟨by kernel_rfl, ?_⟩) (by assumption) ?_
          rotate_left
          · intro w hSw; (try dsimp only at hSw); go_simp; try with_reducible rfl
          refine wpAnyH_take (i := 7) (v := ?_) rfl (by kernel_rfl) (by kernel_rfl) (by kernel_rfl) (fun _ _ _ h => h) (Or.inl ⟨by kernel_rfl, ?_⟩) (by assumption) ?_
          rotate_left
          · intro w hSw; (try dsimp only at hSw); go_simp; try with_reducible rfl
          refine wpAnyH_ready (rs := [9]) (by kernel_rfl) (by simp) ?_
          refine AllReadyH.cons rfl (fun KK hK => ?_) AllReadyH.nil
          obtain ⟨y0, y1⟩ := Z46.out.now.two
          obtain ⟨f0, f1⟩ := Z46.out.now.frees
          go_simp
          have TS := turn_set2 zf (z0.heap.size) (.slice rah N1 rch) (.slice rbh N2 rdh)
          have A0S := Lib.hid (A046.out.step TS (.inl (by have := hgz.out; omega)))
          have A1S := Lib.hid (A146.out.step TS (.inl (by have := hgz.out; omega)))
          have SS := Lib.hid (S46.out.step TS (.inl leS_Z.out))
          have KSS := Lib.hid (KS46.out.step TS (.inl leKS_Z.out))
          have GS := Lib.hid (G46.out.step TS (.inl leG_Z.out))
          have KGS := Lib.hid (KG46.out.step TS (.inl leKG_Z.out))
          have HS := Lib.hid (H46.out.step TS (by first | exact .inl leH_Z.out | exact .inr leZ_R.out))
          have ZS := Lib.hid (cells_set2 Z46.out (.slice rah N1 rch) (.slice rbh N2 rdh))
          have BS := Lib.hid (below_two B46.out (z0.heap.size) (by have := hgz.out; omega) (.slice rah N1 rch) (.slice rbh N2 rdh))
          clear TS hHeld
          refine hK.out _ _ ?_ (fun hHeld => ?_)
          · exact ⟨A0S.out.now.two, A1S.out.now.two⟩
          clear hK KK
          refine wpAnyH_take (i := 10) (v := ?_) rfl (by kernel_rfl) (by kernel_rfl) (by kernel_rfl) (fun _ _ _ h => h) (Or.inl ⟨by kernel_rfl, ?_⟩) (by assumption) ?_
          rotate_left
          · intro w hSw; (try dsimp only at hSw); go_simp; try with_reducible rfl
          clear hHeld
          refine wpAnyH_done (by kernel_rfl) ?_ _
          try simp only [Act.put, List.setIfInBounds_toArray, List.set_cons_zero, List.set_cons_succ, List.getElem_toArray, List.getElem_cons_zero, List.getElem_cons_succ]
          go_wp2_with fail
          go_meet
          exact ⟨_, rah, rch, rbh, rdh, rfl, by rw [HBF.out], BS, A0S, A1S, SS, KSS, GS, KGS, ZS, _, _, HS⟩
      · go_simp
        have hgz := Lib.hid A142.out.le
        have leS_Z := Lib.hid S42.out.le
        have leKS_Z := Lib.hid KS42.out.le
        have leG_Z := Lib.hid G42.out.le
        have leKG_Z := Lib.hid KG42.out.le
        have B43 := Lib.hid (B42.out.alloc B42.out.size (.cells #[.slice none 0 0, .slice none 0 0] 29))
        have A043 := Lib.hid (A042.out.alloc (.cells #[.slice none 0 0, .slice none 0 0] 29))
        have A143 := Lib.hid (A142.out.alloc (.cells #[.slice none 0 0, .slice none 0 0] 29))
        have S43 := Lib.hid (S42.out.alloc (.cells #[.slice none 0 0, .slice none 0 0] 29))
        have KS43 := Lib.hid (KS42.out.alloc (.cells #[.slice none 0 0, .slice none 0 0] 29))
        have G43 := Lib.hid (G42.out.alloc (.cells #[.slice none 0 0, .slice none 0 0] 29))
        have KG43 := Lib.hid (KG42.out.alloc (.cells #[.slice none 0 0, .slice none 0 0] 29))
        clear B42 A042 A142 S42 KS42 G42 KG42
        have tz := cells_new V0 #[.slice none 0 0, .slice none 0 0] 29
        have Z43 := Lib.hid (tz)
        clear tz
        clear hHeld
        refine hK.out _ _ ?_ (fun hHeld => ?_)
        · exact ⟨A043.out.now.two, A143.out.now.two⟩
        clear hK KK
        refine wpAnyH_ready (rs := [1]) (by kernel_rfl) (by simp) ?_
        refine AllReadyH.cons rfl (fun KK hK => ?_) AllReadyH.nil
        go_simp
        refine (exToP a01 a02 n01 n02 c01 c02 t01 t02 _ (H0.out.next B43.out) l0 HL0.out).mono ?_
        rintro e z0 ⟨x01_H, y01_H, x02_H, y02_H, rfl, hh, hb⟩
        have B44 := Lib.hid (B43.out.trans (hb.mono B43.out.size))
        have A044 := Lib.hid (A043.out.next hb)
        have A144 := Lib.hid (A143.out.next hb)
        have S44 := Lib.hid (S43.out.next hb)
        have KS44 := Lib.hid (KS43.out.next hb)
        have G44 := Lib.hid (G43.out.next hb)
        have KG44 := Lib.hid (KG43.out.next hb)
        have Z44 := Lib.hid (Z43.out.next hb)
        clear B43 A043 A143 S43 KS43 G43 KG43 Z43
        have Q0H44 := Lib.hid (hh)
        clear hb hh
        go_wp2_with fail
        clear hHeld
        refine hK.out _ _ ?_ (fun hHeld => ?_)
        · exact ⟨A044.out.now.two, A144.out.now.two⟩
        clear hK KK
        refine wpAnyH_ready (rs := [3]) (by kernel_rfl) (by simp) ?_
        refine AllReadyH.cons rfl (fun KK hK => ?_) AllReadyH.nil
        go_simp
        refine (exToP a11 a12 n11 n12 c11 c12 t11 t12 _ (H1.out.next B44.out) l1 HL1.out).mono ?_
        rintro e z1 ⟨x11_H, y11_H, x12_H, y12_H, rfl, hh, hb⟩
        have B45 := Lib.hid (B44.out.trans (hb.mono B44.out.size))
        have A045 := Lib.hid (A044.out.next hb)
        have A145 := Lib.hid (A144.out.next hb)
        have S45 := Lib.hid (S44.out.next hb)
        have KS45 := Lib.hid (KS44.out.next hb)
        have G45 := Lib.hid (G44.out.next hb)
        have KG45 := Lib.hid (KG44.out.next hb)
        have Z45 := Lib.hid (Z44.out.next hb)
        have Q0H45 := Lib.hid (Q0H44.out.next hb)
        clear B44 A044 A144 S44 KS44 G44 KG44 Z44 Q0H44
        have Q1H45 := Lib.hid (hh)
        clear hb hh
        go_wp2_with fail
        clear hHeld
        refine hK.out _ _ ?_ (fun hHeld => ?_)
        · exact ⟨A045.out.now.two, A145.out.now.two⟩
        clear hK KK
        refine wpAnyH_ready (rs := [4]) (by kernel_rfl) (by simp) ?_
        refine AllReadyH.cons rfl (fun KK hK => ?_) AllReadyH.nil
        go_simp
        have leZ_R := Lib.hid Z45.out.le
        refine (HC2.out x01_H y01_H x02_H y02_H x11_H y11_H x12_H y12_H _ (Q0H45.out.now.readP HM0.out HL0.out) (Q1H45.out.now.readP HM1.out HL1.out)).mono ?_
        rintro e zf ⟨rah, rch, rbh, rdh, rfl, hh, hb⟩
        clear Q0H45
        clear Q1H45
        have B46 := Lib.hid (B45.out.trans (hb.mono B45.out.size))
        have A046 := Lib.hid (A045.out.next hb)
        have A146 := Lib.hid (A145.out.next hb)
        have S46 := Lib.hid (S45.out.next hb)
        have KS46 := Lib.hid (KS45.out.next hb)
        have G46 := Lib.hid (G45.out.next hb)
        have KG46 := Lib.hid (KG45.out.next hb)
        have Z46 := Lib.hid (Z45.out.next hb)
        clear B45 A045 A145 S45 KS45 G45 KG45 Z45
        have H46 := Lib.hid (hh)
        clear hb hh
        go_wp2_with fail
        clear hHeld
        refine hK.out _ _ ?_ (fun hHeld => ?_)
        · exact ⟨A046.out.now.two, A146.out.now.two⟩
        clear hK KK
        refine wpAnyH_take (i := 5) (v := ?_) rfl (by kernel_rfl) (by kernel_rfl) (by kernel_rfl) (fun _ _ _ h => h) (Or.inl ⟨by kernel_rfl, ?_⟩) (by assumption) ?_
        rotate_left
        · intro w hSw; (try dsimp only at hSw); go_simp; try with_reducible rfl
        refine wpAnyH_take (i := 6) (v := ?_) rfl (by kernel_rfl) (by kernel_rfl) (by kernel_rfl) (fun _ _ _ h => h) (Or.inl ⟨by kernel_rfl, ?_⟩) (by assumption) ?_
        rotate_left
        · intro w hSw; (try dsimp only at hSw); go_simp; try with_reducible rfl
        refine wpAnyH_take (i := 7) (v := ?_) rfl (by kernel_rfl) (by kernel_rfl) (by kernel_rfl) (fun _ _ _ h => h) (Or.inl ⟨by kernel_rfl, ?_⟩) (by assumption) ?_
        rotate_left
        · intro w hSw; (try dsimp only at hSw); go_simp; try with_reducible rfl
        refine wpAnyH_ready (rs := [9]) (by kernel_rfl) (by simp) ?_
        refine AllReadyH.cons rfl (fun KK hK => ?_) AllReadyH.nil
        obtain ⟨y0, y1⟩ := Z46.out.now.two
        obtain ⟨f0, f1⟩ := Z46.out.now.frees
        go_simp
        have TS := turn_set2 zf (V0.heap.size) (.slice rah N1 rch) (.slice rbh N2 rdh)
        have A0S := Lib.hid (A046.out.step TS (.inl (by have := hgz.out; omega)))
        have A1S := Lib.hid (A146.out.step TS (.inl (by have := hgz.out; omega)))
        have SS := Lib.hid (S46.out.step TS (.inl leS_Z.out))
        have KSS := Lib.hid (KS46.out.step TS (.inl leKS_Z.out))
        have GS := Lib.hid (G46.out.step TS (.inl leG_Z.out))
        have KGS := Lib.hid (KG46.out.step TS (.inl leKG_Z.out))
        have HS := Lib.hid (H46.out.step TS (by first | exact .inl leH_Z.out | exact .inr leZ_R.out))
        have ZS := Lib.hid (cells_set2 Z46.out (.slice rah N1 rch) (.slice rbh N2 rdh))
        have BS := Lib.hid (below_two B46.out (V0.heap.size) (by have := hgz.out; omega) (.slice rah N1 rch) (.slice rbh N2 rdh))
        clear TS hHeld
        refine hK.out _ _ ?_ (fun hHeld => ?_)
        · exact ⟨A0S.out.now.two, A1S.out.now.two⟩
        clear hK KK
        refine wpAnyH_take (i := 10) (v := ?_) rfl (by kernel_rfl) (by kernel_rfl) (by kernel_rfl) (fun _ _ _ h => h) (Or.inl ⟨by kernel_rfl, ?_⟩) (by assumption) ?_
        rotate_left
        · intro w hSw; (try dsimp only at hSw); go_simp; try with_reducible rfl
        clear hHeld
        refine wpAnyH_done (by kernel_rfl) ?_ _
        try simp only [Act.put, List.setIfInBounds_toArray, List.set_cons_zero, List.set_cons_succ, List.getElem_toArray, List.getElem_cons_zero, List.getElem_cons_succ]
        go_wp2_with fail
        go_meet
        exact ⟨_, rah, rch, rbh, rdh, rfl, by rw [HBF.out], BS, A0S, A1S, SS, KSS, GS, KGS, ZS, _, _, HS⟩
    clear B41 A041 A141 S41 KS41 G41 KG41
    obtain ⟨gH, rah, rch, rbh, rdh, rfl, hbs, B62, A062, A162, S62, KS62, G62, KG62, KH62, BH, CH, H62⟩ := hcut
    rw [HBF.out] at hbs
    subst hbs
    obtain ⟨v0, u0⟩ := KH62.out.now.two
    obtain ⟨v1, u1⟩ := KS62.out.now.two
    go_wp2_with fail
    refine (eqPatch rah rbh ras rbs N1 N2 rch rdh rcs rds R1 R2 _ (H62.out.now.readP HRM.out HN.out) (S62.out.now.readP HRM.out HN.out) rl.1 rl.2).mono ?_
    rintro e w19 ⟨rfl, hb⟩
    clear v0 u0 v1 u1
    have B63 := Lib.hid (B62.out.trans (hb.mono B62.out.size))
    have A063 := Lib.hid (A062.out.next hb)
    have A163 := Lib.hid (A162.out.next hb)
    have S63 := Lib.hid (S62.out.next hb)
    have KS63 := Lib.hid (KS62.out.next hb)
    have G63 := Lib.hid (G62.out.next hb)
    have KG63 := Lib.hid (KG62.out.next hb)
    have H63 := Lib.hid (H62.out.next hb)
    have KH63 := Lib.hid (KH62.out.next hb)
    clear B62 A062 A162 S62 KS62 G62 KG62 H62 KH62
    clear hb
    clear H63
    clear KH63
    obtain ⟨v0, u0⟩ := KG63.out.now.two
    go_wp2_with fail
    have HD := exHeldP G63.out rl (by omega) (by omega)
    rw [HQQ.out] at HD
    refine HD.mono ?_
    rintro e w20 ⟨rfl, hb⟩
    clear v0 u0 HD
    have B64 := Lib.hid (B63.out.trans (hb.mono B63.out.size))
    have A064 := Lib.hid (A063.out.next hb)
    have A164 := Lib.hid (A163.out.next hb)
    have S64 := Lib.hid (S63.out.next hb)
    have KS64 := Lib.hid (KS63.out.next hb)
    have G64 := Lib.hid (G63.out.next hb)
    have KG64 := Lib.hid (KG63.out.next hb)
    clear B63 A063 A163 S63 KS63 G63 KG63
    clear hb
    go_wp2_with fail
    go_ret
    exact ⟨rfl, B64.out⟩
end fnExactChained
end Go.Proofs.Ytofkploffcplhaa
