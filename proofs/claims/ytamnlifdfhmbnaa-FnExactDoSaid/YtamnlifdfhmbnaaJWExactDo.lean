/- The walk of FnExactDo. -/
import Derived.Test.YtamnlifdfhmbnaaG00
import Derived.Test.YtamnlifdfhmbnaaG23
import Derived.Test.YtamnlifdfhmbnaaG18
import Derived.Test.YtamnlifdfhmbnaaG21
import Derived.Test.YtamnlifdfhmbnaaG17
import Derived.Deep.RegionHeld3
namespace Go.Proofs.Ytamnlifdfhmbnaa
open Go.RowKit Go.WideShapes
namespace fnExactDo
set_option maxRecDepth 100000 in
set_option maxHeartbeats 16000000 in
theorem walk (a00 a01 a02 : Option Addr) (n00 n01 n02 c00 c01 c02 : Nat) (t00 t01 : List Pre2) (t02 : List OpV) (r1 : Int) (s1 p1 o1 : ByteArray) (w : World) (h0 : IsDk w a00 a01 a02 n00 n01 n02 c00 c01 c02 t00 t01 t02) (hs1 : s1.size ≤ maxLen) (hp1 : p1.size ≤ maxLen) (ho1 : o1.size ≤ maxLen) :
    Calls Try.prog 7 #[.agg #[.slice a00 n00 c00, .slice a01 n01 c01, .slice a02 n02 c02], .agg #[.int .i64 r1, .string s1, .string p1, .string o1]] w fun e w' => e = .returned (.bool true) ∧ Below w.heap.size w w' := by
  obtain ⟨W1, hW1⟩ : ∃ W, w.alloc (.cells #[.slice a00 n00 c00, .slice a01 n01 c01, .slice a02 n02 c02] 50) = W := ⟨_, rfl⟩
  obtain ⟨W2, hW2⟩ : ∃ W, W1.alloc (.cells #[.int .i64 r1, .string s1, .string p1, .string o1] 55) = W := ⟨_, rfl⟩
  have z1 : W1.heap.size = w.heap.size + 1 := by rw [← hW1]; simp
  have z2 : W2.heap.size = w.heap.size + 2 := by rw [← hW2]; simp [z1]
  have B0 : Hid (Below w.heap.size w W2) := Lib.hid (by rw [← hW2, ← hW1]; exact (((Below.refl w.heap.size w).alloc (Nat.le_refl _) _).alloc (by simp) _))
  have A00 : Hid (Holds (w.heap.size) (w.heap.size + 1) W2 (Cells (w.heap.size) #[.slice a00 n00 c00, .slice a01 n01 c01, .slice a02 n02 c02] 50)) := Lib.hid (by
    have := ((cells_new w #[.slice a00 n00 c00, .slice a01 n01 c01, .slice a02 n02 c02] 50).alloc (.cells #[.int .i64 r1, .string s1, .string p1, .string o1] 55))
    rw [hW1, hW2] at this; exact this)
  have A10 : Hid (Holds (w.heap.size + 1) (w.heap.size + 1 + 1) W2 (Cells (w.heap.size + 1) #[.int .i64 r1, .string s1, .string p1, .string o1] 55)) := Lib.hid (by
    have := (cells_new W1 #[.int .i64 r1, .string s1, .string p1, .string o1] 55)
    rw [hW2, z1] at this; exact this)
  have HW := Lib.hid (And.intro hW1 (hW2))
  clear hW1 z1 hW2 z2
  have H0 := Lib.hid h0
  have HL0 := Lib.hid (And.intro h0.1.len (And.intro h0.2.1.len h0.2.2.len))
  have HM0 : Hid (SmAllPrFi t00 ∧ SmAllPrFi t01 ∧ SmAllOp t02) := Lib.hid ⟨IsPres.smallFi h0.1, IsPres.smallFi h0.2.1, h0.2.2.small⟩
  clear h0
  go_enter Try.func7, Try.ntmps7
  obtain ⟨v0, u0, z0⟩ := A00.out.now.treDk
  go_wp2_with fail
  rw [HW.out.1, HW.out.2]
  refine (szDk a00 a01 a02 n00 n01 n02 c00 c01 c02 t00 t01 t02 _ (H0.out.next B0.out) 1048576 (by omega) (by omega)).mono ?_
  rintro e w1 ⟨g0, rfl, hg, hb⟩
  clear v0 u0 z0
  have B1 := Lib.hid (B0.out.trans (hb.mono B0.out.size))
  have A01 := Lib.hid (A00.out.next hb)
  have A11 := Lib.hid (A10.out.next hb)
  clear B0 A00 A10
  clear hb
  rcases hg with rfl | ⟨e0, f0, ps0, qs0, rs0⟩
  · go_wp2_with fail
    go_ret
    exact ⟨rfl, B1.out⟩
  have S0 : Hid (SmDk t00 t01 t02) := Lib.hid ⟨ps0.2, qs0.2, rs0.2⟩
  have l0 : n00 ≤ 1048576 ∧ n01 ≤ 1048576 ∧ n02 ≤ 1048576 := ⟨ps0.1, qs0.1, rs0.1⟩
  clear ps0 qs0 rs0
  have d0 : ¬ g0 < 0 := by omega
  obtain ⟨v0, u0, z0, y0⟩ := A11.out.now.fourDk
  go_wp2_with fail
  refine (exSzDop r1 s1 p1 o1 _ hs1 hp1 ho1 g0 e0 (by omega)).mono ?_
  rintro e w2 ⟨g1, rfl, hg, hb⟩
  clear v0 u0 z0 y0
  have B2 := Lib.hid (B1.out.trans (hb.mono B1.out.size))
  have A02 := Lib.hid (A01.out.next hb)
  have A12 := Lib.hid (A11.out.next hb)
  clear B1 A01 A11
  clear hb
  rcases hg with rfl | ⟨e1, f1, ps1⟩
  · go_wp2_with fail
    go_ret
    exact ⟨rfl, B2.out⟩
  have Z1 : Hid (s1.size ≤ 1048576 ∧ p1.size ≤ 1048576 ∧ o1.size ≤ 1048576) := Lib.hid (by omega)
  have d1 : ¬ g1 < 0 := by omega
  have C1 := fun x0 y0 x1 y1 x2 y2 W hi => specDoDk x0 x1 x2 n00 n01 n02 y0 y1 y2 t00 t01 t02 r1 s1 p1 o1 W hi S0.out hs1 hp1 Z1.out.2.2 l0
  have C2 := fun x0 y0 x1 y1 x2 y2 W hi => implDoDk x0 x1 x2 n00 n01 n02 y0 y1 y2 t00 t01 t02 r1 s1 p1 o1 W hi S0.out hs1 hp1 Z1.out.2.2 l0
  have hmost := do_most t00 t01 t02 (r1, s1, p1, o1) HL0.out.2.1 HM0.out.1 HM0.out.2.1 HM0.out.2.2 hs1 hp1 Z1.out.2.2 l0.2.1
  unfold DoAllPost at C1 C2
  obtain ⟨R1, hR1⟩ : ∃ R, doL t00 t01 t02 (r1, s1, p1, o1) = R := ⟨_, rfl⟩
  obtain ⟨R2, hR2⟩ : ∃ R, doS t00 t01 t02 = R := ⟨_, rfl⟩
  obtain ⟨R3, hR3⟩ : ∃ R, doO t00 t01 t02 (r1, s1, p1, o1) = R := ⟨_, rfl⟩
  obtain ⟨cc, hcc⟩ : ∃ c, doC t00 t01 t02 (r1, s1, p1, o1) = c := ⟨_, rfl⟩
  rw [hR1, hR2, hR3] at hmost
  simp only [hR1, hR2, hR3, hcc] at C1 C2
  obtain ⟨N1, hN1⟩ : ∃ N, R1.length = N := ⟨_, rfl⟩
  obtain ⟨N2, hN2⟩ : ∃ N, R2.length = N := ⟨_, rfl⟩
  obtain ⟨N3, hN3⟩ : ∃ N, R3.length = N := ⟨_, rfl⟩
  have rl : N1 ≤ 1048576 ∧ N2 ≤ 1048576 ∧ N3 ≤ 1048576 := by have := hmost.1; omega
  have HN : Hid (R1.length = N1 ∧ R2.length = N2 ∧ R3.length = N3) := Lib.hid ⟨hN1, hN2, hN3⟩
  have HRM : Hid (SmAllPrFi R1 ∧ SmAllPrFi R2 ∧ SmAllOp R3) := Lib.hid hmost.2
  have HC1 : Hid (∀ x0 y0 x1 y1 x2 y2 W, IsDk W x0 x1 x2 n00 n01 n02 y0 y1 y2 t00 t01 t02 → Calls Try.prog 20 #[.agg #[.slice x0 n00 y0, .slice x1 n01 y1, .slice x2 n02 y2], .agg #[.int .i64 r1, .string s1, .string p1, .string o1]] W fun e w' => ∃ a1 c1 a2 c2 a3 c3, e = .returned (.tuple #[.agg #[.slice a1 N1 c1, .slice a2 N2 c2, .slice a3 N3 c3], .int .i64 cc]) ∧ Holds W.heap.size w'.heap.size w' (OwnDk W.heap.size w'.heap.size (.slice a1 N1 c1) (.slice a2 N2 c2) (.slice a3 N3 c3) R1 R2 R3) ∧ Below W.heap.size W w') := Lib.hid (fun x0 y0 x1 y1 x2 y2 W hi => (C1 x0 y0 x1 y1 x2 y2 W hi).mono fun e w' h => dk_shape2 h hN1 hN2 hN3)
  have HC2 : Hid (∀ x0 y0 x1 y1 x2 y2 W, IsDk W x0 x1 x2 n00 n01 n02 y0 y1 y2 t00 t01 t02 → Calls Try.prog 19 #[.agg #[.slice x0 n00 y0, .slice x1 n01 y1, .slice x2 n02 y2], .agg #[.int .i64 r1, .string s1, .string p1, .string o1]] W fun e w' => ∃ a1 c1 a2 c2 a3 c3, e = .returned (.tuple #[.agg #[.slice a1 N1 c1, .slice a2 N2 c2, .slice a3 N3 c3], .int .i64 cc]) ∧ Holds W.heap.size w'.heap.size w' (OwnDk W.heap.size w'.heap.size (.slice a1 N1 c1) (.slice a2 N2 c2) (.slice a3 N3 c3) R1 R2 R3) ∧ Below W.heap.size W w') := Lib.hid (fun x0 y0 x1 y1 x2 y2 W hi => (C2 x0 y0 x1 y1 x2 y2 W hi).mono fun e w' h => dk_shape2 h hN1 hN2 hN3)
  clear C1 C2 hmost hN1 hN2 hN3 hR1 hR2 hR3 hcc
  clear e0 f0 e1 f1
  go_wp2_with fail
  have LEA0_S0 := Lib.hid A02.out.le
  have LEA1_S0 := Lib.hid A12.out.le
  have LEw_S0 := Lib.hid B2.out.size
  go_cut [6, 7] from 8 (fun s6 s7 wx => ∃ g ras rcs rbs rds res rfs, s6 = .pointer (some ⟨g, 0, none⟩) ∧ s7 = .int .i64 cc ∧ Hid (Below w.heap.size w wx) ∧ Hid (Holds (w.heap.size) (w.heap.size + 1) wx (Cells (w.heap.size) #[.slice a00 n00 c00, .slice a01 n01 c01, .slice a02 n02 c02] 50)) ∧ Hid (Holds (w.heap.size + 1) (w.heap.size + 1 + 1) wx (Cells (w.heap.size + 1) #[.int .i64 r1, .string s1, .string p1, .string o1] 55)) ∧ Hid (Holds g (g + 1) wx (Cells g #[.slice ras N1 rcs, .slice rbs N2 rds, .slice res N3 rfs] 27)) ∧ ∃ B C, Hid (w2.heap.size ≤ B ∧ w2.heap.size ≤ g ∧ (g + 1 ≤ B ∨ C ≤ g)) ∧ Hid (Holds B C wx (OwnDk B C (.slice ras N1 rcs) (.slice rbs N2 rds) (.slice res N3 rfs) R1 R2 R3)))
  case first =>
    have B3 := Lib.hid B2.out.drew
    have A03 := Lib.hid A02.out.drew
    have A13 := Lib.hid A12.out.drew
    clear B2 A02 A12
    refine wp_region_held_drew (S := (fun w' => (w'.cell? ⟨w.heap.size, 0, none⟩ = some (.slice a00 n00 c00) ∧ w'.cell? ⟨w.heap.size, 1, none⟩ = some (.slice a01 n01 c01) ∧ w'.cell? ⟨w.heap.size, 2, none⟩ = some (.slice a02 n02 c02)) ∧ (w'.cell? ⟨w.heap.size + 1, 0, none⟩ = some (.int .i64 r1) ∧ w'.cell? ⟨w.heap.size + 1, 1, none⟩ = some (.string s1) ∧ w'.cell? ⟨w.heap.size + 1, 2, none⟩ = some (.string p1) ∧ w'.cell? ⟨w.heap.size + 1, 3, none⟩ = some (.string o1)))) (by kernel_rfl) ?_ (fun hHeld => ?_)
    · exact ⟨A03.out.now.treDk, A13.out.now.fourDk⟩
    have MV0 : Hid (w2.heap.size ≤ w2.drew.heap.size) := Lib.hid (Nat.le_refl _)
    generalize hV0 : w2.drew = V0 at B3 A03 A13 MV0 hHeld ⊢
    clear hV0
    refine wpAnyH_take (i := 0) (v := ?_) rfl (by kernel_rfl) (by kernel_rfl) (by kernel_rfl) (fun _ _ _ h => h) (Or.inl ⟨by kernel_rfl, ?_⟩) (by assumption) ?_
    rotate_left
    · intro w hSw; (try dsimp only at hSw); go_simp; try with_reducible rfl
    refine wpAnyH_take (i := 2) (v := ?_) rfl (by kernel_rfl) (by kernel_rfl) (by kernel_rfl) (fun _ _ _ h => h) (Or.inl ⟨by kernel_rfl, ?_⟩) (by assumption) ?_
    rotate_left
    · intro w hSw; (try dsimp only at hSw); go_simp; try with_reducible rfl
    refine wpAnyH_ready (rs := [1, 8]) (by kernel_rfl) (by simp) ?_
    try simp only [Act.put, List.setIfInBounds_toArray, List.set_cons_zero, List.set_cons_succ, List.getElem_toArray, List.getElem_cons_zero, List.getElem_cons_succ]
    refine (AllReadyH.cons rfl (fun KK hK => ?_) (AllReadyH.cons rfl (fun KK hK => ?_) AllReadyH.nil))
    · go_simp
      refine (exToDk a00 a01 a02 n00 n01 n02 c00 c01 c02 t00 t01 t02 _ (H0.out.next B3.out) l0 HL0.out).mono ?_
      rintro e zt ⟨x00_S, y00_S, x01_S, y01_S, x02_S, y02_S, rfl, hh, hb⟩
      have MG1 : Hid (V0.heap.size ≤ zt.heap.size) := Lib.hid hb.size
      have B4 := Lib.hid (B3.out.trans (hb.mono B3.out.size))
      have A04 := Lib.hid (A03.out.next hb)
      have A14 := Lib.hid (A13.out.next hb)
      clear B3 A03 A13
      have Q0S4 := Lib.hid (hh)
      clear hb hh
      go_wp2_with fail
      clear hHeld
      refine hK.out _ _ ?_ (fun hHeld => ?_)
      · exact ⟨A04.out.now.treDk, A14.out.now.fourDk⟩
      clear hK KK
      refine wpAnyH_ready (rs := [3, 8]) (by kernel_rfl) (by simp) ?_
      try simp only [Act.put, List.setIfInBounds_toArray, List.set_cons_zero, List.set_cons_succ, List.getElem_toArray, List.getElem_cons_zero, List.getElem_cons_succ]
      refine (AllReadyH.cons rfl (fun KK hK => ?_) (AllReadyH.cons rfl (fun KK hK => ?_) AllReadyH.nil))
      · go_simp
        refine (toDop r1 s1 p1 o1 _).mono ?_
        rintro e zo ⟨rfl, hb⟩
        have MG2 : Hid (zt.heap.size ≤ zo.heap.size) := Lib.hid hb.size
        have B5 := Lib.hid (B4.out.trans (hb.mono B4.out.size))
        have A05 := Lib.hid (A04.out.next hb)
        have A15 := Lib.hid (A14.out.next hb)
        have Q0S5 := Lib.hid (Q0S4.out.next hb)
        clear B4 A04 A14 Q0S4
        clear hb
        go_wp2_with fail
        clear hHeld
        refine hK.out _ _ ?_ (fun hHeld => ?_)
        · exact ⟨A05.out.now.treDk, A15.out.now.fourDk⟩
        clear hK KK
        refine wpAnyH_ready (rs := [4, 8]) (by kernel_rfl) (by simp) ?_
        try simp only [Act.put, List.setIfInBounds_toArray, List.set_cons_zero, List.set_cons_succ, List.getElem_toArray, List.getElem_cons_zero, List.getElem_cons_succ]
        refine (AllReadyH.cons rfl (fun KK hK => ?_) (AllReadyH.cons rfl (fun KK hK => ?_) AllReadyH.nil))
        · go_simp
          refine (HC1.out x00_S y00_S x01_S y01_S x02_S y02_S _ (Q0S5.out.now.readDk HM0.out HL0.out)).mono ?_
          rintro e zf ⟨ras, rcs, rbs, rds, res, rfs, rfl, hh, hb⟩
          have MG3 : Hid (zo.heap.size ≤ zf.heap.size) := Lib.hid hb.size
          clear Q0S5
          have B6 := Lib.hid (B5.out.trans (hb.mono B5.out.size))
          have A06 := Lib.hid (A05.out.next hb)
          have A16 := Lib.hid (A15.out.next hb)
          clear B5 A05 A15
          have S6 := Lib.hid (hh)
          clear hb hh
          go_wp2_with fail
          clear hHeld
          refine hK.out _ _ ?_ (fun hHeld => ?_)
          · exact ⟨A06.out.now.treDk, A16.out.now.fourDk⟩
          clear hK KK
          refine wpAnyH_take (i := 5) (v := ?_) rfl (by kernel_rfl) (by kernel_rfl) (by kernel_rfl) (fun _ _ _ h => h) (Or.inl ⟨by kernel_rfl, ?_⟩) (by assumption) ?_
          rotate_left
          · intro w hSw; (try dsimp only at hSw); go_simp; try with_reducible rfl
          refine wpAnyH_take (i := 6) (v := ?_) rfl (by kernel_rfl) (by kernel_rfl) (by kernel_rfl) (fun _ _ _ h => h) (Or.inl ⟨by kernel_rfl, ?_⟩) (by assumption) ?_
          rotate_left
          · intro w hSw; (try dsimp only at hSw); go_simp; try with_reducible rfl
          refine wpAnyH_take (i := 7) (v := ?_) rfl (by kernel_rfl) (by kernel_rfl) (by kernel_rfl) (fun _ _ _ h => h) (Or.inl ⟨by kernel_rfl, ?_⟩) (by assumption) ?_
          rotate_left
          · intro w hSw; (try dsimp only at hSw); go_simp; try with_reducible rfl
          refine wpAnyH_ready (rs := [8]) (by kernel_rfl) (by simp) ?_
          try simp only [Act.put, List.setIfInBounds_toArray, List.set_cons_zero, List.set_cons_succ, List.getElem_toArray, List.getElem_cons_zero, List.getElem_cons_succ]
          refine (AllReadyH.cons rfl (fun KK hK => ?_) AllReadyH.nil)
          go_simp
          have B7 := Lib.hid (B6.out.alloc B6.out.size (.cells #[.slice none 0 0, .slice none 0 0, .slice none 0 0] 27))
          have A07 := Lib.hid (A06.out.alloc (.cells #[.slice none 0 0, .slice none 0 0, .slice none 0 0] 27))
          have A17 := Lib.hid (A16.out.alloc (.cells #[.slice none 0 0, .slice none 0 0, .slice none 0 0] 27))
          have S7 := Lib.hid (S6.out.alloc (.cells #[.slice none 0 0, .slice none 0 0, .slice none 0 0] 27))
          clear B6 A06 A16 S6
          have tz := cells_new zf #[.slice none 0 0, .slice none 0 0, .slice none 0 0] 27
          have Z7 := Lib.hid (tz)
          clear tz
          have MG4 : Hid (zf.heap.size + 1 ≤ (zf.alloc (.cells #[.slice none 0 0, .slice none 0 0, .slice none 0 0] 27)).heap.size) := Lib.hid (by simp)
          clear hHeld
          refine hK.out _ _ ?_ (fun hHeld => ?_)
          · exact ⟨A07.out.now.treDk, A17.out.now.fourDk⟩
          clear hK KK
          generalize hva : (zf.alloc (.cells #[.slice none 0 0, .slice none 0 0, .slice none 0 0] 27)) = va5 at B7 MG4 A07 A17 S7 Z7 hHeld ⊢
          clear hva
          refine wpAnyH_ready (rs := [9]) (by kernel_rfl) (by simp) ?_
          try simp only [Act.put, List.setIfInBounds_toArray, List.set_cons_zero, List.set_cons_succ, List.getElem_toArray, List.getElem_cons_zero, List.getElem_cons_succ]
          refine AllReadyH.cons rfl (fun KK hK => ?_) AllReadyH.nil
          obtain ⟨y0, y1, y2⟩ := Z7.out.now.treDk
          have f0 := Z7.out.now.free 0
          have f1 := Z7.out.now.free 1
          have f2 := Z7.out.now.free 2
          go_simp
          have TS := turn_s3 va5 (zf.heap.size) (.slice ras N1 rcs) (.slice rbs N2 rds) (.slice res N3 rfs)
          have A0S := Lib.hid (A07.out.step TS (.inl (by have := LEA0_S0.out; have := MV0.out; have := MG1.out; have := MG2.out; have := MG3.out; have := MG4.out; omega)))
          have A1S := Lib.hid (A17.out.step TS (.inl (by have := LEA1_S0.out; have := MV0.out; have := MG1.out; have := MG2.out; have := MG3.out; have := MG4.out; omega)))
          have SrS := Lib.hid (S7.out.step TS (by have := MV0.out; have := MG1.out; have := MG2.out; have := MG3.out; have := MG4.out; omega))
          have ZS := Lib.hid (cells_set3 Z7.out (.slice ras N1 rcs) (.slice rbs N2 rds) (.slice res N3 rfs))
          have BS_ := Lib.hid (B7.out.trans (TS.below B7.out.size (by have := LEw_S0.out; have := MV0.out; have := MG1.out; have := MG2.out; have := MG3.out; have := MG4.out; omega)))
          have HP : Hid (w2.heap.size ≤ zo.heap.size ∧ w2.heap.size ≤ zf.heap.size ∧ (zf.heap.size + 1 ≤ zo.heap.size ∨ zf.heap.size ≤ zf.heap.size)) := Lib.hid (by have := MV0.out; have := MG1.out; have := MG2.out; have := MG3.out; have := MG4.out; omega)
          clear TS hHeld
          refine hK.out _ _ ?_ (fun hHeld => ?_)
          · exact ⟨A0S.out.now.treDk, A1S.out.now.fourDk⟩
          clear hK KK
          refine wpAnyH_take (i := 10) (v := ?_) rfl (by kernel_rfl) (by kernel_rfl) (by kernel_rfl) (fun _ _ _ h => h) (Or.inl ⟨by kernel_rfl, ?_⟩) (by assumption) ?_
          rotate_left
          · intro w hSw; (try dsimp only at hSw); go_simp; try with_reducible rfl
          clear hHeld
          refine wpAnyH_done (by kernel_rfl) ?_ _
          try simp only [Act.put, List.setIfInBounds_toArray, List.set_cons_zero, List.set_cons_succ, List.getElem_toArray, List.getElem_cons_zero, List.getElem_cons_succ]
          go_wp2_with fail
          go_meet
          exact ⟨_, ras, rcs, rbs, rds, res, rfs, rfl, rfl, BS_, A0S, A1S, ZS, _, _, HP, SrS⟩
        · go_simp
          have B6 := Lib.hid (B5.out.alloc B5.out.size (.cells #[.slice none 0 0, .slice none 0 0, .slice none 0 0] 27))
          have A06 := Lib.hid (A05.out.alloc (.cells #[.slice none 0 0, .slice none 0 0, .slice none 0 0] 27))
          have A16 := Lib.hid (A15.out.alloc (.cells #[.slice none 0 0, .slice none 0 0, .slice none 0 0] 27))
          have Q0S6 := Lib.hid (Q0S5.out.alloc (.cells #[.slice none 0 0, .slice none 0 0, .slice none 0 0] 27))
          clear B5 A05 A15 Q0S5
          have tz := cells_new zo #[.slice none 0 0, .slice none 0 0, .slice none 0 0] 27
          have Z6 := Lib.hid (tz)
          clear tz
          have MG6 : Hid (zo.heap.size + 1 ≤ (zo.alloc (.cells #[.slice none 0 0, .slice none 0 0, .slice none 0 0] 27)).heap.size) := Lib.hid (by simp)
          clear hHeld
          refine hK.out _ _ ?_ (fun hHeld => ?_)
          · exact ⟨A06.out.now.treDk, A16.out.now.fourDk⟩
          clear hK KK
          generalize hva : (zo.alloc (.cells #[.slice none 0 0, .slice none 0 0, .slice none 0 0] 27)) = va7 at B6 MG6 A06 A16 Q0S6 Z6 hHeld ⊢
          clear hva
          refine wpAnyH_ready (rs := [4]) (by kernel_rfl) (by simp) ?_
          try simp only [Act.put, List.setIfInBounds_toArray, List.set_cons_zero, List.set_cons_succ, List.getElem_toArray, List.getElem_cons_zero, List.getElem_cons_succ]
          refine (AllReadyH.cons rfl (fun KK hK => ?_) AllReadyH.nil)
          go_simp
          refine (HC1.out x00_S y00_S x01_S y01_S x02_S y02_S _ (Q0S6.out.now.readDk HM0.out HL0.out)).mono ?_
          rintro e zf ⟨ras, rcs, rbs, rds, res, rfs, rfl, hh, hb⟩
          have MG8 : Hid (va7.heap.size ≤ zf.heap.size) := Lib.hid hb.size
          clear Q0S6
          have B7 := Lib.hid (B6.out.trans (hb.mono B6.out.size))
          have A07 := Lib.hid (A06.out.next hb)
          have A17 := Lib.hid (A16.out.next hb)
          have Z7 := Lib.hid (Z6.out.next hb)
          clear B6 A06 A16 Z6
          have S7 := Lib.hid (hh)
          clear hb hh
          go_wp2_with fail
          clear hHeld
          refine hK.out _ _ ?_ (fun hHeld => ?_)
          · exact ⟨A07.out.now.treDk, A17.out.now.fourDk⟩
          clear hK KK
          refine wpAnyH_take (i := 5) (v := ?_) rfl (by kernel_rfl) (by kernel_rfl) (by kernel_rfl) (fun _ _ _ h => h) (Or.inl ⟨by kernel_rfl, ?_⟩) (by assumption) ?_
          rotate_left
          · intro w hSw; (try dsimp only at hSw); go_simp; try with_reducible rfl
          refine wpAnyH_take (i := 6) (v := ?_) rfl (by kernel_rfl) (by kernel_rfl) (by kernel_rfl) (fun _ _ _ h => h) (Or.inl ⟨by kernel_rfl, ?_⟩) (by assumption) ?_
          rotate_left
          · intro w hSw; (try dsimp only at hSw); go_simp; try with_reducible rfl
          refine wpAnyH_take (i := 7) (v := ?_) rfl (by kernel_rfl) (by kernel_rfl) (by kernel_rfl) (fun _ _ _ h => h) (Or.inl ⟨by kernel_rfl, ?_⟩) (by assumption) ?_
          rotate_left
          · intro w hSw; (try dsimp only at hSw); go_simp; try with_reducible rfl
          refine wpAnyH_ready (rs := [9]) (by kernel_rfl) (by simp) ?_
          try simp only [Act.put, List.setIfInBounds_toArray, List.set_cons_zero, List.set_cons_succ, List.getElem_toArray, List.getElem_cons_zero, List.getElem_cons_succ]
          refine AllReadyH.cons rfl (fun KK hK => ?_) AllReadyH.nil
          obtain ⟨y0, y1, y2⟩ := Z7.out.now.treDk
          have f0 := Z7.out.now.free 0
          have f1 := Z7.out.now.free 1
          have f2 := Z7.out.now.free 2
          go_simp
          have TS := turn_s3 zf (zo.heap.size) (.slice ras N1 rcs) (.slice rbs N2 rds) (.slice res N3 rfs)
          have A0S := Lib.hid (A07.out.step TS (.inl (by have := LEA0_S0.out; have := MV0.out; have := MG1.out; have := MG2.out; have := MG6.out; have := MG8.out; omega)))
          have A1S := Lib.hid (A17.out.step TS (.inl (by have := LEA1_S0.out; have := MV0.out; have := MG1.out; have := MG2.out; have := MG6.out; have := MG8.out; omega)))
          have SrS := Lib.hid (S7.out.step TS (by have := MV0.out; have := MG1.out; have := MG2.out; have := MG6.out; have := MG8.out; omega))
          have ZS := Lib.hid (cells_set3 Z7.out (.slice ras N1 rcs) (.slice rbs N2 rds) (.slice res N3 rfs))
          have BS_ := Lib.hid (B7.out.trans (TS.below B7.out.size (by have := LEw_S0.out; have := MV0.out; have := MG1.out; have := MG2.out; have := MG6.out; have := MG8.out; omega)))
          have HP : Hid (w2.heap.size ≤ va7.heap.size ∧ w2.heap.size ≤ zo.heap.size ∧ (zo.heap.size + 1 ≤ va7.heap.size ∨ zf.heap.size ≤ zo.heap.size)) := Lib.hid (by have := MV0.out; have := MG1.out; have := MG2.out; have := MG6.out; have := MG8.out; omega)
          clear TS hHeld
          refine hK.out _ _ ?_ (fun hHeld => ?_)
          · exact ⟨A0S.out.now.treDk, A1S.out.now.fourDk⟩
          clear hK KK
          refine wpAnyH_take (i := 10) (v := ?_) rfl (by kernel_rfl) (by kernel_rfl) (by kernel_rfl) (fun _ _ _ h => h) (Or.inl ⟨by kernel_rfl, ?_⟩) (by assumption) ?_
          rotate_left
          · intro w hSw; (try dsimp only at hSw); go_simp; try with_reducible rfl
          clear hHeld
          refine wpAnyH_done (by kernel_rfl) ?_ _
          try simp only [Act.put, List.setIfInBounds_toArray, List.set_cons_zero, List.set_cons_succ, List.getElem_toArray, List.getElem_cons_zero, List.getElem_cons_succ]
          go_wp2_with fail
          go_meet
          exact ⟨_, ras, rcs, rbs, rds, res, rfs, rfl, rfl, BS_, A0S, A1S, ZS, _, _, HP, SrS⟩
      · go_simp
        have B5 := Lib.hid (B4.out.alloc B4.out.size (.cells #[.slice none 0 0, .slice none 0 0, .slice none 0 0] 27))
        have A05 := Lib.hid (A04.out.alloc (.cells #[.slice none 0 0, .slice none 0 0, .slice none 0 0] 27))
        have A15 := Lib.hid (A14.out.alloc (.cells #[.slice none 0 0, .slice none 0 0, .slice none 0 0] 27))
        have Q0S5 := Lib.hid (Q0S4.out.alloc (.cells #[.slice none 0 0, .slice none 0 0, .slice none 0 0] 27))
        clear B4 A04 A14 Q0S4
        have tz := cells_new zt #[.slice none 0 0, .slice none 0 0, .slice none 0 0] 27
        have Z5 := Lib.hid (tz)
        clear tz
        have MG9 : Hid (zt.heap.size + 1 ≤ (zt.alloc (.cells #[.slice none 0 0, .slice none 0 0, .slice none 0 0] 27)).heap.size) := Lib.hid (by simp)
        clear hHeld
        refine hK.out _ _ ?_ (fun hHeld => ?_)
        · exact ⟨A05.out.now.treDk, A15.out.now.fourDk⟩
        clear hK KK
        generalize hva : (zt.alloc (.cells #[.slice none 0 0, .slice none 0 0, .slice none 0 0] 27)) = va10 at B5 MG9 A05 A15 Q0S5 Z5 hHeld ⊢
        clear hva
        refine wpAnyH_ready (rs := [3]) (by kernel_rfl) (by simp) ?_
        try simp only [Act.put, List.setIfInBounds_toArray, List.set_cons_zero, List.set_cons_succ, List.getElem_toArray, List.getElem_cons_zero, List.getElem_cons_succ]
        refine (AllReadyH.cons rfl (fun KK hK => ?_) AllReadyH.nil)
        go_simp
        refine (toDop r1 s1 p1 o1 _).mono ?_
        rintro e zo ⟨rfl, hb⟩
        have MG11 : Hid (va10.heap.size ≤ zo.heap.size) := Lib.hid hb.size
        have B6 := Lib.hid (B5.out.trans (hb.mono B5.out.size))
        have A06 := Lib.hid (A05.out.next hb)
        have A16 := Lib.hid (A15.out.next hb)
        have Q0S6 := Lib.hid (Q0S5.out.next hb)
        have Z6 := Lib.hid (Z5.out.next hb)
        clear B5 A05 A15 Q0S5 Z5
        clear hb
        go_wp2_with fail
        clear hHeld
        refine hK.out _ _ ?_ (fun hHeld => ?_)
        · exact ⟨A06.out.now.treDk, A16.out.now.fourDk⟩
        clear hK KK
        refine wpAnyH_ready (rs := [4]) (by kernel_rfl) (by simp) ?_
        try simp only [Act.put, List.setIfInBounds_toArray, List.set_cons_zero, List.set_cons_succ, List.getElem_toArray, List.getElem_cons_zero, List.getElem_cons_succ]
        refine (AllReadyH.cons rfl (fun KK hK => ?_) AllReadyH.nil)
        go_simp
        refine (HC1.out x00_S y00_S x01_S y01_S x02_S y02_S _ (Q0S6.out.now.readDk HM0.out HL0.out)).mono ?_
        rintro e zf ⟨ras, rcs, rbs, rds, res, rfs, rfl, hh, hb⟩
        have MG12 : Hid (zo.heap.size ≤ zf.heap.size) := Lib.hid hb.size
        clear Q0S6
        have B7 := Lib.hid (B6.out.trans (hb.mono B6.out.size))
        have A07 := Lib.hid (A06.out.next hb)
        have A17 := Lib.hid (A16.out.next hb)
        have Z7 := Lib.hid (Z6.out.next hb)
        clear B6 A06 A16 Z6
        have S7 := Lib.hid (hh)
        clear hb hh
        go_wp2_with fail
        clear hHeld
        refine hK.out _ _ ?_ (fun hHeld => ?_)
        · exact ⟨A07.out.now.treDk, A17.out.now.fourDk⟩
        clear hK KK
        refine wpAnyH_take (i := 5) (v := ?_) rfl (by kernel_rfl) (by kernel_rfl) (by kernel_rfl) (fun _ _ _ h => h) (Or.inl ⟨by kernel_rfl, ?_⟩) (by assumption) ?_
        rotate_left
        · intro w hSw; (try dsimp only at hSw); go_simp; try with_reducible rfl
        refine wpAnyH_take (i := 6) (v := ?_) rfl (by kernel_rfl) (by kernel_rfl) (by kernel_rfl) (fun _ _ _ h => h) (Or.inl ⟨by kernel_rfl, ?_⟩) (by assumption) ?_
        rotate_left
        · intro w hSw; (try dsimp only at hSw); go_simp; try with_reducible rfl
        refine wpAnyH_take (i := 7) (v := ?_) rfl (by kernel_rfl) (by kernel_rfl) (by kernel_rfl) (fun _ _ _ h => h) (Or.inl ⟨by kernel_rfl, ?_⟩) (by assumption) ?_
        rotate_left
        · intro w hSw; (try dsimp only at hSw); go_simp; try with_reducible rfl
        refine wpAnyH_ready (rs := [9]) (by kernel_rfl) (by simp) ?_
        try simp only [Act.put, List.setIfInBounds_toArray, List.set_cons_zero, List.set_cons_succ, List.getElem_toArray, List.getElem_cons_zero, List.getElem_cons_succ]
        refine AllReadyH.cons rfl (fun KK hK => ?_) AllReadyH.nil
        obtain ⟨y0, y1, y2⟩ := Z7.out.now.treDk
        have f0 := Z7.out.now.free 0
        have f1 := Z7.out.now.free 1
        have f2 := Z7.out.now.free 2
        go_simp
        have TS := turn_s3 zf (zt.heap.size) (.slice ras N1 rcs) (.slice rbs N2 rds) (.slice res N3 rfs)
        have A0S := Lib.hid (A07.out.step TS (.inl (by have := LEA0_S0.out; have := MV0.out; have := MG1.out; have := MG9.out; have := MG11.out; have := MG12.out; omega)))
        have A1S := Lib.hid (A17.out.step TS (.inl (by have := LEA1_S0.out; have := MV0.out; have := MG1.out; have := MG9.out; have := MG11.out; have := MG12.out; omega)))
        have SrS := Lib.hid (S7.out.step TS (by have := MV0.out; have := MG1.out; have := MG9.out; have := MG11.out; have := MG12.out; omega))
        have ZS := Lib.hid (cells_set3 Z7.out (.slice ras N1 rcs) (.slice rbs N2 rds) (.slice res N3 rfs))
        have BS_ := Lib.hid (B7.out.trans (TS.below B7.out.size (by have := LEw_S0.out; have := MV0.out; have := MG1.out; have := MG9.out; have := MG11.out; have := MG12.out; omega)))
        have HP : Hid (w2.heap.size ≤ zo.heap.size ∧ w2.heap.size ≤ zt.heap.size ∧ (zt.heap.size + 1 ≤ zo.heap.size ∨ zf.heap.size ≤ zt.heap.size)) := Lib.hid (by have := MV0.out; have := MG1.out; have := MG9.out; have := MG11.out; have := MG12.out; omega)
        clear TS hHeld
        refine hK.out _ _ ?_ (fun hHeld => ?_)
        · exact ⟨A0S.out.now.treDk, A1S.out.now.fourDk⟩
        clear hK KK
        refine wpAnyH_take (i := 10) (v := ?_) rfl (by kernel_rfl) (by kernel_rfl) (by kernel_rfl) (fun _ _ _ h => h) (Or.inl ⟨by kernel_rfl, ?_⟩) (by assumption) ?_
        rotate_left
        · intro w hSw; (try dsimp only at hSw); go_simp; try with_reducible rfl
        clear hHeld
        refine wpAnyH_done (by kernel_rfl) ?_ _
        try simp only [Act.put, List.setIfInBounds_toArray, List.set_cons_zero, List.set_cons_succ, List.getElem_toArray, List.getElem_cons_zero, List.getElem_cons_succ]
        go_wp2_with fail
        go_meet
        exact ⟨_, ras, rcs, rbs, rds, res, rfs, rfl, rfl, BS_, A0S, A1S, ZS, _, _, HP, SrS⟩
    · go_simp
      have B4 := Lib.hid (B3.out.alloc B3.out.size (.cells #[.slice none 0 0, .slice none 0 0, .slice none 0 0] 27))
      have A04 := Lib.hid (A03.out.alloc (.cells #[.slice none 0 0, .slice none 0 0, .slice none 0 0] 27))
      have A14 := Lib.hid (A13.out.alloc (.cells #[.slice none 0 0, .slice none 0 0, .slice none 0 0] 27))
      clear B3 A03 A13
      have tz := cells_new V0 #[.slice none 0 0, .slice none 0 0, .slice none 0 0] 27
      have Z4 := Lib.hid (tz)
      clear tz
      have MG13 : Hid (V0.heap.size + 1 ≤ (V0.alloc (.cells #[.slice none 0 0, .slice none 0 0, .slice none 0 0] 27)).heap.size) := Lib.hid (by simp)
      clear hHeld
      refine hK.out _ _ ?_ (fun hHeld => ?_)
      · exact ⟨A04.out.now.treDk, A14.out.now.fourDk⟩
      clear hK KK
      generalize hva : (V0.alloc (.cells #[.slice none 0 0, .slice none 0 0, .slice none 0 0] 27)) = va14 at B4 MG13 A04 A14 Z4 hHeld ⊢
      clear hva
      refine wpAnyH_ready (rs := [1]) (by kernel_rfl) (by simp) ?_
      try simp only [Act.put, List.setIfInBounds_toArray, List.set_cons_zero, List.set_cons_succ, List.getElem_toArray, List.getElem_cons_zero, List.getElem_cons_succ]
      refine (AllReadyH.cons rfl (fun KK hK => ?_) AllReadyH.nil)
      go_simp
      refine (exToDk a00 a01 a02 n00 n01 n02 c00 c01 c02 t00 t01 t02 _ (H0.out.next B4.out) l0 HL0.out).mono ?_
      rintro e zt ⟨x00_S, y00_S, x01_S, y01_S, x02_S, y02_S, rfl, hh, hb⟩
      have MG15 : Hid (va14.heap.size ≤ zt.heap.size) := Lib.hid hb.size
      have B5 := Lib.hid (B4.out.trans (hb.mono B4.out.size))
      have A05 := Lib.hid (A04.out.next hb)
      have A15 := Lib.hid (A14.out.next hb)
      have Z5 := Lib.hid (Z4.out.next hb)
      clear B4 A04 A14 Z4
      have Q0S5 := Lib.hid (hh)
      clear hb hh
      go_wp2_with fail
      clear hHeld
      refine hK.out _ _ ?_ (fun hHeld => ?_)
      · exact ⟨A05.out.now.treDk, A15.out.now.fourDk⟩
      clear hK KK
      refine wpAnyH_ready (rs := [3]) (by kernel_rfl) (by simp) ?_
      try simp only [Act.put, List.setIfInBounds_toArray, List.set_cons_zero, List.set_cons_succ, List.getElem_toArray, List.getElem_cons_zero, List.getElem_cons_succ]
      refine (AllReadyH.cons rfl (fun KK hK => ?_) AllReadyH.nil)
      go_simp
      refine (toDop r1 s1 p1 o1 _).mono ?_
      rintro e zo ⟨rfl, hb⟩
      have MG16 : Hid (zt.heap.size ≤ zo.heap.size) := Lib.hid hb.size
      have B6 := Lib.hid (B5.out.trans (hb.mono B5.out.size))
      have A06 := Lib.hid (A05.out.next hb)
      have A16 := Lib.hid (A15.out.next hb)
      have Z6 := Lib.hid (Z5.out.next hb)
      have Q0S6 := Lib.hid (Q0S5.out.next hb)
      clear B5 A05 A15 Z5 Q0S5
      clear hb
      go_wp2_with fail
      clear hHeld
      refine hK.out _ _ ?_ (fun hHeld => ?_)
      · exact ⟨A06.out.now.treDk, A16.out.now.fourDk⟩
      clear hK KK
      refine wpAnyH_ready (rs := [4]) (by kernel_rfl) (by simp) ?_
      try simp only [Act.put, List.setIfInBounds_toArray, List.set_cons_zero, List.set_cons_succ, List.getElem_toArray, List.getElem_cons_zero, List.getElem_cons_succ]
      refine (AllReadyH.cons rfl (fun KK hK => ?_) AllReadyH.nil)
      go_simp
      refine (HC1.out x00_S y00_S x01_S y01_S x02_S y02_S _ (Q0S6.out.now.readDk HM0.out HL0.out)).mono ?_
      rintro e zf ⟨ras, rcs, rbs, rds, res, rfs, rfl, hh, hb⟩
      have MG17 : Hid (zo.heap.size ≤ zf.heap.size) := Lib.hid hb.size
      clear Q0S6
      have B7 := Lib.hid (B6.out.trans (hb.mono B6.out.size))
      have A07 := Lib.hid (A06.out.next hb)
      have A17 := Lib.hid (A16.out.next hb)
      have Z7 := Lib.hid (Z6.out.next hb)
      clear B6 A06 A16 Z6
      have S7 := Lib.hid (hh)
      clear hb hh
      go_wp2_with fail
      clear hHeld
      refine hK.out _ _ ?_ (fun hHeld => ?_)
      · exact ⟨A07.out.now.treDk, A17.out.now.fourDk⟩
      clear hK KK
      refine wpAnyH_take (i := 5) (v := ?_) rfl (by kernel_rfl) (by kernel_rfl) (by kernel_rfl) (fun _ _ _ h => h) (Or.inl ⟨by kernel_rfl, ?_⟩) (by assumption) ?_
      rotate_left
      · intro w hSw; (try dsimp only at hSw); go_simp; try with_reducible rfl
      refine wpAnyH_take (i := 6) (v := ?_) rfl (by kernel_rfl) (by kernel_rfl) (by kernel_rfl) (fun _ _ _ h => h) (Or.inl ⟨by kernel_rfl, ?_⟩) (by assumption) ?_
      rotate_left
      · intro w hSw; (try dsimp only at hSw); go_simp; try with_reducible rfl
      refine wpAnyH_take (i := 7) (v := ?_) rfl (by kernel_rfl) (by kernel_rfl) (by kernel_rfl) (fun _ _ _ h => h) (Or.inl ⟨by kernel_rfl, ?_⟩) (by assumption) ?_
      rotate_left
      · intro w hSw; (try dsimp only at hSw); go_simp; try with_reducible rfl
      refine wpAnyH_ready (rs := [9]) (by kernel_rfl) (by simp) ?_
      try simp only [Act.put, List.setIfInBounds_toArray, List.set_cons_zero, List.set_cons_succ, List.getElem_toArray, List.getElem_cons_zero, List.getElem_cons_succ]
      refine AllReadyH.cons rfl (fun KK hK => ?_) AllReadyH.nil
      obtain ⟨y0, y1, y2⟩ := Z7.out.now.treDk
      have f0 := Z7.out.now.free 0
      have f1 := Z7.out.now.free 1
      have f2 := Z7.out.now.free 2
      go_simp
      have TS := turn_s3 zf (V0.heap.size) (.slice ras N1 rcs) (.slice rbs N2 rds) (.slice res N3 rfs)
      have A0S := Lib.hid (A07.out.step TS (.inl (by have := LEA0_S0.out; have := MV0.out; have := MG13.out; have := MG15.out; have := MG16.out; have := MG17.out; omega)))
      have A1S := Lib.hid (A17.out.step TS (.inl (by have := LEA1_S0.out; have := MV0.out; have := MG13.out; have := MG15.out; have := MG16.out; have := MG17.out; omega)))
      have SrS := Lib.hid (S7.out.step TS (by have := MV0.out; have := MG13.out; have := MG15.out; have := MG16.out; have := MG17.out; omega))
      have ZS := Lib.hid (cells_set3 Z7.out (.slice ras N1 rcs) (.slice rbs N2 rds) (.slice res N3 rfs))
      have BS_ := Lib.hid (B7.out.trans (TS.below B7.out.size (by have := LEw_S0.out; have := MV0.out; have := MG13.out; have := MG15.out; have := MG16.out; have := MG17.out; omega)))
      have HP : Hid (w2.heap.size ≤ zo.heap.size ∧ w2.heap.size ≤ V0.heap.size ∧ (V0.heap.size + 1 ≤ zo.heap.size ∨ zf.heap.size ≤ V0.heap.size)) := Lib.hid (by have := MV0.out; have := MG13.out; have := MG15.out; have := MG16.out; have := MG17.out; omega)
      clear TS hHeld
      refine hK.out _ _ ?_ (fun hHeld => ?_)
      · exact ⟨A0S.out.now.treDk, A1S.out.now.fourDk⟩
      clear hK KK
      refine wpAnyH_take (i := 10) (v := ?_) rfl (by kernel_rfl) (by kernel_rfl) (by kernel_rfl) (fun _ _ _ h => h) (Or.inl ⟨by kernel_rfl, ?_⟩) (by assumption) ?_
      rotate_left
      · intro w hSw; (try dsimp only at hSw); go_simp; try with_reducible rfl
      clear hHeld
      refine wpAnyH_done (by kernel_rfl) ?_ _
      try simp only [Act.put, List.setIfInBounds_toArray, List.set_cons_zero, List.set_cons_succ, List.getElem_toArray, List.getElem_cons_zero, List.getElem_cons_succ]
      go_wp2_with fail
      go_meet
      exact ⟨_, ras, rcs, rbs, rds, res, rfs, rfl, rfl, BS_, A0S, A1S, ZS, _, _, HP, SrS⟩
  clear B2 A02 A12
  generalize wc = wcS at hcut ⊢
  obtain ⟨gS, ras, rcs, rbs, rds, res, rfs, rfl, rfl, B23, A023, A123, KS23, BS, CS, HPS, S23⟩ := hcut
  have LEA0_S := Lib.hid (Nat.le_trans LEA0_S0.out HPS.out.1)
  have LEA0_KS := Lib.hid (Nat.le_trans LEA0_S0.out HPS.out.2.1)
  have LEA1_S := Lib.hid (Nat.le_trans LEA1_S0.out HPS.out.1)
  have LEA1_KS := Lib.hid (Nat.le_trans LEA1_S0.out HPS.out.2.1)
  have LEw_S := Lib.hid (Nat.le_trans LEw_S0.out HPS.out.1)
  have DJS := Lib.hid HPS.out.2.2
  obtain ⟨v0, u0, z0⟩ := A023.out.now.treDk
  go_wp2_with fail
  have LEA0_X0 := Lib.hid A023.out.le
  have LEA1_X0 := Lib.hid A123.out.le
  have LES_X0 := Lib.hid S23.out.le
  have LEKS_X0 := Lib.hid KS23.out.le
  have LEw_X0 := Lib.hid B23.out.size
  refine (exToDk a00 a01 a02 n00 n01 n02 c00 c01 c02 t00 t01 t02 _ (H0.out.next B23.out) l0 HL0.out).mono ?_
  rintro e w3 ⟨x00_x, y00_x, x01_x, y01_x, x02_x, y02_x, rfl, hh, hb⟩
  clear v0 u0 z0
  have B24 := Lib.hid (B23.out.trans (hb.mono B23.out.size))
  have A024 := Lib.hid (A023.out.next hb)
  have A124 := Lib.hid (A123.out.next hb)
  have S24 := Lib.hid (S23.out.next hb)
  have KS24 := Lib.hid (KS23.out.next hb)
  clear B23 A023 A123 S23 KS23
  have X024 := Lib.hid (hh)
  clear hb hh
  have LEA0_KX0 := Lib.hid A024.out.le
  have LEA1_KX0 := Lib.hid A124.out.le
  have LES_KX0 := Lib.hid S24.out.le
  have LEKS_KX0 := Lib.hid KS24.out.le
  have LEX0_KX0 := Lib.hid X024.out.le
  have B25 := Lib.hid (B24.out.alloc B24.out.size (.cells #[.slice x00_x n00 y00_x, .slice x01_x n01 y01_x, .slice x02_x n02 y02_x] 27))
  have A025 := Lib.hid (A024.out.alloc (.cells #[.slice x00_x n00 y00_x, .slice x01_x n01 y01_x, .slice x02_x n02 y02_x] 27))
  have A125 := Lib.hid (A124.out.alloc (.cells #[.slice x00_x n00 y00_x, .slice x01_x n01 y01_x, .slice x02_x n02 y02_x] 27))
  have S25 := Lib.hid (S24.out.alloc (.cells #[.slice x00_x n00 y00_x, .slice x01_x n01 y01_x, .slice x02_x n02 y02_x] 27))
  have KS25 := Lib.hid (KS24.out.alloc (.cells #[.slice x00_x n00 y00_x, .slice x01_x n01 y01_x, .slice x02_x n02 y02_x] 27))
  have X025 := Lib.hid (X024.out.alloc (.cells #[.slice x00_x n00 y00_x, .slice x01_x n01 y01_x, .slice x02_x n02 y02_x] 27))
  clear B24 A024 A124 S24 KS24 X024
  have KX025 := Lib.hid (cells_new w3 #[.slice x00_x n00 y00_x, .slice x01_x n01 y01_x, .slice x02_x n02 y02_x] 27)
  go_wp2_with fail
  have HZw4 := Lib.hid (show w3.heap.size ≤ ((w3.alloc (.cells #[.slice x00_x n00 y00_x, .slice x01_x n01 y01_x, .slice x02_x n02 y02_x] 27))).heap.size from by simp)
  generalize (w3.alloc (.cells #[.slice x00_x n00 y00_x, .slice x01_x n01 y01_x, .slice x02_x n02 y02_x] 27)) = w4 at B25 A025 A125 S25 KS25 X025 KX025 HZw4 ⊢
  have LEA0_G0 := Lib.hid A025.out.le
  have LEA1_G0 := Lib.hid A125.out.le
  have LES_G0 := Lib.hid S25.out.le
  have LEKS_G0 := Lib.hid KS25.out.le
  have LEX0_G0 := Lib.hid X025.out.le
  have LEKX0_G0 := Lib.hid KX025.out.le
  have LEw_G0 := Lib.hid B25.out.size
  go_cut [9, 10] from 11 (fun s9 s10 wx => ∃ g rag rcg rbg rdg reg rfg, s9 = .pointer (some ⟨g, 0, none⟩) ∧ s10 = .int .i64 cc ∧ Hid (Below w.heap.size w wx) ∧ Hid (Holds (w.heap.size) (w.heap.size + 1) wx (Cells (w.heap.size) #[.slice a00 n00 c00, .slice a01 n01 c01, .slice a02 n02 c02] 50)) ∧ Hid (Holds (w.heap.size + 1) (w.heap.size + 1 + 1) wx (Cells (w.heap.size + 1) #[.int .i64 r1, .string s1, .string p1, .string o1] 55)) ∧ Hid (Holds (BS) (CS) wx (OwnDk (BS) (CS) (.slice ras N1 rcs) (.slice rbs N2 rds) (.slice res N3 rfs) R1 R2 R3)) ∧ Hid (Holds gS (gS + 1) wx (Cells gS #[.slice ras N1 rcs, .slice rbs N2 rds, .slice res N3 rfs] 27)) ∧ Hid (Holds (wcS.heap.size) (w3.heap.size) wx (OwnDk (wcS.heap.size) (w3.heap.size) (.slice x00_x n00 y00_x) (.slice x01_x n01 y01_x) (.slice x02_x n02 y02_x) t00 t01 t02)) ∧ Hid (Holds (w3.heap.size) (w3.heap.size + 1) wx (Cells (w3.heap.size) #[.slice x00_x n00 y00_x, .slice x01_x n01 y01_x, .slice x02_x n02 y02_x] 27)) ∧ Hid (Holds g (g + 1) wx (Cells g #[.slice rag N1 rcg, .slice rbg N2 rdg, .slice reg N3 rfg] 27)) ∧ ∃ B C, Hid (w4.heap.size ≤ B ∧ w4.heap.size ≤ g ∧ (g + 1 ≤ B ∨ C ≤ g)) ∧ Hid (Holds B C wx (OwnDk B C (.slice rag N1 rcg) (.slice rbg N2 rdg) (.slice reg N3 rfg) R1 R2 R3)))
  case first =>
    have B26 := Lib.hid B25.out.drew
    have A026 := Lib.hid A025.out.drew
    have A126 := Lib.hid A125.out.drew
    have S26 := Lib.hid S25.out.drew
    have KS26 := Lib.hid KS25.out.drew
    have X026 := Lib.hid X025.out.drew
    have KX026 := Lib.hid KX025.out.drew
    clear B25 A025 A125 S25 KS25 X025 KX025
    refine wp_region_held_drew (S := (fun w' => (w'.cell? ⟨w3.heap.size, 0, none⟩ = some (.slice x00_x n00 y00_x) ∧ w'.cell? ⟨w3.heap.size, 1, none⟩ = some (.slice x01_x n01 y01_x) ∧ w'.cell? ⟨w3.heap.size, 2, none⟩ = some (.slice x02_x n02 y02_x)) ∧ (w'.cell? ⟨w.heap.size + 1, 0, none⟩ = some (.int .i64 r1) ∧ w'.cell? ⟨w.heap.size + 1, 1, none⟩ = some (.string s1) ∧ w'.cell? ⟨w.heap.size + 1, 2, none⟩ = some (.string p1) ∧ w'.cell? ⟨w.heap.size + 1, 3, none⟩ = some (.string o1)))) (by kernel_rfl) ?_ (fun hHeld => ?_)
    · exact ⟨KX026.out.now.treDk, A126.out.now.fourDk⟩
    have MV0 : Hid (w4.heap.size ≤ w4.drew.heap.size) := Lib.hid (Nat.le_refl _)
    generalize hV0 : w4.drew = V0 at B26 A026 A126 S26 KS26 X026 KX026 MV0 hHeld ⊢
    clear hV0
    refine wpAnyH_take (i := 0) (v := ?_) rfl (by kernel_rfl) (by kernel_rfl) (by kernel_rfl) (fun _ _ _ h => h) (Or.inl ⟨by kernel_rfl, ?_⟩) (by assumption) ?_
    rotate_left
    · intro w hSw; (try dsimp only at hSw); go_simp; try with_reducible rfl
    refine wpAnyH_take (i := 1) (v := ?_) rfl (by kernel_rfl) (by kernel_rfl) (by kernel_rfl) (fun _ _ _ h => h) (Or.inl ⟨by kernel_rfl, ?_⟩) (by assumption) ?_
    rotate_left
    · intro w hSw; (try dsimp only at hSw); go_simp; try with_reducible rfl
    refine wpAnyH_ready (rs := [2, 7]) (by kernel_rfl) (by simp) ?_
    try simp only [Act.put, List.setIfInBounds_toArray, List.set_cons_zero, List.set_cons_succ, List.getElem_toArray, List.getElem_cons_zero, List.getElem_cons_succ]
    refine (AllReadyH.cons rfl (fun KK hK => ?_) (AllReadyH.cons rfl (fun KK hK => ?_) AllReadyH.nil))
    · go_simp
      refine (toDop r1 s1 p1 o1 _).mono ?_
      rintro e zo ⟨rfl, hb⟩
      have MG1 : Hid (V0.heap.size ≤ zo.heap.size) := Lib.hid hb.size
      have B27 := Lib.hid (B26.out.trans (hb.mono B26.out.size))
      have A027 := Lib.hid (A026.out.next hb)
      have A127 := Lib.hid (A126.out.next hb)
      have S27 := Lib.hid (S26.out.next hb)
      have KS27 := Lib.hid (KS26.out.next hb)
      have X027 := Lib.hid (X026.out.next hb)
      have KX027 := Lib.hid (KX026.out.next hb)
      clear B26 A026 A126 S26 KS26 X026 KX026
      clear hb
      go_wp2_with fail
      clear hHeld
      refine hK.out _ _ ?_ (fun hHeld => ?_)
      · exact ⟨KX027.out.now.treDk, A127.out.now.fourDk⟩
      clear hK KK
      refine wpAnyH_ready (rs := [3, 7]) (by kernel_rfl) (by simp) ?_
      try simp only [Act.put, List.setIfInBounds_toArray, List.set_cons_zero, List.set_cons_succ, List.getElem_toArray, List.getElem_cons_zero, List.getElem_cons_succ]
      refine (AllReadyH.cons rfl (fun KK hK => ?_) (AllReadyH.cons rfl (fun KK hK => ?_) AllReadyH.nil))
      · go_simp
        refine (HC2.out x00_x y00_x x01_x y01_x x02_x y02_x _ (X027.out.now.readDk HM0.out HL0.out)).mono ?_
        rintro e zf ⟨rag, rcg, rbg, rdg, reg, rfg, rfl, hh, hb⟩
        have MG2 : Hid (zo.heap.size ≤ zf.heap.size) := Lib.hid hb.size
        have B28 := Lib.hid (B27.out.trans (hb.mono B27.out.size))
        have A028 := Lib.hid (A027.out.next hb)
        have A128 := Lib.hid (A127.out.next hb)
        have S28 := Lib.hid (S27.out.next hb)
        have KS28 := Lib.hid (KS27.out.next hb)
        have X028 := Lib.hid (X027.out.next hb)
        have KX028 := Lib.hid (KX027.out.next hb)
        clear B27 A027 A127 S27 KS27 X027 KX027
        have G28 := Lib.hid (hh)
        clear hb hh
        go_wp2_with fail
        clear hHeld
        refine hK.out _ _ ?_ (fun hHeld => ?_)
        · exact ⟨KX028.out.now.treDk, A128.out.now.fourDk⟩
        clear hK KK
        refine wpAnyH_take (i := 4) (v := ?_) rfl (by kernel_rfl) (by kernel_rfl) (by kernel_rfl) (fun _ _ _ h => h) (Or.inl ⟨by kernel_rfl, ?_⟩) (by assumption) ?_
        rotate_left
        · intro w hSw; (try dsimp only at hSw); go_simp; try with_reducible rfl
        refine wpAnyH_take (i := 5) (v := ?_) rfl (by kernel_rfl) (by kernel_rfl) (by kernel_rfl) (fun _ _ _ h => h) (Or.inl ⟨by kernel_rfl, ?_⟩) (by assumption) ?_
        rotate_left
        · intro w hSw; (try dsimp only at hSw); go_simp; try with_reducible rfl
        refine wpAnyH_take (i := 6) (v := ?_) rfl (by kernel_rfl) (by kernel_rfl) (by kernel_rfl) (fun _ _ _ h => h) (Or.inl ⟨by kernel_rfl, ?_⟩) (by assumption) ?_
        rotate_left
        · intro w hSw; (try dsimp only at hSw); go_simp; try with_reducible rfl
        refine wpAnyH_ready (rs := [7]) (by kernel_rfl) (by simp) ?_
        try simp only [Act.put, List.setIfInBounds_toArray, List.set_cons_zero, List.set_cons_succ, List.getElem_toArray, List.getElem_cons_zero, List.getElem_cons_succ]
        refine (AllReadyH.cons rfl (fun KK hK => ?_) AllReadyH.nil)
        go_simp
        have B29 := Lib.hid (B28.out.alloc B28.out.size (.cells #[.slice none 0 0, .slice none 0 0, .slice none 0 0] 27))
        have A029 := Lib.hid (A028.out.alloc (.cells #[.slice none 0 0, .slice none 0 0, .slice none 0 0] 27))
        have A129 := Lib.hid (A128.out.alloc (.cells #[.slice none 0 0, .slice none 0 0, .slice none 0 0] 27))
        have S29 := Lib.hid (S28.out.alloc (.cells #[.slice none 0 0, .slice none 0 0, .slice none 0 0] 27))
        have KS29 := Lib.hid (KS28.out.alloc (.cells #[.slice none 0 0, .slice none 0 0, .slice none 0 0] 27))
        have X029 := Lib.hid (X028.out.alloc (.cells #[.slice none 0 0, .slice none 0 0, .slice none 0 0] 27))
        have KX029 := Lib.hid (KX028.out.alloc (.cells #[.slice none 0 0, .slice none 0 0, .slice none 0 0] 27))
        have G29 := Lib.hid (G28.out.alloc (.cells #[.slice none 0 0, .slice none 0 0, .slice none 0 0] 27))
        clear B28 A028 A128 S28 KS28 X028 KX028 G28
        have tz := cells_new zf #[.slice none 0 0, .slice none 0 0, .slice none 0 0] 27
        have Z29 := Lib.hid (tz)
        clear tz
        have MG3 : Hid (zf.heap.size + 1 ≤ (zf.alloc (.cells #[.slice none 0 0, .slice none 0 0, .slice none 0 0] 27)).heap.size) := Lib.hid (by simp)
        clear hHeld
        refine hK.out _ _ ?_ (fun hHeld => ?_)
        · exact ⟨KX029.out.now.treDk, A129.out.now.fourDk⟩
        clear hK KK
        generalize hva : (zf.alloc (.cells #[.slice none 0 0, .slice none 0 0, .slice none 0 0] 27)) = va4 at B29 MG3 A029 A129 S29 KS29 X029 KX029 G29 Z29 hHeld ⊢
        clear hva
        refine wpAnyH_ready (rs := [8]) (by kernel_rfl) (by simp) ?_
        try simp only [Act.put, List.setIfInBounds_toArray, List.set_cons_zero, List.set_cons_succ, List.getElem_toArray, List.getElem_cons_zero, List.getElem_cons_succ]
        refine AllReadyH.cons rfl (fun KK hK => ?_) AllReadyH.nil
        obtain ⟨y0, y1, y2⟩ := Z29.out.now.treDk
        have f0 := Z29.out.now.free 0
        have f1 := Z29.out.now.free 1
        have f2 := Z29.out.now.free 2
        go_simp
        have TS := turn_s3 va4 (zf.heap.size) (.slice rag N1 rcg) (.slice rbg N2 rdg) (.slice reg N3 rfg)
        have A0S := Lib.hid (A029.out.step TS (.inl (by have := LEA0_G0.out; have := MV0.out; have := MG1.out; have := MG2.out; have := MG3.out; omega)))
        have A1S := Lib.hid (A129.out.step TS (.inl (by have := LEA1_G0.out; have := MV0.out; have := MG1.out; have := MG2.out; have := MG3.out; omega)))
        have SS := Lib.hid (S29.out.step TS (.inl (by have := LES_G0.out; have := MV0.out; have := MG1.out; have := MG2.out; have := MG3.out; omega)))
        have KSS := Lib.hid (KS29.out.step TS (.inl (by have := LEKS_G0.out; have := MV0.out; have := MG1.out; have := MG2.out; have := MG3.out; omega)))
        have X0S := Lib.hid (X029.out.step TS (.inl (by have := LEX0_G0.out; have := MV0.out; have := MG1.out; have := MG2.out; have := MG3.out; omega)))
        have KX0S := Lib.hid (KX029.out.step TS (.inl (by have := LEKX0_G0.out; have := MV0.out; have := MG1.out; have := MG2.out; have := MG3.out; omega)))
        have GrS := Lib.hid (G29.out.step TS (by have := MV0.out; have := MG1.out; have := MG2.out; have := MG3.out; omega))
        have ZS := Lib.hid (cells_set3 Z29.out (.slice rag N1 rcg) (.slice rbg N2 rdg) (.slice reg N3 rfg))
        have BS_ := Lib.hid (B29.out.trans (TS.below B29.out.size (by have := LEw_G0.out; have := MV0.out; have := MG1.out; have := MG2.out; have := MG3.out; omega)))
        have HP : Hid (w4.heap.size ≤ zo.heap.size ∧ w4.heap.size ≤ zf.heap.size ∧ (zf.heap.size + 1 ≤ zo.heap.size ∨ zf.heap.size ≤ zf.heap.size)) := Lib.hid (by have := MV0.out; have := MG1.out; have := MG2.out; have := MG3.out; omega)
        clear TS hHeld
        refine hK.out _ _ ?_ (fun hHeld => ?_)
        · exact ⟨KX0S.out.now.treDk, A1S.out.now.fourDk⟩
        clear hK KK
        refine wpAnyH_take (i := 9) (v := ?_) rfl (by kernel_rfl) (by kernel_rfl) (by kernel_rfl) (fun _ _ _ h => h) (Or.inl ⟨by kernel_rfl, ?_⟩) (by assumption) ?_
        rotate_left
        · intro w hSw; (try dsimp only at hSw); go_simp; try with_reducible rfl
        clear hHeld
        refine wpAnyH_done (by kernel_rfl) ?_ _
        try simp only [Act.put, List.setIfInBounds_toArray, List.set_cons_zero, List.set_cons_succ, List.getElem_toArray, List.getElem_cons_zero, List.getElem_cons_succ]
        go_wp2_with fail
        go_meet
        exact ⟨_, rag, rcg, rbg, rdg, reg, rfg, rfl, rfl, BS_, A0S, A1S, SS, KSS, X0S, KX0S, ZS, _, _, HP, GrS⟩
      · go_simp
        have B28 := Lib.hid (B27.out.alloc B27.out.size (.cells #[.slice none 0 0, .slice none 0 0, .slice none 0 0] 27))
        have A028 := Lib.hid (A027.out.alloc (.cells #[.slice none 0 0, .slice none 0 0, .slice none 0 0] 27))
        have A128 := Lib.hid (A127.out.alloc (.cells #[.slice none 0 0, .slice none 0 0, .slice none 0 0] 27))
        have S28 := Lib.hid (S27.out.alloc (.cells #[.slice none 0 0, .slice none 0 0, .slice none 0 0] 27))
        have KS28 := Lib.hid (KS27.out.alloc (.cells #[.slice none 0 0, .slice none 0 0, .slice none 0 0] 27))
        have X028 := Lib.hid (X027.out.alloc (.cells #[.slice none 0 0, .slice none 0 0, .slice none 0 0] 27))
        have KX028 := Lib.hid (KX027.out.alloc (.cells #[.slice none 0 0, .slice none 0 0, .slice none 0 0] 27))
        clear B27 A027 A127 S27 KS27 X027 KX027
        have tz := cells_new zo #[.slice none 0 0, .slice none 0 0, .slice none 0 0] 27
        have Z28 := Lib.hid (tz)
        clear tz
        have MG5 : Hid (zo.heap.size + 1 ≤ (zo.alloc (.cells #[.slice none 0 0, .slice none 0 0, .slice none 0 0] 27)).heap.size) := Lib.hid (by simp)
        clear hHeld
        refine hK.out _ _ ?_ (fun hHeld => ?_)
        · exact ⟨KX028.out.now.treDk, A128.out.now.fourDk⟩
        clear hK KK
        generalize hva : (zo.alloc (.cells #[.slice none 0 0, .slice none 0 0, .slice none 0 0] 27)) = va6 at B28 MG5 A028 A128 S28 KS28 X028 KX028 Z28 hHeld ⊢
        clear hva
        refine wpAnyH_ready (rs := [3]) (by kernel_rfl) (by simp) ?_
        try simp only [Act.put, List.setIfInBounds_toArray, List.set_cons_zero, List.set_cons_succ, List.getElem_toArray, List.getElem_cons_zero, List.getElem_cons_succ]
        refine (AllReadyH.cons rfl (fun KK hK => ?_) AllReadyH.nil)
        go_simp
        refine (HC2.out x00_x y00_x x01_x y01_x x02_x y02_x _ (X028.out.now.readDk HM0.out HL0.out)).mono ?_
        rintro e zf ⟨rag, rcg, rbg, rdg, reg, rfg, rfl, hh, hb⟩
        have MG7 : Hid (va6.heap.size ≤ zf.heap.size) := Lib.hid hb.size
        have B29 := Lib.hid (B28.out.trans (hb.mono B28.out.size))
        have A029 := Lib.hid (A028.out.next hb)
        have A129 := Lib.hid (A128.out.next hb)
        have S29 := Lib.hid (S28.out.next hb)
        have KS29 := Lib.hid (KS28.out.next hb)
        have X029 := Lib.hid (X028.out.next hb)
        have KX029 := Lib.hid (KX028.out.next hb)
        have Z29 := Lib.hid (Z28.out.next hb)
        clear B28 A028 A128 S28 KS28 X028 KX028 Z28
        have G29 := Lib.hid (hh)
        clear hb hh
        go_wp2_with fail
        clear hHeld
        refine hK.out _ _ ?_ (fun hHeld => ?_)
        · exact ⟨KX029.out.now.treDk, A129.out.now.fourDk⟩
        clear hK KK
        refine wpAnyH_take (i := 4) (v := ?_) rfl (by kernel_rfl) (by kernel_rfl) (by kernel_rfl) (fun _ _ _ h => h) (Or.inl ⟨by kernel_rfl, ?_⟩) (by assumption) ?_
        rotate_left
        · intro w hSw; (try dsimp only at hSw); go_simp; try with_reducible rfl
        refine wpAnyH_take (i := 5) (v := ?_) rfl (by kernel_rfl) (by kernel_rfl) (by kernel_rfl) (fun _ _ _ h => h) (Or.inl ⟨by kernel_rfl, ?_⟩) (by assumption) ?_
        rotate_left
        · intro w hSw; (try dsimp only at hSw); go_simp; try with_reducible rfl
        refine wpAnyH_take (i := 6) (v := ?_) rfl (by kernel_rfl) (by kernel_rfl) (by kernel_rfl) (fun _ _ _ h => h) (Or.inl ⟨by kernel_rfl, ?_⟩) (by assumption) ?_
        rotate_left
        · intro w hSw; (try dsimp only at hSw); go_simp; try with_reducible rfl
        refine wpAnyH_ready (rs := [8]) (by kernel_rfl) (by simp) ?_
        try simp only [Act.put, List.setIfInBounds_toArray, List.set_cons_zero, List.set_cons_succ, List.getElem_toArray, List.getElem_cons_zero, List.getElem_cons_succ]
        refine AllReadyH.cons rfl (fun KK hK => ?_) AllReadyH.nil
        obtain ⟨y0, y1, y2⟩ := Z29.out.now.treDk
        have f0 := Z29.out.now.free 0
        have f1 := Z29.out.now.free 1
        have f2 := Z29.out.now.free 2
        go_simp
        have TS := turn_s3 zf (zo.heap.size) (.slice rag N1 rcg) (.slice rbg N2 rdg) (.slice reg N3 rfg)
        have A0S := Lib.hid (A029.out.step TS (.inl (by have := LEA0_G0.out; have := MV0.out; have := MG1.out; have := MG5.out; have := MG7.out; omega)))
        have A1S := Lib.hid (A129.out.step TS (.inl (by have := LEA1_G0.out; have := MV0.out; have := MG1.out; have := MG5.out; have := MG7.out; omega)))
        have SS := Lib.hid (S29.out.step TS (.inl (by have := LES_G0.out; have := MV0.out; have := MG1.out; have := MG5.out; have := MG7.out; omega)))
        have KSS := Lib.hid (KS29.out.step TS (.inl (by have := LEKS_G0.out; have := MV0.out; have := MG1.out; have := MG5.out; have := MG7.out; omega)))
        have X0S := Lib.hid (X029.out.step TS (.inl (by have := LEX0_G0.out; have := MV0.out; have := MG1.out; have := MG5.out; have := MG7.out; omega)))
        have KX0S := Lib.hid (KX029.out.step TS (.inl (by have := LEKX0_G0.out; have := MV0.out; have := MG1.out; have := MG5.out; have := MG7.out; omega)))
        have GrS := Lib.hid (G29.out.step TS (by have := MV0.out; have := MG1.out; have := MG5.out; have := MG7.out; omega))
        have ZS := Lib.hid (cells_set3 Z29.out (.slice rag N1 rcg) (.slice rbg N2 rdg) (.slice reg N3 rfg))
        have BS_ := Lib.hid (B29.out.trans (TS.below B29.out.size (by have := LEw_G0.out; have := MV0.out; have := MG1.out; have := MG5.out; have := MG7.out; omega)))
        have HP : Hid (w4.heap.size ≤ va6.heap.size ∧ w4.heap.size ≤ zo.heap.size ∧ (zo.heap.size + 1 ≤ va6.heap.size ∨ zf.heap.size ≤ zo.heap.size)) := Lib.hid (by have := MV0.out; have := MG1.out; have := MG5.out; have := MG7.out; omega)
        clear TS hHeld
        refine hK.out _ _ ?_ (fun hHeld => ?_)
        · exact ⟨KX0S.out.now.treDk, A1S.out.now.fourDk⟩
        clear hK KK
        refine wpAnyH_take (i := 9) (v := ?_) rfl (by kernel_rfl) (by kernel_rfl) (by kernel_rfl) (fun _ _ _ h => h) (Or.inl ⟨by kernel_rfl, ?_⟩) (by assumption) ?_
        rotate_left
        · intro w hSw; (try dsimp only at hSw); go_simp; try with_reducible rfl
        clear hHeld
        refine wpAnyH_done (by kernel_rfl) ?_ _
        try simp only [Act.put, List.setIfInBounds_toArray, List.set_cons_zero, List.set_cons_succ, List.getElem_toArray, List.getElem_cons_zero, List.getElem_cons_succ]
        go_wp2_with fail
        go_meet
        exact ⟨_, rag, rcg, rbg, rdg, reg, rfg, rfl, rfl, BS_, A0S, A1S, SS, KSS, X0S, KX0S, ZS, _, _, HP, GrS⟩
    · go_simp
      have B27 := Lib.hid (B26.out.alloc B26.out.size (.cells #[.slice none 0 0, .slice none 0 0, .slice none 0 0] 27))
      have A027 := Lib.hid (A026.out.alloc (.cells #[.slice none 0 0, .slice none 0 0, .slice none 0 0] 27))
      have A127 := Lib.hid (A126.out.alloc (.cells #[.slice none 0 0, .slice none 0 0, .slice none 0 0] 27))
      have S27 := Lib.hid (S26.out.alloc (.cells #[.slice none 0 0, .slice none 0 0, .slice none 0 0] 27))
      have KS27 := Lib.hid (KS26.out.alloc (.cells #[.slice none 0 0, .slice none 0 0, .slice none 0 0] 27))
      have X027 := Lib.hid (X026.out.alloc (.cells #[.slice none 0 0, .slice none 0 0, .slice none 0 0] 27))
      have KX027 := Lib.hid (KX026.out.alloc (.cells #[.slice none 0 0, .slice none 0 0, .slice none 0 0] 27))
      clear B26 A026 A126 S26 KS26 X026 KX026
      have tz := cells_new V0 #[.slice none 0 0, .slice none 0 0, .slice none 0 0] 27
      have Z27 := Lib.hid (tz)
      clear tz
      have MG8 : Hid (V0.heap.size + 1 ≤ (V0.alloc (.cells #[.slice none 0 0, .slice none 0 0, .slice none 0 0] 27)).heap.size) := Lib.hid (by simp)
      clear hHeld
      refine hK.out _ _ ?_ (fun hHeld => ?_)
      · exact ⟨KX027.out.now.treDk, A127.out.now.fourDk⟩
      clear hK KK
      generalize hva : (V0.alloc (.cells #[.slice none 0 0, .slice none 0 0, .slice none 0 0] 27)) = va9 at B27 MG8 A027 A127 S27 KS27 X027 KX027 Z27 hHeld ⊢
      clear hva
      refine wpAnyH_ready (rs := [2]) (by kernel_rfl) (by simp) ?_
      try simp only [Act.put, List.setIfInBounds_toArray, List.set_cons_zero, List.set_cons_succ, List.getElem_toArray, List.getElem_cons_zero, List.getElem_cons_succ]
      refine (AllReadyH.cons rfl (fun KK hK => ?_) AllReadyH.nil)
      go_simp
      refine (toDop r1 s1 p1 o1 _).mono ?_
      rintro e zo ⟨rfl, hb⟩
      have MG10 : Hid (va9.heap.size ≤ zo.heap.size) := Lib.hid hb.size
      have B28 := Lib.hid (B27.out.trans (hb.mono B27.out.size))
      have A028 := Lib.hid (A027.out.next hb)
      have A128 := Lib.hid (A127.out.next hb)
      have S28 := Lib.hid (S27.out.next hb)
      have KS28 := Lib.hid (KS27.out.next hb)
      have X028 := Lib.hid (X027.out.next hb)
      have KX028 := Lib.hid (KX027.out.next hb)
      have Z28 := Lib.hid (Z27.out.next hb)
      clear B27 A027 A127 S27 KS27 X027 KX027 Z27
      clear hb
      go_wp2_with fail
      clear hHeld
      refine hK.out _ _ ?_ (fun hHeld => ?_)
      · exact ⟨KX028.out.now.treDk, A128.out.now.fourDk⟩
      clear hK KK
      refine wpAnyH_ready (rs := [3]) (by kernel_rfl) (by simp) ?_
      try simp only [Act.put, List.setIfInBounds_toArray, List.set_cons_zero, List.set_cons_succ, List.getElem_toArray, List.getElem_cons_zero, List.getElem_cons_succ]
      refine (AllReadyH.cons rfl (fun KK hK => ?_) AllReadyH.nil)
      go_simp
      refine (HC2.out x00_x y00_x x01_x y01_x x02_x y02_x _ (X028.out.now.readDk HM0.out HL0.out)).mono ?_
      rintro e zf ⟨rag, rcg, rbg, rdg, reg, rfg, rfl, hh, hb⟩
      have MG11 : Hid (zo.heap.size ≤ zf.heap.size) := Lib.hid hb.size
      have B29 := Lib.hid (B28.out.trans (hb.mono B28.out.size))
      have A029 := Lib.hid (A028.out.next hb)
      have A129 := Lib.hid (A128.out.next hb)
      have S29 := Lib.hid (S28.out.next hb)
      have KS29 := Lib.hid (KS28.out.next hb)
      have X029 := Lib.hid (X028.out.next hb)
      have KX029 := Lib.hid (KX028.out.next hb)
      have Z29 := Lib.hid (Z28.out.next hb)
      clear B28 A028 A128 S28 KS28 X028 KX028 Z28
      have G29 := Lib.hid (hh)
      clear hb hh
      go_wp2_with fail
      clear hHeld
      refine hK.out _ _ ?_ (fun hHeld => ?_)
      · exact ⟨KX029.out.now.treDk, A129.out.now.fourDk⟩
      clear hK KK
      refine wpAnyH_take (i := 4) (v := ?_) rfl (by kernel_rfl) (by kernel_rfl) (by kernel_rfl) (fun _ _ _ h => h) (Or.inl ⟨by kernel_rfl, ?_⟩) (by assumption) ?_
      rotate_left
      · intro w hSw; (try dsimp only at hSw); go_simp; try with_reducible rfl
      refine wpAnyH_take (i := 5) (v := ?_) rfl (by kernel_rfl) (by kernel_rfl) (by kernel_rfl) (fun _ _ _ h => h) (Or.inl ⟨by kernel_rfl, ?_⟩) (by assumption) ?_
      rotate_left
      · intro w hSw; (try dsimp only at hSw); go_simp; try with_reducible rfl
      refine wpAnyH_take (i := 6) (v := ?_) rfl (by kernel_rfl) (by kernel_rfl) (by kernel_rfl) (fun _ _ _ h => h) (Or.inl ⟨by kernel_rfl, ?_⟩) (by assumption) ?_
      rotate_left
      · intro w hSw; (try dsimp only at hSw); go_simp; try with_reducible rfl
      refine wpAnyH_ready (rs := [8]) (by kernel_rfl) (by simp) ?_
      try simp only [Act.put, List.setIfInBounds_toArray, List.set_cons_zero, List.set_cons_succ, List.getElem_toArray, List.getElem_cons_zero, List.getElem_cons_succ]
      refine AllReadyH.cons rfl (fun KK hK => ?_) AllReadyH.nil
      obtain ⟨y0, y1, y2⟩ := Z29.out.now.treDk
      have f0 := Z29.out.now.free 0
      have f1 := Z29.out.now.free 1
      have f2 := Z29.out.now.free 2
      go_simp
      have TS := turn_s3 zf (V0.heap.size) (.slice rag N1 rcg) (.slice rbg N2 rdg) (.slice reg N3 rfg)
      have A0S := Lib.hid (A029.out.step TS (.inl (by have := LEA0_G0.out; have := MV0.out; have := MG8.out; have := MG10.out; have := MG11.out; omega)))
      have A1S := Lib.hid (A129.out.step TS (.inl (by have := LEA1_G0.out; have := MV0.out; have := MG8.out; have := MG10.out; have := MG11.out; omega)))
      have SS := Lib.hid (S29.out.step TS (.inl (by have := LES_G0.out; have := MV0.out; have := MG8.out; have := MG10.out; have := MG11.out; omega)))
      have KSS := Lib.hid (KS29.out.step TS (.inl (by have := LEKS_G0.out; have := MV0.out; have := MG8.out; have := MG10.out; have := MG11.out; omega)))
      have X0S := Lib.hid (X029.out.step TS (.inl (by have := LEX0_G0.out; have := MV0.out; have := MG8.out; have := MG10.out; have := MG11.out; omega)))
      have KX0S := Lib.hid (KX029.out.step TS (.inl (by have := LEKX0_G0.out; have := MV0.out; have := MG8.out; have := MG10.out; have := MG11.out; omega)))
      have GrS := Lib.hid (G29.out.step TS (by have := MV0.out; have := MG8.out; have := MG10.out; have := MG11.out; omega))
      have ZS := Lib.hid (cells_set3 Z29.out (.slice rag N1 rcg) (.slice rbg N2 rdg) (.slice reg N3 rfg))
      have BS_ := Lib.hid (B29.out.trans (TS.below B29.out.size (by have := LEw_G0.out; have := MV0.out; have := MG8.out; have := MG10.out; have := MG11.out; omega)))
      have HP : Hid (w4.heap.size ≤ zo.heap.size ∧ w4.heap.size ≤ V0.heap.size ∧ (V0.heap.size + 1 ≤ zo.heap.size ∨ zf.heap.size ≤ V0.heap.size)) := Lib.hid (by have := MV0.out; have := MG8.out; have := MG10.out; have := MG11.out; omega)
      clear TS hHeld
      refine hK.out _ _ ?_ (fun hHeld => ?_)
      · exact ⟨KX0S.out.now.treDk, A1S.out.now.fourDk⟩
      clear hK KK
      refine wpAnyH_take (i := 9) (v := ?_) rfl (by kernel_rfl) (by kernel_rfl) (by kernel_rfl) (fun _ _ _ h => h) (Or.inl ⟨by kernel_rfl, ?_⟩) (by assumption) ?_
      rotate_left
      · intro w hSw; (try dsimp only at hSw); go_simp; try with_reducible rfl
      clear hHeld
      refine wpAnyH_done (by kernel_rfl) ?_ _
      try simp only [Act.put, List.setIfInBounds_toArray, List.set_cons_zero, List.set_cons_succ, List.getElem_toArray, List.getElem_cons_zero, List.getElem_cons_succ]
      go_wp2_with fail
      go_meet
      exact ⟨_, rag, rcg, rbg, rdg, reg, rfg, rfl, rfl, BS_, A0S, A1S, SS, KSS, X0S, KX0S, ZS, _, _, HP, GrS⟩
  clear B25 A025 A125 S25 KS25 X025 KX025
  generalize wc = wcG at hcut ⊢
  obtain ⟨gG, rag, rcg, rbg, rdg, reg, rfg, rfl, rfl, B46, A046, A146, S46, KS46, X046, KX046, KG46, BG, CG, HPG, G46⟩ := hcut
  have LEA0_G := Lib.hid (Nat.le_trans LEA0_G0.out HPG.out.1)
  have LEA0_KG := Lib.hid (Nat.le_trans LEA0_G0.out HPG.out.2.1)
  have LEA1_G := Lib.hid (Nat.le_trans LEA1_G0.out HPG.out.1)
  have LEA1_KG := Lib.hid (Nat.le_trans LEA1_G0.out HPG.out.2.1)
  have LES_G := Lib.hid (Nat.le_trans LES_G0.out HPG.out.1)
  have LES_KG := Lib.hid (Nat.le_trans LES_G0.out HPG.out.2.1)
  have LEKS_G := Lib.hid (Nat.le_trans LEKS_G0.out HPG.out.1)
  have LEKS_KG := Lib.hid (Nat.le_trans LEKS_G0.out HPG.out.2.1)
  have LEX0_G := Lib.hid (Nat.le_trans LEX0_G0.out HPG.out.1)
  have LEX0_KG := Lib.hid (Nat.le_trans LEX0_G0.out HPG.out.2.1)
  have LEKX0_G := Lib.hid (Nat.le_trans LEKX0_G0.out HPG.out.1)
  have LEKX0_KG := Lib.hid (Nat.le_trans LEKX0_G0.out HPG.out.2.1)
  have LEw_G := Lib.hid (Nat.le_trans LEw_G0.out HPG.out.1)
  have DJG := Lib.hid HPG.out.2.2
  obtain ⟨v0, u0, z0⟩ := KG46.out.now.treDk
  obtain ⟨v1, u1, z1⟩ := KS46.out.now.treDk
  go_wp2_with fail
  refine (eqDk rag rbg reg ras rbs res N1 N2 N3 rcg rdg rfg rcs rds rfs R1 R2 R3 _ (G46.out.now.readDk HRM.out HN.out) (S46.out.now.readDk HRM.out HN.out) rl).mono ?_
  rintro e w5 ⟨rfl, hb⟩
  clear v0 u0 z0 v1 u1 z1
  have B47 := Lib.hid (B46.out.trans (hb.mono B46.out.size))
  have A047 := Lib.hid (A046.out.next hb)
  have A147 := Lib.hid (A146.out.next hb)
  have S47 := Lib.hid (S46.out.next hb)
  have KS47 := Lib.hid (KS46.out.next hb)
  have X047 := Lib.hid (X046.out.next hb)
  have KX047 := Lib.hid (KX046.out.next hb)
  have G47 := Lib.hid (G46.out.next hb)
  have KG47 := Lib.hid (KG46.out.next hb)
  clear B46 A046 A146 S46 KS46 X046 KX046 G46 KG46
  clear hb
  go_wp2_with fail
  have B48 := Lib.hid B47.out.drew
  have A048 := Lib.hid A047.out.drew
  have A148 := Lib.hid A147.out.drew
  have S48 := Lib.hid S47.out.drew
  have KS48 := Lib.hid KS47.out.drew
  have X048 := Lib.hid X047.out.drew
  have KX048 := Lib.hid KX047.out.drew
  have G48 := Lib.hid G47.out.drew
  have KG48 := Lib.hid KG47.out.drew
  clear B47 A047 A147 S47 KS47 X047 KX047 G47 KG47
  go_region_held3 (fun w' => (w'.cell? ⟨w3.heap.size, 0, none⟩ = some (.slice x00_x n00 y00_x) ∧ w'.cell? ⟨w3.heap.size, 1, none⟩ = some (.slice x01_x n01 y01_x) ∧ w'.cell? ⟨w3.heap.size, 2, none⟩ = some (.slice x02_x n02 y02_x)) ∧ (w'.cell? ⟨w.heap.size, 0, none⟩ = some (.slice a00 n00 c00) ∧ w'.cell? ⟨w.heap.size, 1, none⟩ = some (.slice a01 n01 c01) ∧ w'.cell? ⟨w.heap.size, 2, none⟩ = some (.slice a02 n02 c02)))
    (first | with_reducible exact ⟨KX050.out.now.treDk, A050.out.now.treDk⟩ | with_reducible exact ⟨KX049.out.now.treDk, A049.out.now.treDk⟩ | with_reducible exact ⟨KX048.out.now.treDk, A048.out.now.treDk⟩)
    (first | (go_at_call 27; refine (eqDk x00_x x01_x x02_x x00_e x01_e x02_e n00 n01 n02 y00_x y01_x y02_x y00_e y01_e y02_e t00 t01 t02 _ (X049.out.now.readDk HM0.out HL0.out) (E049.out.now.readDk HM0.out HL0.out) l0).mono ?_; rintro e w7 ⟨rfl, hb⟩; clear E049; have B50 := Lib.hid (B49.out.trans (hb.mono B49.out.size)); have A050 := Lib.hid (A049.out.next hb); have A150 := Lib.hid (A149.out.next hb); have S50 := Lib.hid (S49.out.next hb); have KS50 := Lib.hid (KS49.out.next hb); have X050 := Lib.hid (X049.out.next hb); have KX050 := Lib.hid (KX049.out.next hb); have G50 := Lib.hid (G49.out.next hb); have KG50 := Lib.hid (KG49.out.next hb); clear B49 A049 A149 S49 KS49 X049 KX049 G49 KG49; clear hb) | (go_at_call 26; refine (exToDk a00 a01 a02 n00 n01 n02 c00 c01 c02 t00 t01 t02 _ (H0.out.next B48.out) l0 HL0.out).mono ?_; rintro e w6 ⟨x00_e, y00_e, x01_e, y01_e, x02_e, y02_e, rfl, hh, hb⟩; have B49 := Lib.hid (B48.out.trans (hb.mono B48.out.size)); have A049 := Lib.hid (A048.out.next hb); have A149 := Lib.hid (A148.out.next hb); have S49 := Lib.hid (S48.out.next hb); have KS49 := Lib.hid (KS48.out.next hb); have X049 := Lib.hid (X048.out.next hb); have KX049 := Lib.hid (KX048.out.next hb); have G49 := Lib.hid (G48.out.next hb); have KG49 := Lib.hid (KG48.out.next hb); clear B48 A048 A148 S48 KS48 X048 KX048 G48 KG48; have E049 := Lib.hid (hh); clear hb hh))
  obtain ⟨v0, u0, z0⟩ := KX050.out.now.treDk
  go_wp2_with fail
  obtain ⟨q0, hq0⟩ : ∃ q : Nat, 1 + (2 * n00 + 2 * n01 + 4 * n02) = q := ⟨_, rfl⟩
  have MK := exMarkDk X050.out l0 HL0.out 1 (by omega) (by omega)
  rw [hq0] at MK
  have b0 : 0 < q0 ∧ q0 ≤ 9000000 := by have := l0; omega
  clear hq0
  refine (MK).mono ?_
  rintro e w8 ⟨rfl, hh, ht⟩
  have B51 := Lib.hid (B50.out.trans (ht.below B50.out.size LEw_X0.out))
  have A051 := Lib.hid (A050.out.step ht (.inl LEA0_X0.out))
  have A151 := Lib.hid (A150.out.step ht (.inl LEA1_X0.out))
  have S51 := Lib.hid (S50.out.step ht (.inl LES_X0.out))
  have KS51 := Lib.hid (KS50.out.step ht (.inl LEKS_X0.out))
  have X051 := Lib.hid hh
  have KX051 := Lib.hid (KX050.out.step ht (.inr LEX0_KX0.out))
  have G51 := Lib.hid (G50.out.step ht (.inr LEX0_G.out))
  have KG51 := Lib.hid (KG50.out.step ht (.inr LEX0_KG.out))
  clear hh ht
  clear v0 u0 z0 MK
  clear X051
  have nk : ¬ (q0 : Int) < 0 := by omega
  obtain ⟨v0, u0, z0⟩ := KG51.out.now.treDk
  obtain ⟨v1, u1, z1⟩ := KS51.out.now.treDk
  go_wp2_with fail
  refine (eqDk rag rbg reg ras rbs res N1 N2 N3 rcg rdg rfg rcs rds rfs R1 R2 R3 _ (G51.out.now.readDk HRM.out HN.out) (S51.out.now.readDk HRM.out HN.out) rl).mono ?_
  rintro e w9 ⟨rfl, hb⟩
  clear v0 u0 z0 v1 u1 z1
  have B52 := Lib.hid (B51.out.trans (hb.mono B51.out.size))
  have A052 := Lib.hid (A051.out.next hb)
  have A152 := Lib.hid (A151.out.next hb)
  have S52 := Lib.hid (S51.out.next hb)
  have KS52 := Lib.hid (KS51.out.next hb)
  have KX052 := Lib.hid (KX051.out.next hb)
  have G52 := Lib.hid (G51.out.next hb)
  have KG52 := Lib.hid (KG51.out.next hb)
  clear B51 A051 A151 S51 KS51 KX051 G51 KG51
  clear hb
  obtain ⟨v0, u0, z0⟩ := KG52.out.now.treDk
  go_wp2_with fail
  obtain ⟨qq, hqq⟩ : ∃ q : Nat, 1 + (2 * N1 + 2 * N2 + 4 * N3) = q := ⟨_, rfl⟩
  have MK := exMarkDk G52.out rl HN.out 1 (by omega) (by omega)
  rw [hqq] at MK
  have HQQ := Lib.hid hqq
  have nq : ¬ (qq : Int) < 0 := by omega
  clear hqq
  refine (MK).mono ?_
  rintro e w10 ⟨rfl, hh, ht⟩
  have B53 := Lib.hid (B52.out.trans (ht.below B52.out.size LEw_G.out))
  have A053 := Lib.hid (A052.out.step ht (.inl LEA0_G.out))
  have A153 := Lib.hid (A152.out.step ht (.inl LEA1_G.out))
  have S53 := Lib.hid (S52.out.step ht (.inl LES_G.out))
  have KS53 := Lib.hid (KS52.out.step ht (.inl LEKS_G.out))
  have KX053 := Lib.hid (KX052.out.step ht (.inl LEKX0_G.out))
  have G53 := Lib.hid hh
  have KG53 := Lib.hid (KG52.out.step ht (DJG.out))
  clear hh ht
  clear v0 u0 z0 MK
  obtain ⟨v0, u0, z0⟩ := KG53.out.now.treDk
  go_wp2_with fail
  have HD := exHeldDk G53.out rl (by omega) (by omega)
  rw [HQQ.out] at HD
  refine HD.mono ?_
  rintro e w11 ⟨rfl, hb⟩
  clear v0 u0 z0 HD
  have B54 := Lib.hid (B53.out.trans (hb.mono B53.out.size))
  have A054 := Lib.hid (A053.out.next hb)
  have A154 := Lib.hid (A153.out.next hb)
  have S54 := Lib.hid (S53.out.next hb)
  have KS54 := Lib.hid (KS53.out.next hb)
  have KX054 := Lib.hid (KX053.out.next hb)
  have G54 := Lib.hid (G53.out.next hb)
  have KG54 := Lib.hid (KG53.out.next hb)
  clear B53 A053 A153 S53 KS53 KX053 G53 KG53
  clear hb
  clear KX054
  go_wp2_with fail
  have LEA0_H0 := Lib.hid A054.out.le
  have LEA1_H0 := Lib.hid A154.out.le
  have LES_H0 := Lib.hid S54.out.le
  have LEKS_H0 := Lib.hid KS54.out.le
  have LEG_H0 := Lib.hid G54.out.le
  have LEKG_H0 := Lib.hid KG54.out.le
  have LEw_H0 := Lib.hid B54.out.size
  go_cut [14, 15] from 16 (fun s14 s15 wx => ∃ g rah rch rbh rdh reh rfh, s14 = .pointer (some ⟨g, 0, none⟩) ∧ s15 = .int .i64 cc ∧ Hid (Below w.heap.size w wx) ∧ Hid (Holds (w.heap.size) (w.heap.size + 1) wx (Cells (w.heap.size) #[.slice a00 n00 c00, .slice a01 n01 c01, .slice a02 n02 c02] 50)) ∧ Hid (Holds (w.heap.size + 1) (w.heap.size + 1 + 1) wx (Cells (w.heap.size + 1) #[.int .i64 r1, .string s1, .string p1, .string o1] 55)) ∧ Hid (Holds (BS) (CS) wx (OwnDk (BS) (CS) (.slice ras N1 rcs) (.slice rbs N2 rds) (.slice res N3 rfs) R1 R2 R3)) ∧ Hid (Holds gS (gS + 1) wx (Cells gS #[.slice ras N1 rcs, .slice rbs N2 rds, .slice res N3 rfs] 27)) ∧ Hid (Holds (BG) (CG) wx (OwnDk (BG) (CG) (.slice rag N1 rcg) (.slice rbg N2 rdg) (.slice reg N3 rfg) (marksPKFi 1 N1) (marksPKFi (1 + 2 * N1) N2) (marksOp (1 + 2 * N1 + 2 * N2) N3))) ∧ Hid (Holds gG (gG + 1) wx (Cells gG #[.slice rag N1 rcg, .slice rbg N2 rdg, .slice reg N3 rfg] 27)) ∧ Hid (Holds g (g + 1) wx (Cells g #[.slice rah N1 rch, .slice rbh N2 rdh, .slice reh N3 rfh] 27)) ∧ ∃ B C, Hid (w11.heap.size ≤ B ∧ w11.heap.size ≤ g ∧ (g + 1 ≤ B ∨ C ≤ g)) ∧ Hid (Holds B C wx (OwnDk B C (.slice rah N1 rch) (.slice rbh N2 rdh) (.slice reh N3 rfh) R1 R2 R3)))
  case first =>
    have B55 := Lib.hid B54.out.drew
    have A055 := Lib.hid A054.out.drew
    have A155 := Lib.hid A154.out.drew
    have S55 := Lib.hid S54.out.drew
    have KS55 := Lib.hid KS54.out.drew
    have G55 := Lib.hid G54.out.drew
    have KG55 := Lib.hid KG54.out.drew
    clear B54 A054 A154 S54 KS54 G54 KG54
    refine wp_region_held_drew (S := (fun w' => (w'.cell? ⟨w.heap.size, 0, none⟩ = some (.slice a00 n00 c00) ∧ w'.cell? ⟨w.heap.size, 1, none⟩ = some (.slice a01 n01 c01) ∧ w'.cell? ⟨w.heap.size, 2, none⟩ = some (.slice a02 n02 c02)) ∧ (w'.cell? ⟨w.heap.size + 1, 0, none⟩ = some (.int .i64 r1) ∧ w'.cell? ⟨w.heap.size + 1, 1, none⟩ = some (.string s1) ∧ w'.cell? ⟨w.heap.size + 1, 2, none⟩ = some (.string p1) ∧ w'.cell? ⟨w.heap.size + 1, 3, none⟩ = some (.string o1)))) (by kernel_rfl) ?_ (fun hHeld => ?_)
    · exact ⟨A055.out.now.treDk, A155.out.now.fourDk⟩
    have MV0 : Hid (w11.heap.size ≤ w11.drew.heap.size) := Lib.hid (Nat.le_refl _)
    generalize hV0 : w11.drew = V0 at B55 A055 A155 S55 KS55 G55 KG55 MV0 hHeld ⊢
    clear hV0
    refine wpAnyH_take (i := 0) (v := ?_) rfl (by kernel_rfl) (by kernel_rfl) (by kernel_rfl) (fun _ _ _ h => h) (Or.inl ⟨by kernel_rfl, ?_⟩) (by assumption) ?_
    rotate_left
    · intro w hSw; (try dsimp only at hSw); go_simp; try with_reducible rfl
    refine wpAnyH_take (i := 2) (v := ?_) rfl (by kernel_rfl) (by kernel_rfl) (by kernel_rfl) (fun _ _ _ h => h) (Or.inl ⟨by kernel_rfl, ?_⟩) (by assumption) ?_
    rotate_left
    · intro w hSw; (try dsimp only at hSw); go_simp; try with_reducible rfl
    refine wpAnyH_ready (rs := [1, 8]) (by kernel_rfl) (by simp) ?_
    try simp only [Act.put, List.setIfInBounds_toArray, List.set_cons_zero, List.set_cons_succ, List.getElem_toArray, List.getElem_cons_zero, List.getElem_cons_succ]
    refine (AllReadyH.cons rfl (fun KK hK => ?_) (AllReadyH.cons rfl (fun KK hK => ?_) AllReadyH.nil))
    · go_simp
      refine (exToDk a00 a01 a02 n00 n01 n02 c00 c01 c02 t00 t01 t02 _ (H0.out.next B55.out) l0 HL0.out).mono ?_
      rintro e zt ⟨x00_H, y00_H, x01_H, y01_H, x02_H, y02_H, rfl, hh, hb⟩
      have MG1 : Hid (V0.heap.size ≤ zt.heap.size) := Lib.hid hb.size
      have B56 := Lib.hid (B55.out.trans (hb.mono B55.out.size))
      have A056 := Lib.hid (A055.out.next hb)
      have A156 := Lib.hid (A155.out.next hb)
      have S56 := Lib.hid (S55.out.next hb)
      have KS56 := Lib.hid (KS55.out.next hb)
      have G56 := Lib.hid (G55.out.next hb)
      have KG56 := Lib.hid (KG55.out.next hb)
      clear B55 A055 A155 S55 KS55 G55 KG55
      have Q0H56 := Lib.hid (hh)
      clear hb hh
      go_wp2_with fail
      clear hHeld
      refine hK.out _ _ ?_ (fun hHeld => ?_)
      · exact ⟨A056.out.now.treDk, A156.out.now.fourDk⟩
      clear hK KK
      refine wpAnyH_ready (rs := [3, 8]) (by kernel_rfl) (by simp) ?_
      try simp only [Act.put, List.setIfInBounds_toArray, List.set_cons_zero, List.set_cons_succ, List.getElem_toArray, List.getElem_cons_zero, List.getElem_cons_succ]
      refine (AllReadyH.cons rfl (fun KK hK => ?_) (AllReadyH.cons rfl (fun KK hK => ?_) AllReadyH.nil))
      · go_simp
        refine (toDop r1 s1 p1 o1 _).mono ?_
        rintro e zo ⟨rfl, hb⟩
        have MG2 : Hid (zt.heap.size ≤ zo.heap.size) := Lib.hid hb.size
        have B57 := Lib.hid (B56.out.trans (hb.mono B56.out.size))
        have A057 := Lib.hid (A056.out.next hb)
        have A157 := Lib.hid (A156.out.next hb)
        have S57 := Lib.hid (S56.out.next hb)
        have KS57 := Lib.hid (KS56.out.next hb)
        have G57 := Lib.hid (G56.out.next hb)
        have KG57 := Lib.hid (KG56.out.next hb)
        have Q0H57 := Lib.hid (Q0H56.out.next hb)
        clear B56 A056 A156 S56 KS56 G56 KG56 Q0H56
        clear hb
        go_wp2_with fail
        clear hHeld
        refine hK.out _ _ ?_ (fun hHeld => ?_)
        · exact ⟨A057.out.now.treDk, A157.out.now.fourDk⟩
        clear hK KK
        refine wpAnyH_ready (rs := [4, 8]) (by kernel_rfl) (by simp) ?_
        try simp only [Act.put, List.setIfInBounds_toArray, List.set_cons_zero, List.set_cons_succ, List.getElem_toArray, List.getElem_cons_zero, List.getElem_cons_succ]
        refine (AllReadyH.cons rfl (fun KK hK => ?_) (AllReadyH.cons rfl (fun KK hK => ?_) AllReadyH.nil))
        · go_simp
          refine (HC2.out x00_H y00_H x01_H y01_H x02_H y02_H _ (Q0H57.out.now.readDk HM0.out HL0.out)).mono ?_
          rintro e zf ⟨rah, rch, rbh, rdh, reh, rfh, rfl, hh, hb⟩
          have MG3 : Hid (zo.heap.size ≤ zf.heap.size) := Lib.hid hb.size
          clear Q0H57
          have B58 := Lib.hid (B57.out.trans (hb.mono B57.out.size))
          have A058 := Lib.hid (A057.out.next hb)
          have A158 := Lib.hid (A157.out.next hb)
          have S58 := Lib.hid (S57.out.next hb)
          have KS58 := Lib.hid (KS57.out.next hb)
          have G58 := Lib.hid (G57.out.next hb)
          have KG58 := Lib.hid (KG57.out.next hb)
          clear B57 A057 A157 S57 KS57 G57 KG57
          have H58 := Lib.hid (hh)
          clear hb hh
          go_wp2_with fail
          clear hHeld
          refine hK.out _ _ ?_ (fun hHeld => ?_)
          · exact ⟨A058.out.now.treDk, A158.out.now.fourDk⟩
          clear hK KK
          refine wpAnyH_take (i := 5) (v := ?_) rfl (by kernel_rfl) (by kernel_rfl) (by kernel_rfl) (fun _ _ _ h => h) (Or.inl ⟨by kernel_rfl, ?_⟩) (by assumption) ?_
          rotate_left
          · intro w hSw; (try dsimp only at hSw); go_simp; try with_reducible rfl
          refine wpAnyH_take (i := 6) (v := ?_) rfl (by kernel_rfl) (by kernel_rfl) (by kernel_rfl) (fun _ _ _ h => h) (Or.inl ⟨by kernel_rfl, ?_⟩) (by assumption) ?_
          rotate_left
          · intro w hSw; (try dsimp only at hSw); go_simp; try with_reducible rfl
          refine wpAnyH_take (i := 7) (v := ?_) rfl (by kernel_rfl) (by kernel_rfl) (by kernel_rfl) (fun _ _ _ h => h) (Or.inl ⟨by kernel_rfl, ?_⟩) (by assumption) ?_
          rotate_left
          · intro w hSw; (try dsimp only at hSw); go_simp; try with_reducible rfl
          refine wpAnyH_ready (rs := [8]) (by kernel_rfl) (by simp) ?_
          try simp only [Act.put, List.setIfInBounds_toArray, List.set_cons_zero, List.set_cons_succ, List.getElem_toArray, List.getElem_cons_zero, List.getElem_cons_succ]
          refine (AllReadyH.cons rfl (fun KK hK => ?_) AllReadyH.nil)
          go_simp
          have B59 := Lib.hid (B58.out.alloc B58.out.size (.cells #[.slice none 0 0, .slice none 0 0, .slice none 0 0] 27))
          have A059 := Lib.hid (A058.out.alloc (.cells #[.slice none 0 0, .slice none 0 0, .slice none 0 0] 27))
          have A159 := Lib.hid (A158.out.alloc (.cells #[.slice none 0 0, .slice none 0 0, .slice none 0 0] 27))
          have S59 := Lib.hid (S58.out.alloc (.cells #[.slice none 0 0, .slice none 0 0, .slice none 0 0] 27))
          have KS59 := Lib.hid (KS58.out.alloc (.cells #[.slice none 0 0, .slice none 0 0, .slice none 0 0] 27))
          have G59 := Lib.hid (G58.out.alloc (.cells #[.slice none 0 0, .slice none 0 0, .slice none 0 0] 27))
          have KG59 := Lib.hid (KG58.out.alloc (.cells #[.slice none 0 0, .slice none 0 0, .slice none 0 0] 27))
          have H59 := Lib.hid (H58.out.alloc (.cells #[.slice none 0 0, .slice none 0 0, .slice none 0 0] 27))
          clear B58 A058 A158 S58 KS58 G58 KG58 H58
          have tz := cells_new zf #[.slice none 0 0, .slice none 0 0, .slice none 0 0] 27
          have Z59 := Lib.hid (tz)
          clear tz
          have MG4 : Hid (zf.heap.size + 1 ≤ (zf.alloc (.cells #[.slice none 0 0, .slice none 0 0, .slice none 0 0] 27)).heap.size) := Lib.hid (by simp)
          clear hHeld
          refine hK.out _ _ ?_ (fun hHeld => ?_)
          · exact ⟨A059.out.now.treDk, A159.out.now.fourDk⟩
          clear hK KK
          generalize hva : (zf.alloc (.cells #[.slice none 0 0, .slice none 0 0, .slice none 0 0] 27)) = va5 at B59 MG4 A059 A159 S59 KS59 G59 KG59 H59 Z59 hHeld ⊢
          clear hva
          refine wpAnyH_ready (rs := [9]) (by kernel_rfl) (by simp) ?_
          try simp only [Act.put, List.setIfInBounds_toArray, List.set_cons_zero, List.set_cons_succ, List.getElem_toArray, List.getElem_cons_zero, List.getElem_cons_succ]
          refine AllReadyH.cons rfl (fun KK hK => ?_) AllReadyH.nil
          obtain ⟨y0, y1, y2⟩ := Z59.out.now.treDk
          have f0 := Z59.out.now.free 0
          have f1 := Z59.out.now.free 1
          have f2 := Z59.out.now.free 2
          go_simp
          have TS := turn_s3 va5 (zf.heap.size) (.slice rah N1 rch) (.slice rbh N2 rdh) (.slice reh N3 rfh)
          have A0S := Lib.hid (A059.out.step TS (.inl (by have := LEA0_H0.out; have := MV0.out; have := MG1.out; have := MG2.out; have := MG3.out; have := MG4.out; omega)))
          have A1S := Lib.hid (A159.out.step TS (.inl (by have := LEA1_H0.out; have := MV0.out; have := MG1.out; have := MG2.out; have := MG3.out; have := MG4.out; omega)))
          have SS := Lib.hid (S59.out.step TS (.inl (by have := LES_H0.out; have := MV0.out; have := MG1.out; have := MG2.out; have := MG3.out; have := MG4.out; omega)))
          have KSS := Lib.hid (KS59.out.step TS (.inl (by have := LEKS_H0.out; have := MV0.out; have := MG1.out; have := MG2.out; have := MG3.out; have := MG4.out; omega)))
          have GS := Lib.hid (G59.out.step TS (.inl (by have := LEG_H0.out; have := MV0.out; have := MG1.out; have := MG2.out; have := MG3.out; have := MG4.out; omega)))
          have KGS := Lib.hid (KG59.out.step TS (.inl (by have := LEKG_H0.out; have := MV0.out; have := MG1.out; have := MG2.out; have := MG3.out; have := MG4.out; omega)))
          have HrS := Lib.hid (H59.out.step TS (by have := MV0.out; have := MG1.out; have := MG2.out; have := MG3.out; have := MG4.out; omega))
          have ZS := Lib.hid (cells_set3 Z59.out (.slice rah N1 rch) (.slice rbh N2 rdh) (.slice reh N3 rfh))
          have BS_ := Lib.hid (B59.out.trans (TS.below B59.out.size (by have := LEw_H0.out; have := MV0.out; have := MG1.out; have := MG2.out; have := MG3.out; have := MG4.out; omega)))
          have HP : Hid (w11.heap.size ≤ zo.heap.size ∧ w11.heap.size ≤ zf.heap.size ∧ (zf.heap.size + 1 ≤ zo.heap.size ∨ zf.heap.size ≤ zf.heap.size)) := Lib.hid (by have := MV0.out; have := MG1.out; have := MG2.out; have := MG3.out; have := MG4.out; omega)
          clear TS hHeld
          refine hK.out _ _ ?_ (fun hHeld => ?_)
          · exact ⟨A0S.out.now.treDk, A1S.out.now.fourDk⟩
          clear hK KK
          refine wpAnyH_take (i := 10) (v := ?_) rfl (by kernel_rfl) (by kernel_rfl) (by kernel_rfl) (fun _ _ _ h => h) (Or.inl ⟨by kernel_rfl, ?_⟩) (by assumption) ?_
          rotate_left
          · intro w hSw; (try dsimp only at hSw); go_simp; try with_reducible rfl
          clear hHeld
          refine wpAnyH_done (by kernel_rfl) ?_ _
          try simp only [Act.put, List.setIfInBounds_toArray, List.set_cons_zero, List.set_cons_succ, List.getElem_toArray, List.getElem_cons_zero, List.getElem_cons_succ]
          go_wp2_with fail
          go_meet
          exact ⟨_, rah, rch, rbh, rdh, reh, rfh, rfl, rfl, BS_, A0S, A1S, SS, KSS, GS, KGS, ZS, _, _, HP, HrS⟩
        · go_simp
          have B58 := Lib.hid (B57.out.alloc B57.out.size (.cells #[.slice none 0 0, .slice none 0 0, .slice none 0 0] 27))
          have A058 := Lib.hid (A057.out.alloc (.cells #[.slice none 0 0, .slice none 0 0, .slice none 0 0] 27))
          have A158 := Lib.hid (A157.out.alloc (.cells #[.slice none 0 0, .slice none 0 0, .slice none 0 0] 27))
          have S58 := Lib.hid (S57.out.alloc (.cells #[.slice none 0 0, .slice none 0 0, .slice none 0 0] 27))
          have KS58 := Lib.hid (KS57.out.alloc (.cells #[.slice none 0 0, .slice none 0 0, .slice none 0 0] 27))
          have G58 := Lib.hid (G57.out.alloc (.cells #[.slice none 0 0, .slice none 0 0, .slice none 0 0] 27))
          have KG58 := Lib.hid (KG57.out.alloc (.cells #[.slice none 0 0, .slice none 0 0, .slice none 0 0] 27))
          have Q0H58 := Lib.hid (Q0H57.out.alloc (.cells #[.slice none 0 0, .slice none 0 0, .slice none 0 0] 27))
          clear B57 A057 A157 S57 KS57 G57 KG57 Q0H57
          have tz := cells_new zo #[.slice none 0 0, .slice none 0 0, .slice none 0 0] 27
          have Z58 := Lib.hid (tz)
          clear tz
          have MG6 : Hid (zo.heap.size + 1 ≤ (zo.alloc (.cells #[.slice none 0 0, .slice none 0 0, .slice none 0 0] 27)).heap.size) := Lib.hid (by simp)
          clear hHeld
          refine hK.out _ _ ?_ (fun hHeld => ?_)
          · exact ⟨A058.out.now.treDk, A158.out.now.fourDk⟩
          clear hK KK
          generalize hva : (zo.alloc (.cells #[.slice none 0 0, .slice none 0 0, .slice none 0 0] 27)) = va7 at B58 MG6 A058 A158 S58 KS58 G58 KG58 Q0H58 Z58 hHeld ⊢
          clear hva
          refine wpAnyH_ready (rs := [4]) (by kernel_rfl) (by simp) ?_
          try simp only [Act.put, List.setIfInBounds_toArray, List.set_cons_zero, List.set_cons_succ, List.getElem_toArray, List.getElem_cons_zero, List.getElem_cons_succ]
          refine (AllReadyH.cons rfl (fun KK hK => ?_) AllReadyH.nil)
          go_simp
          refine (HC2.out x00_H y00_H x01_H y01_H x02_H y02_H _ (Q0H58.out.now.readDk HM0.out HL0.out)).mono ?_
          rintro e zf ⟨rah, rch, rbh, rdh, reh, rfh, rfl, hh, hb⟩
          have MG8 : Hid (va7.heap.size ≤ zf.heap.size) := Lib.hid hb.size
          clear Q0H58
          have B59 := Lib.hid (B58.out.trans (hb.mono B58.out.size))
          have A059 := Lib.hid (A058.out.next hb)
          have A159 := Lib.hid (A158.out.next hb)
          have S59 := Lib.hid (S58.out.next hb)
          have KS59 := Lib.hid (KS58.out.next hb)
          have G59 := Lib.hid (G58.out.next hb)
          have KG59 := Lib.hid (KG58.out.next hb)
          have Z59 := Lib.hid (Z58.out.next hb)
          clear B58 A058 A158 S58 KS58 G58 KG58 Z58
          have H59 := Lib.hid (hh)
          clear hb hh
          go_wp2_with fail
          clear hHeld
          refine hK.out _ _ ?_ (fun hHeld => ?_)
          · exact ⟨A059.out.now.treDk, A159.out.now.fourDk⟩
          clear hK KK
          refine wpAnyH_take (i := 5) (v := ?_) rfl (by kernel_rfl) (by kernel_rfl) (by kernel_rfl) (fun _ _ _ h => h) (Or.inl ⟨by kernel_rfl, ?_⟩) (by assumption) ?_
          rotate_left
          · intro w hSw; (try dsimp only at hSw); go_simp; try with_reducible rfl
          refine wpAnyH_take (i := 6) (v := ?_) rfl (by kernel_rfl) (by kernel_rfl) (by kernel_rfl) (fun _ _ _ h => h) (Or.inl ⟨by kernel_rfl, ?_⟩) (by assumption) ?_
          rotate_left
          · intro w hSw; (try dsimp only at hSw); go_simp; try with_reducible rfl
          refine wpAnyH_take (i := 7) (v := ?_) rfl (by kernel_rfl) (by kernel_rfl) (by kernel_rfl) (fun _ _ _ h => h) (Or.inl ⟨by kernel_rfl, ?_⟩) (by assumption) ?_
          rotate_left
          · intro w hSw; (try dsimp only at hSw); go_simp; try with_reducible rfl
          refine wpAnyH_ready (rs := [9]) (by kernel_rfl) (by simp) ?_
          try simp only [Act.put, List.setIfInBounds_toArray, List.set_cons_zero, List.set_cons_succ, List.getElem_toArray, List.getElem_cons_zero, List.getElem_cons_succ]
          refine AllReadyH.cons rfl (fun KK hK => ?_) AllReadyH.nil
          obtain ⟨y0, y1, y2⟩ := Z59.out.now.treDk
          have f0 := Z59.out.now.free 0
          have f1 := Z59.out.now.free 1
          have f2 := Z59.out.now.free 2
          go_simp
          have TS := turn_s3 zf (zo.heap.size) (.slice rah N1 rch) (.slice rbh N2 rdh) (.slice reh N3 rfh)
          have A0S := Lib.hid (A059.out.step TS (.inl (by have := LEA0_H0.out; have := MV0.out; have := MG1.out; have := MG2.out; have := MG6.out; have := MG8.out; omega)))
          have A1S := Lib.hid (A159.out.step TS (.inl (by have := LEA1_H0.out; have := MV0.out; have := MG1.out; have := MG2.out; have := MG6.out; have := MG8.out; omega)))
          have SS := Lib.hid (S59.out.step TS (.inl (by have := LES_H0.out; have := MV0.out; have := MG1.out; have := MG2.out; have := MG6.out; have := MG8.out; omega)))
          have KSS := Lib.hid (KS59.out.step TS (.inl (by have := LEKS_H0.out; have := MV0.out; have := MG1.out; have := MG2.out; have := MG6.out; have := MG8.out; omega)))
          have GS := Lib.hid (G59.out.step TS (.inl (by have := LEG_H0.out; have := MV0.out; have := MG1.out; have := MG2.out; have := MG6.out; have := MG8.out; omega)))
          have KGS := Lib.hid (KG59.out.step TS (.inl (by have := LEKG_H0.out; have := MV0.out; have := MG1.out; have := MG2.out; have := MG6.out; have := MG8.out; omega)))
          have HrS := Lib.hid (H59.out.step TS (by have := MV0.out; have := MG1.out; have := MG2.out; have := MG6.out; have := MG8.out; omega))
          have ZS := Lib.hid (cells_set3 Z59.out (.slice rah N1 rch) (.slice rbh N2 rdh) (.slice reh N3 rfh))
          have BS_ := Lib.hid (B59.out.trans (TS.below B59.out.size (by have := LEw_H0.out; have := MV0.out; have := MG1.out; have := MG2.out; have := MG6.out; have := MG8.out; omega)))
          have HP : Hid (w11.heap.size ≤ va7.heap.size ∧ w11.heap.size ≤ zo.heap.size ∧ (zo.heap.size + 1 ≤ va7.heap.size ∨ zf.heap.size ≤ zo.heap.size)) := Lib.hid (by have := MV0.out; have := MG1.out; have := MG2.out; have := MG6.out; have := MG8.out; omega)
          clear TS hHeld
          refine hK.out _ _ ?_ (fun hHeld => ?_)
          · exact ⟨A0S.out.now.treDk, A1S.out.now.fourDk⟩
          clear hK KK
          refine wpAnyH_take (i := 10) (v := ?_) rfl (by kernel_rfl) (by kernel_rfl) (by kernel_rfl) (fun _ _ _ h => h) (Or.inl ⟨by kernel_rfl, ?_⟩) (by assumption) ?_
          rotate_left
          · intro w hSw; (try dsimp only at hSw); go_simp; try with_reducible rfl
          clear hHeld
          refine wpAnyH_done (by kernel_rfl) ?_ _
          try simp only [Act.put, List.setIfInBounds_toArray, List.set_cons_zero, List.set_cons_succ, List.getElem_toArray, List.getElem_cons_zero, List.getElem_cons_succ]
          go_wp2_with fail
          go_meet
          exact ⟨_, rah, rch, rbh, rdh, reh, rfh, rfl, rfl, BS_, A0S, A1S, SS, KSS, GS, KGS, ZS, _, _, HP, HrS⟩
      · go_simp
        have B57 := Lib.hid (B56.out.alloc B56.out.size (.cells #[.slice none 0 0, .slice none 0 0, .slice none 0 0] 27))
        have A057 := Lib.hid (A056.out.alloc (.cells #[.slice none 0 0, .slice none 0 0, .slice none 0 0] 27))
        have A157 := Lib.hid (A156.out.alloc (.cells #[.slice none 0 0, .slice none 0 0, .slice none 0 0] 27))
        have S57 := Lib.hid (S56.out.alloc (.cells #[.slice none 0 0, .slice none 0 0, .slice none 0 0] 27))
        have KS57 := Lib.hid (KS56.out.alloc (.cells #[.slice none 0 0, .slice none 0 0, .slice none 0 0] 27))
        have G57 := Lib.hid (G56.out.alloc (.cells #[.slice none 0 0, .slice none 0 0, .slice none 0 0] 27))
        have KG57 := Lib.hid (KG56.out.alloc (.cells #[.slice none 0 0, .slice none 0 0, .slice none 0 0] 27))
        have Q0H57 := Lib.hid (Q0H56.out.alloc (.cells #[.slice none 0 0, .slice none 0 0, .slice none 0 0] 27))
        clear B56 A056 A156 S56 KS56 G56 KG56 Q0H56
        have tz := cells_new zt #[.slice none 0 0, .slice none 0 0, .slice none 0 0] 27
        have Z57 := Lib.hid (tz)
        clear tz
        have MG9 : Hid (zt.heap.size + 1 ≤ (zt.alloc (.cells #[.slice none 0 0, .slice none 0 0, .slice none 0 0] 27)).heap.size) := Lib.hid (by simp)
        clear hHeld
        refine hK.out _ _ ?_ (fun hHeld => ?_)
        · exact ⟨A057.out.now.treDk, A157.out.now.fourDk⟩
        clear hK KK
        generalize hva : (zt.alloc (.cells #[.slice none 0 0, .slice none 0 0, .slice none 0 0] 27)) = va10 at B57 MG9 A057 A157 S57 KS57 G57 KG57 Q0H57 Z57 hHeld ⊢
        clear hva
        refine wpAnyH_ready (rs := [3]) (by kernel_rfl) (by simp) ?_
        try simp only [Act.put, List.setIfInBounds_toArray, List.set_cons_zero, List.set_cons_succ, List.getElem_toArray, List.getElem_cons_zero, List.getElem_cons_succ]
        refine (AllReadyH.cons rfl (fun KK hK => ?_) AllReadyH.nil)
        go_simp
        refine (toDop r1 s1 p1 o1 _).mono ?_
        rintro e zo ⟨rfl, hb⟩
        have MG11 : Hid (va10.heap.size ≤ zo.heap.size) := Lib.hid hb.size
        have B58 := Lib.hid (B57.out.trans (hb.mono B57.out.size))
        have A058 := Lib.hid (A057.out.next hb)
        have A158 := Lib.hid (A157.out.next hb)
        have S58 := Lib.hid (S57.out.next hb)
        have KS58 := Lib.hid (KS57.out.next hb)
        have G58 := Lib.hid (G57.out.next hb)
        have KG58 := Lib.hid (KG57.out.next hb)
        have Q0H58 := Lib.hid (Q0H57.out.next hb)
        have Z58 := Lib.hid (Z57.out.next hb)
        clear B57 A057 A157 S57 KS57 G57 KG57 Q0H57 Z57
        clear hb
        go_wp2_with fail
        clear hHeld
        refine hK.out _ _ ?_ (fun hHeld => ?_)
        · exact ⟨A058.out.now.treDk, A158.out.now.fourDk⟩
        clear hK KK
        refine wpAnyH_ready (rs := [4]) (by kernel_rfl) (by simp) ?_
        try simp only [Act.put, List.setIfInBounds_toArray, List.set_cons_zero, List.set_cons_succ, List.getElem_toArray, List.getElem_cons_zero, List.getElem_cons_succ]
        refine (AllReadyH.cons rfl (fun KK hK => ?_) AllReadyH.nil)
        go_simp
        refine (HC2.out x00_H y00_H x01_H y01_H x02_H y02_H _ (Q0H58.out.now.readDk HM0.out HL0.out)).mono ?_
        rintro e zf ⟨rah, rch, rbh, rdh, reh, rfh, rfl, hh, hb⟩
        have MG12 : Hid (zo.heap.size ≤ zf.heap.size) := Lib.hid hb.size
        clear Q0H58
        have B59 := Lib.hid (B58.out.trans (hb.mono B58.out.size))
        have A059 := Lib.hid (A058.out.next hb)
        have A159 := Lib.hid (A158.out.next hb)
        have S59 := Lib.hid (S58.out.next hb)
        have KS59 := Lib.hid (KS58.out.next hb)
        have G59 := Lib.hid (G58.out.next hb)
        have KG59 := Lib.hid (KG58.out.next hb)
        have Z59 := Lib.hid (Z58.out.next hb)
        clear B58 A058 A158 S58 KS58 G58 KG58 Z58
        have H59 := Lib.hid (hh)
        clear hb hh
        go_wp2_with fail
        clear hHeld
        refine hK.out _ _ ?_ (fun hHeld => ?_)
        · exact ⟨A059.out.now.treDk, A159.out.now.fourDk⟩
        clear hK KK
        refine wpAnyH_take (i := 5) (v := ?_) rfl (by kernel_rfl) (by kernel_rfl) (by kernel_rfl) (fun _ _ _ h => h) (Or.inl ⟨by kernel_rfl, ?_⟩) (by assumption) ?_
        rotate_left
        · intro w hSw; (try dsimp only at hSw); go_simp; try with_reducible rfl
        refine wpAnyH_take (i := 6) (v := ?_) rfl (by kernel_rfl) (by kernel_rfl) (by kernel_rfl) (fun _ _ _ h => h) (Or.inl ⟨by kernel_rfl, ?_⟩) (by assumption) ?_
        rotate_left
        · intro w hSw; (try dsimp only at hSw); go_simp; try with_reducible rfl
        refine wpAnyH_take (i := 7) (v := ?_) rfl (by kernel_rfl) (by kernel_rfl) (by kernel_rfl) (fun _ _ _ h => h) (Or.inl ⟨by kernel_rfl, ?_⟩) (by assumption) ?_
        rotate_left
        · intro w hSw; (try dsimp only at hSw); go_simp; try with_reducible rfl
        refine wpAnyH_ready (rs := [9]) (by kernel_rfl) (by simp) ?_
        try simp only [Act.put, List.setIfInBounds_toArray, List.set_cons_zero, List.set_cons_succ, List.getElem_toArray, List.getElem_cons_zero, List.getElem_cons_succ]
        refine AllReadyH.cons rfl (fun KK hK => ?_) AllReadyH.nil
        obtain ⟨y0, y1, y2⟩ := Z59.out.now.treDk
        have f0 := Z59.out.now.free 0
        have f1 := Z59.out.now.free 1
        have f2 := Z59.out.now.free 2
        go_simp
        have TS := turn_s3 zf (zt.heap.size) (.slice rah N1 rch) (.slice rbh N2 rdh) (.slice reh N3 rfh)
        have A0S := Lib.hid (A059.out.step TS (.inl (by have := LEA0_H0.out; have := MV0.out; have := MG1.out; have := MG9.out; have := MG11.out; have := MG12.out; omega)))
        have A1S := Lib.hid (A159.out.step TS (.inl (by have := LEA1_H0.out; have := MV0.out; have := MG1.out; have := MG9.out; have := MG11.out; have := MG12.out; omega)))
        have SS := Lib.hid (S59.out.step TS (.inl (by have := LES_H0.out; have := MV0.out; have := MG1.out; have := MG9.out; have := MG11.out; have := MG12.out; omega)))
        have KSS := Lib.hid (KS59.out.step TS (.inl (by have := LEKS_H0.out; have := MV0.out; have := MG1.out; have := MG9.out; have := MG11.out; have := MG12.out; omega)))
        have GS := Lib.hid (G59.out.step TS (.inl (by have := LEG_H0.out; have := MV0.out; have := MG1.out; have := MG9.out; have := MG11.out; have := MG12.out; omega)))
        have KGS := Lib.hid (KG59.out.step TS (.inl (by have := LEKG_H0.out; have := MV0.out; have := MG1.out; have := MG9.out; have := MG11.out; have := MG12.out; omega)))
        have HrS := Lib.hid (H59.out.step TS (by have := MV0.out; have := MG1.out; have := MG9.out; have := MG11.out; have := MG12.out; omega))
        have ZS := Lib.hid (cells_set3 Z59.out (.slice rah N1 rch) (.slice rbh N2 rdh) (.slice reh N3 rfh))
        have BS_ := Lib.hid (B59.out.trans (TS.below B59.out.size (by have := LEw_H0.out; have := MV0.out; have := MG1.out; have := MG9.out; have := MG11.out; have := MG12.out; omega)))
        have HP : Hid (w11.heap.size ≤ zo.heap.size ∧ w11.heap.size ≤ zt.heap.size ∧ (zt.heap.size + 1 ≤ zo.heap.size ∨ zf.heap.size ≤ zt.heap.size)) := Lib.hid (by have := MV0.out; have := MG1.out; have := MG9.out; have := MG11.out; have := MG12.out; omega)
        clear TS hHeld
        refine hK.out _ _ ?_ (fun hHeld => ?_)
        · exact ⟨A0S.out.now.treDk, A1S.out.now.fourDk⟩
        clear hK KK
        refine wpAnyH_take (i := 10) (v := ?_) rfl (by kernel_rfl) (by kernel_rfl) (by kernel_rfl) (fun _ _ _ h => h) (Or.inl ⟨by kernel_rfl, ?_⟩) (by assumption) ?_
        rotate_left
        · intro w hSw; (try dsimp only at hSw); go_simp; try with_reducible rfl
        clear hHeld
        refine wpAnyH_done (by kernel_rfl) ?_ _
        try simp only [Act.put, List.setIfInBounds_toArray, List.set_cons_zero, List.set_cons_succ, List.getElem_toArray, List.getElem_cons_zero, List.getElem_cons_succ]
        go_wp2_with fail
        go_meet
        exact ⟨_, rah, rch, rbh, rdh, reh, rfh, rfl, rfl, BS_, A0S, A1S, SS, KSS, GS, KGS, ZS, _, _, HP, HrS⟩
    · go_simp
      have B56 := Lib.hid (B55.out.alloc B55.out.size (.cells #[.slice none 0 0, .slice none 0 0, .slice none 0 0] 27))
      have A056 := Lib.hid (A055.out.alloc (.cells #[.slice none 0 0, .slice none 0 0, .slice none 0 0] 27))
      have A156 := Lib.hid (A155.out.alloc (.cells #[.slice none 0 0, .slice none 0 0, .slice none 0 0] 27))
      have S56 := Lib.hid (S55.out.alloc (.cells #[.slice none 0 0, .slice none 0 0, .slice none 0 0] 27))
      have KS56 := Lib.hid (KS55.out.alloc (.cells #[.slice none 0 0, .slice none 0 0, .slice none 0 0] 27))
      have G56 := Lib.hid (G55.out.alloc (.cells #[.slice none 0 0, .slice none 0 0, .slice none 0 0] 27))
      have KG56 := Lib.hid (KG55.out.alloc (.cells #[.slice none 0 0, .slice none 0 0, .slice none 0 0] 27))
      clear B55 A055 A155 S55 KS55 G55 KG55
      have tz := cells_new V0 #[.slice none 0 0, .slice none 0 0, .slice none 0 0] 27
      have Z56 := Lib.hid (tz)
      clear tz
      have MG13 : Hid (V0.heap.size + 1 ≤ (V0.alloc (.cells #[.slice none 0 0, .slice none 0 0, .slice none 0 0] 27)).heap.size) := Lib.hid (by simp)
      clear hHeld
      refine hK.out _ _ ?_ (fun hHeld => ?_)
      · exact ⟨A056.out.now.treDk, A156.out.now.fourDk⟩
      clear hK KK
      generalize hva : (V0.alloc (.cells #[.slice none 0 0, .slice none 0 0, .slice none 0 0] 27)) = va14 at B56 MG13 A056 A156 S56 KS56 G56 KG56 Z56 hHeld ⊢
      clear hva
      refine wpAnyH_ready (rs := [1]) (by kernel_rfl) (by simp) ?_
      try simp only [Act.put, List.setIfInBounds_toArray, List.set_cons_zero, List.set_cons_succ, List.getElem_toArray, List.getElem_cons_zero, List.getElem_cons_succ]
      refine (AllReadyH.cons rfl (fun KK hK => ?_) AllReadyH.nil)
      go_simp
      refine (exToDk a00 a01 a02 n00 n01 n02 c00 c01 c02 t00 t01 t02 _ (H0.out.next B56.out) l0 HL0.out).mono ?_
      rintro e zt ⟨x00_H, y00_H, x01_H, y01_H, x02_H, y02_H, rfl, hh, hb⟩
      have MG15 : Hid (va14.heap.size ≤ zt.heap.size) := Lib.hid hb.size
      have B57 := Lib.hid (B56.out.trans (hb.mono B56.out.size))
      have A057 := Lib.hid (A056.out.next hb)
      have A157 := Lib.hid (A156.out.next hb)
      have S57 := Lib.hid (S56.out.next hb)
      have KS57 := Lib.hid (KS56.out.next hb)
      have G57 := Lib.hid (G56.out.next hb)
      have KG57 := Lib.hid (KG56.out.next hb)
      have Z57 := Lib.hid (Z56.out.next hb)
      clear B56 A056 A156 S56 KS56 G56 KG56 Z56
      have Q0H57 := Lib.hid (hh)
      clear hb hh
      go_wp2_with fail
      clear hHeld
      refine hK.out _ _ ?_ (fun hHeld => ?_)
      · exact ⟨A057.out.now.treDk, A157.out.now.fourDk⟩
      clear hK KK
      refine wpAnyH_ready (rs := [3]) (by kernel_rfl) (by simp) ?_
      try simp only [Act.put, List.setIfInBounds_toArray, List.set_cons_zero, List.set_cons_succ, List.getElem_toArray, List.getElem_cons_zero, List.getElem_cons_succ]
      refine (AllReadyH.cons rfl (fun KK hK => ?_) AllReadyH.nil)
      go_simp
      refine (toDop r1 s1 p1 o1 _).mono ?_
      rintro e zo ⟨rfl, hb⟩
      have MG16 : Hid (zt.heap.size ≤ zo.heap.size) := Lib.hid hb.size
      have B58 := Lib.hid (B57.out.trans (hb.mono B57.out.size))
      have A058 := Lib.hid (A057.out.next hb)
      have A158 := Lib.hid (A157.out.next hb)
      have S58 := Lib.hid (S57.out.next hb)
      have KS58 := Lib.hid (KS57.out.next hb)
      have G58 := Lib.hid (G57.out.next hb)
      have KG58 := Lib.hid (KG57.out.next hb)
      have Z58 := Lib.hid (Z57.out.next hb)
      have Q0H58 := Lib.hid (Q0H57.out.next hb)
      clear B57 A057 A157 S57 KS57 G57 KG57 Z57 Q0H57
      clear hb
      go_wp2_with fail
      clear hHeld
      refine hK.out _ _ ?_ (fun hHeld => ?_)
      · exact ⟨A058.out.now.treDk, A158.out.now.fourDk⟩
      clear hK KK
      refine wpAnyH_ready (rs := [4]) (by kernel_rfl) (by simp) ?_
      try simp only [Act.put, List.setIfInBounds_toArray, List.set_cons_zero, List.set_cons_succ, List.getElem_toArray, List.getElem_cons_zero, List.getElem_cons_succ]
      refine (AllReadyH.cons rfl (fun KK hK => ?_) AllReadyH.nil)
      go_simp
      refine (HC2.out x00_H y00_H x01_H y01_H x02_H y02_H _ (Q0H58.out.now.readDk HM0.out HL0.out)).mono ?_
      rintro e zf ⟨rah, rch, rbh, rdh, reh, rfh, rfl, hh, hb⟩
      have MG17 : Hid (zo.heap.size ≤ zf.heap.size) := Lib.hid hb.size
      clear Q0H58
      have B59 := Lib.hid (B58.out.trans (hb.mono B58.out.size))
      have A059 := Lib.hid (A058.out.next hb)
      have A159 := Lib.hid (A158.out.next hb)
      have S59 := Lib.hid (S58.out.next hb)
      have KS59 := Lib.hid (KS58.out.next hb)
      have G59 := Lib.hid (G58.out.next hb)
      have KG59 := Lib.hid (KG58.out.next hb)
      have Z59 := Lib.hid (Z58.out.next hb)
      clear B58 A058 A158 S58 KS58 G58 KG58 Z58
      have H59 := Lib.hid (hh)
      clear hb hh
      go_wp2_with fail
      clear hHeld
      refine hK.out _ _ ?_ (fun hHeld => ?_)
      · exact ⟨A059.out.now.treDk, A159.out.now.fourDk⟩
      clear hK KK
      refine wpAnyH_take (i := 5) (v := ?_) rfl (by kernel_rfl) (by kernel_rfl) (by kernel_rfl) (fun _ _ _ h => h) (Or.inl ⟨by kernel_rfl, ?_⟩) (by assumption) ?_
      rotate_left
      · intro w hSw; (try dsimp only at hSw); go_simp; try with_reducible rfl
      refine wpAnyH_take (i := 6) (v := ?_) rfl (by kernel_rfl) (by kernel_rfl) (by kernel_rfl) (fun _ _ _ h => h) (Or.inl ⟨by kernel_rfl, ?_⟩) (by assumption) ?_
      rotate_left
      · intro w hSw; (try dsimp only at hSw); go_simp; try with_reducible rfl
      refine wpAnyH_take (i := 7) (v := ?_) rfl (by kernel_rfl) (by kernel_rfl) (by kernel_rfl) (fun _ _ _ h => h) (Or.inl ⟨by kernel_rfl, ?_⟩) (by assumption) ?_
      rotate_left
      · intro w hSw; (try dsimp only at hSw); go_simp; try with_reducible rfl
      refine wpAnyH_ready (rs := [9]) (by kernel_rfl) (by simp) ?_
      try simp only [Act.put, List.setIfInBounds_toArray, List.set_cons_zero, List.set_cons_succ, List.getElem_toArray, List.getElem_cons_zero, List.getElem_cons_succ]
      refine AllReadyH.cons rfl (fun KK hK => ?_) AllReadyH.nil
      obtain ⟨y0, y1, y2⟩ := Z59.out.now.treDk
      have f0 := Z59.out.now.free 0
      have f1 := Z59.out.now.free 1
      have f2 := Z59.out.now.free 2
      go_simp
      have TS := turn_s3 zf (V0.heap.size) (.slice rah N1 rch) (.slice rbh N2 rdh) (.slice reh N3 rfh)
      have A0S := Lib.hid (A059.out.step TS (.inl (by have := LEA0_H0.out; have := MV0.out; have := MG13.out; have := MG15.out; have := MG16.out; have := MG17.out; omega)))
      have A1S := Lib.hid (A159.out.step TS (.inl (by have := LEA1_H0.out; have := MV0.out; have := MG13.out; have := MG15.out; have := MG16.out; have := MG17.out; omega)))
      have SS := Lib.hid (S59.out.step TS (.inl (by have := LES_H0.out; have := MV0.out; have := MG13.out; have := MG15.out; have := MG16.out; have := MG17.out; omega)))
      have KSS := Lib.hid (KS59.out.step TS (.inl (by have := LEKS_H0.out; have := MV0.out; have := MG13.out; have := MG15.out; have := MG16.out; have := MG17.out; omega)))
      have GS := Lib.hid (G59.out.step TS (.inl (by have := LEG_H0.out; have := MV0.out; have := MG13.out; have := MG15.out; have := MG16.out; have := MG17.out; omega)))
      have KGS := Lib.hid (KG59.out.step TS (.inl (by have := LEKG_H0.out; have := MV0.out; have := MG13.out; have := MG15.out; have := MG16.out; have := MG17.out; omega)))
      have HrS := Lib.hid (H59.out.step TS (by have := MV0.out; have := MG13.out; have := MG15.out; have := MG16.out; have := MG17.out; omega))
      have ZS := Lib.hid (cells_set3 Z59.out (.slice rah N1 rch) (.slice rbh N2 rdh) (.slice reh N3 rfh))
      have BS_ := Lib.hid (B59.out.trans (TS.below B59.out.size (by have := LEw_H0.out; have := MV0.out; have := MG13.out; have := MG15.out; have := MG16.out; have := MG17.out; omega)))
      have HP : Hid (w11.heap.size ≤ zo.heap.size ∧ w11.heap.size ≤ V0.heap.size ∧ (V0.heap.size + 1 ≤ zo.heap.size ∨ zf.heap.size ≤ V0.heap.size)) := Lib.hid (by have := MV0.out; have := MG13.out; have := MG15.out; have := MG16.out; have := MG17.out; omega)
      clear TS hHeld
      refine hK.out _ _ ?_ (fun hHeld => ?_)
      · exact ⟨A0S.out.now.treDk, A1S.out.now.fourDk⟩
      clear hK KK
      refine wpAnyH_take (i := 10) (v := ?_) rfl (by kernel_rfl) (by kernel_rfl) (by kernel_rfl) (fun _ _ _ h => h) (Or.inl ⟨by kernel_rfl, ?_⟩) (by assumption) ?_
      rotate_left
      · intro w hSw; (try dsimp only at hSw); go_simp; try with_reducible rfl
      clear hHeld
      refine wpAnyH_done (by kernel_rfl) ?_ _
      try simp only [Act.put, List.setIfInBounds_toArray, List.set_cons_zero, List.set_cons_succ, List.getElem_toArray, List.getElem_cons_zero, List.getElem_cons_succ]
      go_wp2_with fail
      go_meet
      exact ⟨_, rah, rch, rbh, rdh, reh, rfh, rfl, rfl, BS_, A0S, A1S, SS, KSS, GS, KGS, ZS, _, _, HP, HrS⟩
  clear B54 A054 A154 S54 KS54 G54 KG54
  generalize wc = wcH at hcut ⊢
  obtain ⟨gH, rah, rch, rbh, rdh, reh, rfh, rfl, rfl, B75, A075, A175, S75, KS75, G75, KG75, KH75, BH, CH, HPH, H75⟩ := hcut
  have LEA0_H := Lib.hid (Nat.le_trans LEA0_H0.out HPH.out.1)
  have LEA0_KH := Lib.hid (Nat.le_trans LEA0_H0.out HPH.out.2.1)
  have LEA1_H := Lib.hid (Nat.le_trans LEA1_H0.out HPH.out.1)
  have LEA1_KH := Lib.hid (Nat.le_trans LEA1_H0.out HPH.out.2.1)
  have LES_H := Lib.hid (Nat.le_trans LES_H0.out HPH.out.1)
  have LES_KH := Lib.hid (Nat.le_trans LES_H0.out HPH.out.2.1)
  have LEKS_H := Lib.hid (Nat.le_trans LEKS_H0.out HPH.out.1)
  have LEKS_KH := Lib.hid (Nat.le_trans LEKS_H0.out HPH.out.2.1)
  have LEG_H := Lib.hid (Nat.le_trans LEG_H0.out HPH.out.1)
  have LEG_KH := Lib.hid (Nat.le_trans LEG_H0.out HPH.out.2.1)
  have LEKG_H := Lib.hid (Nat.le_trans LEKG_H0.out HPH.out.1)
  have LEKG_KH := Lib.hid (Nat.le_trans LEKG_H0.out HPH.out.2.1)
  have LEw_H := Lib.hid (Nat.le_trans LEw_H0.out HPH.out.1)
  have DJH := Lib.hid HPH.out.2.2
  obtain ⟨v0, u0, z0⟩ := KH75.out.now.treDk
  obtain ⟨v1, u1, z1⟩ := KS75.out.now.treDk
  go_wp2_with fail
  refine (eqDk rah rbh reh ras rbs res N1 N2 N3 rch rdh rfh rcs rds rfs R1 R2 R3 _ (H75.out.now.readDk HRM.out HN.out) (S75.out.now.readDk HRM.out HN.out) rl).mono ?_
  rintro e w12 ⟨rfl, hb⟩
  clear v0 u0 z0 v1 u1 z1
  have B76 := Lib.hid (B75.out.trans (hb.mono B75.out.size))
  have A076 := Lib.hid (A075.out.next hb)
  have A176 := Lib.hid (A175.out.next hb)
  have S76 := Lib.hid (S75.out.next hb)
  have KS76 := Lib.hid (KS75.out.next hb)
  have G76 := Lib.hid (G75.out.next hb)
  have KG76 := Lib.hid (KG75.out.next hb)
  have H76 := Lib.hid (H75.out.next hb)
  have KH76 := Lib.hid (KH75.out.next hb)
  clear B75 A075 A175 S75 KS75 G75 KG75 H75 KH75
  clear hb
  clear H76
  clear KH76
  obtain ⟨v0, u0, z0⟩ := KG76.out.now.treDk
  go_wp2_with fail
  have HD := exHeldDk G76.out rl (by omega) (by omega)
  rw [HQQ.out] at HD
  refine HD.mono ?_
  rintro e w13 ⟨rfl, hb⟩
  clear v0 u0 z0 HD
  have B77 := Lib.hid (B76.out.trans (hb.mono B76.out.size))
  have A077 := Lib.hid (A076.out.next hb)
  have A177 := Lib.hid (A176.out.next hb)
  have S77 := Lib.hid (S76.out.next hb)
  have KS77 := Lib.hid (KS76.out.next hb)
  have G77 := Lib.hid (G76.out.next hb)
  have KG77 := Lib.hid (KG76.out.next hb)
  clear B76 A076 A176 S76 KS76 G76 KG76
  clear hb
  go_wp2_with fail
  go_ret
  exact ⟨rfl, B77.out⟩
end fnExactDo
end Go.Proofs.Ytamnlifdfhmbnaa
