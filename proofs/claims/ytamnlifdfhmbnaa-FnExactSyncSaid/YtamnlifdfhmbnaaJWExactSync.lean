/- The walk of FnExactSync. -/
import Derived.Test.YtamnlifdfhmbnaaG00
import Derived.Test.YtamnlifdfhmbnaaG20
import Derived.Test.YtamnlifdfhmbnaaG18
import Derived.Test.YtamnlifdfhmbnaaG21
import Derived.Test.YtamnlifdfhmbnaaG17
import Derived.Deep.RegionHeld3
namespace Go.Proofs.Ytamnlifdfhmbnaa
open Go.RowKit Go.WideShapes
namespace fnExactSync
set_option maxRecDepth 100000 in
set_option maxHeartbeats 6400000 in
theorem walk (a00 a01 a02 : Option Addr) (n00 n01 n02 c00 c01 c02 : Nat) (t00 t01 : List Pre2) (t02 : List OpV) (w : World) (h0 : IsDk w a00 a01 a02 n00 n01 n02 c00 c01 c02 t00 t01 t02) :
    Calls Try.prog 8 #[.agg #[.slice a00 n00 c00, .slice a01 n01 c01, .slice a02 n02 c02]] w fun e w' => e = .returned (.bool true) ∧ Below w.heap.size w w' := by
  obtain ⟨W1, hW1⟩ : ∃ W, w.alloc (.cells #[.slice a00 n00 c00, .slice a01 n01 c01, .slice a02 n02 c02] 50) = W := ⟨_, rfl⟩
  have z1 : W1.heap.size = w.heap.size + 1 := by rw [← hW1]; simp
  have B0 : Hid (Below w.heap.size w W1) := Lib.hid (by rw [← hW1]; exact ((Below.refl w.heap.size w).alloc (Nat.le_refl _) _))
  have A00 : Hid (Holds (w.heap.size) (w.heap.size + 1) W1 (Cells (w.heap.size) #[.slice a00 n00 c00, .slice a01 n01 c01, .slice a02 n02 c02] 50)) := Lib.hid (by
    have := (cells_new w #[.slice a00 n00 c00, .slice a01 n01 c01, .slice a02 n02 c02] 50)
    rw [hW1] at this; exact this)
  have HW := Lib.hid (hW1)
  clear hW1 z1
  have H0 := Lib.hid h0
  have HL0 := Lib.hid (And.intro h0.1.len (And.intro h0.2.1.len h0.2.2.len))
  have HM0 : Hid (SmAllPrFi t00 ∧ SmAllPrFi t01 ∧ SmAllOp t02) := Lib.hid ⟨IsPres.smallFi h0.1, IsPres.smallFi h0.2.1, h0.2.2.small⟩
  clear h0
  go_enter Try.func8, Try.ntmps8
  obtain ⟨v0, u0, z0⟩ := A00.out.now.treDk
  go_wp2_with fail
  rw [HW.out]
  refine (szDk a00 a01 a02 n00 n01 n02 c00 c01 c02 t00 t01 t02 _ (H0.out.next B0.out) 1048576 (by omega) (by omega)).mono ?_
  rintro e w1 ⟨g0, rfl, hg, hb⟩
  clear v0 u0 z0
  have B1 := Lib.hid (B0.out.trans (hb.mono B0.out.size))
  have A01 := Lib.hid (A00.out.next hb)
  clear B0 A00
  clear hb
  rcases hg with rfl | ⟨e0, f0, ps0, qs0, rs0⟩
  · go_wp2_with fail
    go_ret
    exact ⟨rfl, B1.out⟩
  have S0 : Hid (SmDk t00 t01 t02) := Lib.hid ⟨ps0.2, qs0.2, rs0.2⟩
  have l0 : n00 ≤ 1048576 ∧ n01 ≤ 1048576 ∧ n02 ≤ 1048576 := ⟨ps0.1, qs0.1, rs0.1⟩
  clear ps0 qs0 rs0
  have d0 : ¬ g0 < 0 := by omega
  have C1 := fun x0 y0 x1 y1 x2 y2 W hi => specSync x0 x1 x2 n00 n01 n02 y0 y1 y2 t00 t01 t02 W hi S0.out l0
  have C2 := fun x0 y0 x1 y1 x2 y2 W hi => implSync x0 x1 x2 n00 n01 n02 y0 y1 y2 t00 t01 t02 W hi S0.out l0
  have hmost := syncF_most t00 t01 t02 HL0.out.1 HM0.out.1
  obtain ⟨R1, hR1⟩ : ∃ R, syncF t00 t01 t02 = R := ⟨_, rfl⟩
  obtain ⟨R2, hR2⟩ : ∃ R, R1 = R := ⟨_, rfl⟩
  obtain ⟨R3, hR3⟩ : ∃ R, ([] : List OpV) = R := ⟨_, rfl⟩
  obtain ⟨N1, hN1⟩ : ∃ N, R1.length = N := ⟨_, rfl⟩
  obtain ⟨N2, hN2⟩ : ∃ N, R2.length = N := ⟨_, rfl⟩
  obtain ⟨N3, hN3⟩ : ∃ N, R3.length = N := ⟨_, rfl⟩
  rw [hR1] at C1 C2 hmost
  have rl : N1 ≤ 1048576 ∧ N2 ≤ 1048576 ∧ N3 ≤ 1048576 := by subst hR2 hR3; simp only [List.length_nil] at hN3; omega
  have HN : Hid (R1.length = N1 ∧ R2.length = N2 ∧ R3.length = N3) := Lib.hid ⟨hN1, hN2, hN3⟩
  have HRM : Hid (SmAllPrFi R1 ∧ SmAllPrFi R2 ∧ SmAllOp R3) := Lib.hid ⟨hmost.2, hR2 ▸ hmost.2, hR3 ▸ fun t ht => by cases ht⟩
  have HC1 : Hid (∀ x0 y0 x1 y1 x2 y2 W, IsDk W x0 x1 x2 n00 n01 n02 y0 y1 y2 t00 t01 t02 → Calls Try.prog 32 #[.agg #[.slice x0 n00 y0, .slice x1 n01 y1, .slice x2 n02 y2]] W fun e w' => ∃ a1 c1 a2 c2 a3 c3, e = .returned (.agg #[.slice a1 N1 c1, .slice a2 N2 c2, .slice a3 N3 c3]) ∧ Holds W.heap.size w'.heap.size w' (OwnDk W.heap.size w'.heap.size (.slice a1 N1 c1) (.slice a2 N2 c2) (.slice a3 N3 c3) R1 R2 R3) ∧ Below W.heap.size W w') := Lib.hid (fun x0 y0 x1 y1 x2 y2 W hi => (C1 x0 y0 x1 y1 x2 y2 W hi).mono fun e w' h => dk_shape (by subst hR2 hR3; exact h) hN1 hN2 hN3)
  have HC2 : Hid (∀ x0 y0 x1 y1 x2 y2 W, IsDk W x0 x1 x2 n00 n01 n02 y0 y1 y2 t00 t01 t02 → Calls Try.prog 16 #[.agg #[.slice x0 n00 y0, .slice x1 n01 y1, .slice x2 n02 y2]] W fun e w' => ∃ a1 c1 a2 c2 a3 c3, e = .returned (.agg #[.slice a1 N1 c1, .slice a2 N2 c2, .slice a3 N3 c3]) ∧ Holds W.heap.size w'.heap.size w' (OwnDk W.heap.size w'.heap.size (.slice a1 N1 c1) (.slice a2 N2 c2) (.slice a3 N3 c3) R1 R2 R3) ∧ Below W.heap.size W w') := Lib.hid (fun x0 y0 x1 y1 x2 y2 W hi => (C2 x0 y0 x1 y1 x2 y2 W hi).mono fun e w' h => dk_shape (by subst hR2 hR3; exact h) hN1 hN2 hN3)
  clear C1 C2 hmost hN1 hN2 hN3 hR1 hR2 hR3
  clear e0 f0
  obtain ⟨v0, u0, z0⟩ := A01.out.now.treDk
  go_wp2_with fail
  refine (exToDk a00 a01 a02 n00 n01 n02 c00 c01 c02 t00 t01 t02 _ (H0.out.next B1.out) l0 HL0.out).mono ?_
  rintro e w2 ⟨x00_S, y00_S, x01_S, y01_S, x02_S, y02_S, rfl, hh, hb⟩
  clear v0 u0 z0
  have B2 := Lib.hid (B1.out.trans (hb.mono B1.out.size))
  have A02 := Lib.hid (A01.out.next hb)
  clear B1 A01
  have Q0S2 := Lib.hid (hh)
  clear hb hh
  go_wp2_with fail
  have LEA0_S := Lib.hid A02.out.le
  have LEw_S := Lib.hid B2.out.size
  refine (HC1.out x00_S y00_S x01_S y01_S x02_S y02_S _ (Q0S2.out.now.readDk HM0.out HL0.out)).mono ?_
  rintro e w3 ⟨ras, rcs, rbs, rds, res, rfs, rfl, hh, hb⟩
  clear Q0S2
  have B3 := Lib.hid (B2.out.trans (hb.mono B2.out.size))
  have A03 := Lib.hid (A02.out.next hb)
  clear B2 A02
  have S3 := Lib.hid (hh)
  clear hb hh
  have B4 := Lib.hid (B3.out.alloc B3.out.size (.cells #[.slice ras N1 rcs, .slice rbs N2 rds, .slice res N3 rfs] 27))
  have A04 := Lib.hid (A03.out.alloc (.cells #[.slice ras N1 rcs, .slice rbs N2 rds, .slice res N3 rfs] 27))
  have S4 := Lib.hid (S3.out.alloc (.cells #[.slice ras N1 rcs, .slice rbs N2 rds, .slice res N3 rfs] 27))
  clear B3 A03 S3
  have KS4 := Lib.hid (cells_new w3 #[.slice ras N1 rcs, .slice rbs N2 rds, .slice res N3 rfs] 27)
  obtain ⟨v0, u0, z0⟩ := A04.out.now.treDk
  go_wp2_with fail
  have HZw4 := Lib.hid (show w3.heap.size ≤ ((w3.alloc (.cells #[.slice ras N1 rcs, .slice rbs N2 rds, .slice res N3 rfs] 27))).heap.size from by simp)
  generalize (w3.alloc (.cells #[.slice ras N1 rcs, .slice rbs N2 rds, .slice res N3 rfs] 27)) = w4 at B4 A04 S4 KS4 HZw4 ⊢
  have LEA0_X0 := Lib.hid A04.out.le
  have LES_X0 := Lib.hid S4.out.le
  have LEKS_X0 := Lib.hid KS4.out.le
  have LEw_X0 := Lib.hid B4.out.size
  refine (exToDk a00 a01 a02 n00 n01 n02 c00 c01 c02 t00 t01 t02 _ (H0.out.next B4.out) l0 HL0.out).mono ?_
  rintro e w5 ⟨x00_x, y00_x, x01_x, y01_x, x02_x, y02_x, rfl, hh, hb⟩
  clear v0 u0 z0
  have B5 := Lib.hid (B4.out.trans (hb.mono B4.out.size))
  have A05 := Lib.hid (A04.out.next hb)
  have S5 := Lib.hid (S4.out.next hb)
  have KS5 := Lib.hid (KS4.out.next hb)
  clear B4 A04 S4 KS4
  have X05 := Lib.hid (hh)
  clear hb hh
  have LEA0_KX0 := Lib.hid A05.out.le
  have LES_KX0 := Lib.hid S5.out.le
  have LEKS_KX0 := Lib.hid KS5.out.le
  have LEX0_KX0 := Lib.hid X05.out.le
  have B6 := Lib.hid (B5.out.alloc B5.out.size (.cells #[.slice x00_x n00 y00_x, .slice x01_x n01 y01_x, .slice x02_x n02 y02_x] 27))
  have A06 := Lib.hid (A05.out.alloc (.cells #[.slice x00_x n00 y00_x, .slice x01_x n01 y01_x, .slice x02_x n02 y02_x] 27))
  have S6 := Lib.hid (S5.out.alloc (.cells #[.slice x00_x n00 y00_x, .slice x01_x n01 y01_x, .slice x02_x n02 y02_x] 27))
  have KS6 := Lib.hid (KS5.out.alloc (.cells #[.slice x00_x n00 y00_x, .slice x01_x n01 y01_x, .slice x02_x n02 y02_x] 27))
  have X06 := Lib.hid (X05.out.alloc (.cells #[.slice x00_x n00 y00_x, .slice x01_x n01 y01_x, .slice x02_x n02 y02_x] 27))
  clear B5 A05 S5 KS5 X05
  have KX06 := Lib.hid (cells_new w5 #[.slice x00_x n00 y00_x, .slice x01_x n01 y01_x, .slice x02_x n02 y02_x] 27)
  obtain ⟨v0, u0, z0⟩ := KX06.out.now.treDk
  go_wp2_with fail
  have HZw6 := Lib.hid (show w5.heap.size ≤ ((w5.alloc (.cells #[.slice x00_x n00 y00_x, .slice x01_x n01 y01_x, .slice x02_x n02 y02_x] 27))).heap.size from by simp)
  generalize (w5.alloc (.cells #[.slice x00_x n00 y00_x, .slice x01_x n01 y01_x, .slice x02_x n02 y02_x] 27)) = w6 at B6 A06 S6 KS6 X06 KX06 HZw6 ⊢
  have LEA0_G := Lib.hid A06.out.le
  have LES_G := Lib.hid S6.out.le
  have LEKS_G := Lib.hid KS6.out.le
  have LEX0_G := Lib.hid X06.out.le
  have LEKX0_G := Lib.hid KX06.out.le
  have LEw_G := Lib.hid B6.out.size
  refine (HC2.out x00_x y00_x x01_x y01_x x02_x y02_x _ (X06.out.now.readDk HM0.out HL0.out)).mono ?_
  rintro e w7 ⟨rag, rcg, rbg, rdg, reg, rfg, rfl, hh, hb⟩
  clear v0 u0 z0
  have B7 := Lib.hid (B6.out.trans (hb.mono B6.out.size))
  have A07 := Lib.hid (A06.out.next hb)
  have S7 := Lib.hid (S6.out.next hb)
  have KS7 := Lib.hid (KS6.out.next hb)
  have X07 := Lib.hid (X06.out.next hb)
  have KX07 := Lib.hid (KX06.out.next hb)
  clear B6 A06 S6 KS6 X06 KX06
  have G7 := Lib.hid (hh)
  clear hb hh
  have LEA0_KG := Lib.hid A07.out.le
  have LES_KG := Lib.hid S7.out.le
  have LEKS_KG := Lib.hid KS7.out.le
  have LEX0_KG := Lib.hid X07.out.le
  have LEKX0_KG := Lib.hid KX07.out.le
  have LEG_KG := Lib.hid G7.out.le
  have B8 := Lib.hid (B7.out.alloc B7.out.size (.cells #[.slice rag N1 rcg, .slice rbg N2 rdg, .slice reg N3 rfg] 27))
  have A08 := Lib.hid (A07.out.alloc (.cells #[.slice rag N1 rcg, .slice rbg N2 rdg, .slice reg N3 rfg] 27))
  have S8 := Lib.hid (S7.out.alloc (.cells #[.slice rag N1 rcg, .slice rbg N2 rdg, .slice reg N3 rfg] 27))
  have KS8 := Lib.hid (KS7.out.alloc (.cells #[.slice rag N1 rcg, .slice rbg N2 rdg, .slice reg N3 rfg] 27))
  have X08 := Lib.hid (X07.out.alloc (.cells #[.slice rag N1 rcg, .slice rbg N2 rdg, .slice reg N3 rfg] 27))
  have KX08 := Lib.hid (KX07.out.alloc (.cells #[.slice rag N1 rcg, .slice rbg N2 rdg, .slice reg N3 rfg] 27))
  have G8 := Lib.hid (G7.out.alloc (.cells #[.slice rag N1 rcg, .slice rbg N2 rdg, .slice reg N3 rfg] 27))
  clear B7 A07 S7 KS7 X07 KX07 G7
  have KG8 := Lib.hid (cells_new w7 #[.slice rag N1 rcg, .slice rbg N2 rdg, .slice reg N3 rfg] 27)
  obtain ⟨v0, u0, z0⟩ := KG8.out.now.treDk
  obtain ⟨v1, u1, z1⟩ := KS8.out.now.treDk
  go_wp2_with fail
  have HZw8 := Lib.hid (show w7.heap.size ≤ ((w7.alloc (.cells #[.slice rag N1 rcg, .slice rbg N2 rdg, .slice reg N3 rfg] 27))).heap.size from by simp)
  generalize (w7.alloc (.cells #[.slice rag N1 rcg, .slice rbg N2 rdg, .slice reg N3 rfg] 27)) = w8 at B8 A08 S8 KS8 X08 KX08 G8 KG8 HZw8 ⊢
  refine (eqDk rag rbg reg ras rbs res N1 N2 N3 rcg rdg rfg rcs rds rfs R1 R2 R3 _ (G8.out.now.readDk HRM.out HN.out) (S8.out.now.readDk HRM.out HN.out) rl).mono ?_
  rintro e w9 ⟨rfl, hb⟩
  clear v0 u0 z0 v1 u1 z1
  have B9 := Lib.hid (B8.out.trans (hb.mono B8.out.size))
  have A09 := Lib.hid (A08.out.next hb)
  have S9 := Lib.hid (S8.out.next hb)
  have KS9 := Lib.hid (KS8.out.next hb)
  have X09 := Lib.hid (X08.out.next hb)
  have KX09 := Lib.hid (KX08.out.next hb)
  have G9 := Lib.hid (G8.out.next hb)
  have KG9 := Lib.hid (KG8.out.next hb)
  clear B8 A08 S8 KS8 X08 KX08 G8 KG8
  clear hb
  go_wp2_with fail
  have B10 := Lib.hid B9.out.drew
  have A010 := Lib.hid A09.out.drew
  have S10 := Lib.hid S9.out.drew
  have KS10 := Lib.hid KS9.out.drew
  have X010 := Lib.hid X09.out.drew
  have KX010 := Lib.hid KX09.out.drew
  have G10 := Lib.hid G9.out.drew
  have KG10 := Lib.hid KG9.out.drew
  clear B9 A09 S9 KS9 X09 KX09 G9 KG9
  go_region_held3 (fun w' => (w'.cell? ⟨w5.heap.size, 0, none⟩ = some (.slice x00_x n00 y00_x) ∧ w'.cell? ⟨w5.heap.size, 1, none⟩ = some (.slice x01_x n01 y01_x) ∧ w'.cell? ⟨w5.heap.size, 2, none⟩ = some (.slice x02_x n02 y02_x)) ∧ (w'.cell? ⟨w.heap.size, 0, none⟩ = some (.slice a00 n00 c00) ∧ w'.cell? ⟨w.heap.size, 1, none⟩ = some (.slice a01 n01 c01) ∧ w'.cell? ⟨w.heap.size, 2, none⟩ = some (.slice a02 n02 c02)))
    (first | with_reducible exact ⟨KX012.out.now.treDk, A012.out.now.treDk⟩ | with_reducible exact ⟨KX011.out.now.treDk, A011.out.now.treDk⟩ | with_reducible exact ⟨KX010.out.now.treDk, A010.out.now.treDk⟩)
    (first | (go_at_call 27; refine (eqDk x00_x x01_x x02_x x00_e x01_e x02_e n00 n01 n02 y00_x y01_x y02_x y00_e y01_e y02_e t00 t01 t02 _ (X011.out.now.readDk HM0.out HL0.out) (E011.out.now.readDk HM0.out HL0.out) l0).mono ?_; rintro e w11 ⟨rfl, hb⟩; clear E011; have B12 := Lib.hid (B11.out.trans (hb.mono B11.out.size)); have A012 := Lib.hid (A011.out.next hb); have S12 := Lib.hid (S11.out.next hb); have KS12 := Lib.hid (KS11.out.next hb); have X012 := Lib.hid (X011.out.next hb); have KX012 := Lib.hid (KX011.out.next hb); have G12 := Lib.hid (G11.out.next hb); have KG12 := Lib.hid (KG11.out.next hb); clear B11 A011 S11 KS11 X011 KX011 G11 KG11; clear hb) | (go_at_call 26; refine (exToDk a00 a01 a02 n00 n01 n02 c00 c01 c02 t00 t01 t02 _ (H0.out.next B10.out) l0 HL0.out).mono ?_; rintro e w10 ⟨x00_e, y00_e, x01_e, y01_e, x02_e, y02_e, rfl, hh, hb⟩; have B11 := Lib.hid (B10.out.trans (hb.mono B10.out.size)); have A011 := Lib.hid (A010.out.next hb); have S11 := Lib.hid (S10.out.next hb); have KS11 := Lib.hid (KS10.out.next hb); have X011 := Lib.hid (X010.out.next hb); have KX011 := Lib.hid (KX010.out.next hb); have G11 := Lib.hid (G10.out.next hb); have KG11 := Lib.hid (KG10.out.next hb); clear B10 A010 S10 KS10 X010 KX010 G10 KG10; have E011 := Lib.hid (hh); clear hb hh))
  obtain ⟨v0, u0, z0⟩ := KX012.out.now.treDk
  go_wp2_with fail
  obtain ⟨q0, hq0⟩ : ∃ q : Nat, 1 + (2 * n00 + 2 * n01 + 4 * n02) = q := ⟨_, rfl⟩
  have MK := exMarkDk X012.out l0 HL0.out 1 (by omega) (by omega)
  rw [hq0] at MK
  have b0 : 0 < q0 ∧ q0 ≤ 9000000 := by have := l0; omega
  clear hq0
  refine (MK).mono ?_
  rintro e w12 ⟨rfl, hh, ht⟩
  have B13 := Lib.hid (B12.out.trans (ht.below B12.out.size LEw_X0.out))
  have A013 := Lib.hid (A012.out.step ht (.inl LEA0_X0.out))
  have S13 := Lib.hid (S12.out.step ht (.inl LES_X0.out))
  have KS13 := Lib.hid (KS12.out.step ht (.inl LEKS_X0.out))
  have X013 := Lib.hid hh
  have KX013 := Lib.hid (KX012.out.step ht (.inr LEX0_KX0.out))
  have G13 := Lib.hid (G12.out.step ht (.inr LEX0_G.out))
  have KG13 := Lib.hid (KG12.out.step ht (.inr LEX0_KG.out))
  clear hh ht
  clear v0 u0 z0 MK
  clear X013
  have nk : ¬ (q0 : Int) < 0 := by omega
  obtain ⟨v0, u0, z0⟩ := KG13.out.now.treDk
  obtain ⟨v1, u1, z1⟩ := KS13.out.now.treDk
  go_wp2_with fail
  refine (eqDk rag rbg reg ras rbs res N1 N2 N3 rcg rdg rfg rcs rds rfs R1 R2 R3 _ (G13.out.now.readDk HRM.out HN.out) (S13.out.now.readDk HRM.out HN.out) rl).mono ?_
  rintro e w13 ⟨rfl, hb⟩
  clear v0 u0 z0 v1 u1 z1
  have B14 := Lib.hid (B13.out.trans (hb.mono B13.out.size))
  have A014 := Lib.hid (A013.out.next hb)
  have S14 := Lib.hid (S13.out.next hb)
  have KS14 := Lib.hid (KS13.out.next hb)
  have KX014 := Lib.hid (KX013.out.next hb)
  have G14 := Lib.hid (G13.out.next hb)
  have KG14 := Lib.hid (KG13.out.next hb)
  clear B13 A013 S13 KS13 KX013 G13 KG13
  clear hb
  obtain ⟨v0, u0, z0⟩ := KG14.out.now.treDk
  go_wp2_with fail
  obtain ⟨qq, hqq⟩ : ∃ q : Nat, 1 + (2 * N1 + 2 * N2 + 4 * N3) = q := ⟨_, rfl⟩
  have MK := exMarkDk G14.out rl HN.out 1 (by omega) (by omega)
  rw [hqq] at MK
  have HQQ := Lib.hid hqq
  have nq : ¬ (qq : Int) < 0 := by omega
  clear hqq
  refine (MK).mono ?_
  rintro e w14 ⟨rfl, hh, ht⟩
  have B15 := Lib.hid (B14.out.trans (ht.below B14.out.size LEw_G.out))
  have A015 := Lib.hid (A014.out.step ht (.inl LEA0_G.out))
  have S15 := Lib.hid (S14.out.step ht (.inl LES_G.out))
  have KS15 := Lib.hid (KS14.out.step ht (.inl LEKS_G.out))
  have KX015 := Lib.hid (KX014.out.step ht (.inl LEKX0_G.out))
  have G15 := Lib.hid hh
  have KG15 := Lib.hid (KG14.out.step ht (.inr LEG_KG.out))
  clear hh ht
  clear v0 u0 z0 MK
  obtain ⟨v0, u0, z0⟩ := KG15.out.now.treDk
  go_wp2_with fail
  have HD := exHeldDk G15.out rl (by omega) (by omega)
  rw [HQQ.out] at HD
  refine HD.mono ?_
  rintro e w15 ⟨rfl, hb⟩
  clear v0 u0 z0 HD
  have B16 := Lib.hid (B15.out.trans (hb.mono B15.out.size))
  have A016 := Lib.hid (A015.out.next hb)
  have S16 := Lib.hid (S15.out.next hb)
  have KS16 := Lib.hid (KS15.out.next hb)
  have KX016 := Lib.hid (KX015.out.next hb)
  have G16 := Lib.hid (G15.out.next hb)
  have KG16 := Lib.hid (KG15.out.next hb)
  clear B15 A015 S15 KS15 KX015 G15 KG15
  clear hb
  obtain ⟨v0, u0, z0⟩ := A016.out.now.treDk
  go_wp2_with fail
  refine (exToDk a00 a01 a02 n00 n01 n02 c00 c01 c02 t00 t01 t02 _ (H0.out.next B16.out) l0 HL0.out).mono ?_
  rintro e w16 ⟨x00_H, y00_H, x01_H, y01_H, x02_H, y02_H, rfl, hh, hb⟩
  clear v0 u0 z0
  have B17 := Lib.hid (B16.out.trans (hb.mono B16.out.size))
  have A017 := Lib.hid (A016.out.next hb)
  have S17 := Lib.hid (S16.out.next hb)
  have KS17 := Lib.hid (KS16.out.next hb)
  have KX017 := Lib.hid (KX016.out.next hb)
  have G17 := Lib.hid (G16.out.next hb)
  have KG17 := Lib.hid (KG16.out.next hb)
  clear B16 A016 S16 KS16 KX016 G16 KG16
  have Q0H17 := Lib.hid (hh)
  clear hb hh
  go_wp2_with fail
  have LEA0_H := Lib.hid A017.out.le
  have LES_H := Lib.hid S17.out.le
  have LEKS_H := Lib.hid KS17.out.le
  have LEKX0_H := Lib.hid KX017.out.le
  have LEG_H := Lib.hid G17.out.le
  have LEKG_H := Lib.hid KG17.out.le
  have LEw_H := Lib.hid B17.out.size
  refine (HC2.out x00_H y00_H x01_H y01_H x02_H y02_H _ (Q0H17.out.now.readDk HM0.out HL0.out)).mono ?_
  rintro e w17 ⟨rah, rch, rbh, rdh, reh, rfh, rfl, hh, hb⟩
  clear Q0H17
  have B18 := Lib.hid (B17.out.trans (hb.mono B17.out.size))
  have A018 := Lib.hid (A017.out.next hb)
  have S18 := Lib.hid (S17.out.next hb)
  have KS18 := Lib.hid (KS17.out.next hb)
  have KX018 := Lib.hid (KX017.out.next hb)
  have G18 := Lib.hid (G17.out.next hb)
  have KG18 := Lib.hid (KG17.out.next hb)
  clear B17 A017 S17 KS17 KX017 G17 KG17
  have H18 := Lib.hid (hh)
  clear hb hh
  have B19 := Lib.hid (B18.out.alloc B18.out.size (.cells #[.slice rah N1 rch, .slice rbh N2 rdh, .slice reh N3 rfh] 27))
  have A019 := Lib.hid (A018.out.alloc (.cells #[.slice rah N1 rch, .slice rbh N2 rdh, .slice reh N3 rfh] 27))
  have S19 := Lib.hid (S18.out.alloc (.cells #[.slice rah N1 rch, .slice rbh N2 rdh, .slice reh N3 rfh] 27))
  have KS19 := Lib.hid (KS18.out.alloc (.cells #[.slice rah N1 rch, .slice rbh N2 rdh, .slice reh N3 rfh] 27))
  have KX019 := Lib.hid (KX018.out.alloc (.cells #[.slice rah N1 rch, .slice rbh N2 rdh, .slice reh N3 rfh] 27))
  have G19 := Lib.hid (G18.out.alloc (.cells #[.slice rah N1 rch, .slice rbh N2 rdh, .slice reh N3 rfh] 27))
  have KG19 := Lib.hid (KG18.out.alloc (.cells #[.slice rah N1 rch, .slice rbh N2 rdh, .slice reh N3 rfh] 27))
  have H19 := Lib.hid (H18.out.alloc (.cells #[.slice rah N1 rch, .slice rbh N2 rdh, .slice reh N3 rfh] 27))
  clear B18 A018 S18 KS18 KX018 G18 KG18 H18
  have KH19 := Lib.hid (cells_new w17 #[.slice rah N1 rch, .slice rbh N2 rdh, .slice reh N3 rfh] 27)
  obtain ⟨v0, u0, z0⟩ := KH19.out.now.treDk
  obtain ⟨v1, u1, z1⟩ := KS19.out.now.treDk
  go_wp2_with fail
  have HZw18 := Lib.hid (show w17.heap.size ≤ ((w17.alloc (.cells #[.slice rah N1 rch, .slice rbh N2 rdh, .slice reh N3 rfh] 27))).heap.size from by simp)
  generalize (w17.alloc (.cells #[.slice rah N1 rch, .slice rbh N2 rdh, .slice reh N3 rfh] 27)) = w18 at B19 A019 S19 KS19 KX019 G19 KG19 H19 KH19 HZw18 ⊢
  refine (eqDk rah rbh reh ras rbs res N1 N2 N3 rch rdh rfh rcs rds rfs R1 R2 R3 _ (H19.out.now.readDk HRM.out HN.out) (S19.out.now.readDk HRM.out HN.out) rl).mono ?_
  rintro e w19 ⟨rfl, hb⟩
  clear v0 u0 z0 v1 u1 z1
  have B20 := Lib.hid (B19.out.trans (hb.mono B19.out.size))
  have A020 := Lib.hid (A019.out.next hb)
  have S20 := Lib.hid (S19.out.next hb)
  have KS20 := Lib.hid (KS19.out.next hb)
  have KX020 := Lib.hid (KX019.out.next hb)
  have G20 := Lib.hid (G19.out.next hb)
  have KG20 := Lib.hid (KG19.out.next hb)
  have H20 := Lib.hid (H19.out.next hb)
  have KH20 := Lib.hid (KH19.out.next hb)
  clear B19 A019 S19 KS19 KX019 G19 KG19 H19 KH19
  clear hb
  clear H20
  clear KH20
  obtain ⟨v0, u0, z0⟩ := KG20.out.now.treDk
  go_wp2_with fail
  have HD := exHeldDk G20.out rl (by omega) (by omega)
  rw [HQQ.out] at HD
  refine HD.mono ?_
  rintro e w20 ⟨rfl, hb⟩
  clear v0 u0 z0 HD
  have B21 := Lib.hid (B20.out.trans (hb.mono B20.out.size))
  have A021 := Lib.hid (A020.out.next hb)
  have S21 := Lib.hid (S20.out.next hb)
  have KS21 := Lib.hid (KS20.out.next hb)
  have KX021 := Lib.hid (KX020.out.next hb)
  have G21 := Lib.hid (G20.out.next hb)
  have KG21 := Lib.hid (KG20.out.next hb)
  clear B20 A020 S20 KS20 KX020 G20 KG20
  clear hb
  go_wp2_with fail
  go_ret
  exact ⟨rfl, B21.out⟩
end fnExactSync
end Go.Proofs.Ytamnlifdfhmbnaa
