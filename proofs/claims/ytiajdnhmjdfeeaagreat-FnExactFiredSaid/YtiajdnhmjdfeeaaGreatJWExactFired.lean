/- The walk of FnExactFired. -/
import Derived.Test.YtiajdnhmjdfeeaaGreatG00
import Derived.Test.YtiajdnhmjdfeeaaGreatG43
import Derived.Test.YtiajdnhmjdfeeaaGreatG44
import Derived.Test.YtiajdnhmjdfeeaaGreatG10
import Derived.Test.YtiajdnhmjdfeeaaGreatG03
import Derived.Deep.RegionHeld3
namespace Go.Proofs.YtiajdnhmjdfeeaaGreat
open Go.RowKit Go.WideShapes
namespace fnExactFired
set_option maxRecDepth 100000 in
set_option maxHeartbeats 6400000 in
theorem walk (a0 : Option Addr) (n0 c0 : Nat) (t0 : List Tri3) (a1 : Option Addr) (n1 c1 : Nat) (t1 : List Tri3) (s1 p1 o1 : ByteArray) (w : World) (h0 : IsTris w a0 n0 c0 t0) (h1 : IsTris w a1 n1 c1 t1) (hs1 : s1.size ≤ maxLen) (hp1 : p1.size ≤ maxLen) (ho1 : o1.size ≤ maxLen) :
    Calls Tryz.prog 6 #[.slice a0 n0 c0, .agg #[.slice a1 n1 c1, .string s1, .string p1, .string o1]] w fun e w' => e = .returned (.bool true) ∧ Below w.heap.size w w' := by
  obtain ⟨W1, hW1⟩ : ∃ W, w.alloc (.cells #[.slice a1 n1 c1, .string s1, .string p1, .string o1] 61) = W := ⟨_, rfl⟩
  have z1 : W1.heap.size = w.heap.size + 1 := by rw [← hW1]; simp
  have B0 : Hid (Below w.heap.size w W1) := Lib.hid (by rw [← hW1]; exact ((Below.refl w.heap.size w).alloc (Nat.le_refl _) _))
  have A10 : Hid (Holds (w.heap.size) (w.heap.size + 1) W1 (Cells (w.heap.size) #[.slice a1 n1 c1, .string s1, .string p1, .string o1] 61)) := Lib.hid (by
    have := (cells_new w #[.slice a1 n1 c1, .string s1, .string p1, .string o1] 61)
    rw [hW1] at this; exact this)
  have HW := Lib.hid (hW1)
  clear hW1 z1
  have H0 := Lib.hid h0
  have HL0 := Lib.hid h0.len
  have HM0 : Hid (SmAll t0) := Lib.hid h0.small
  have hm0 := tris_most h0
  clear h0
  have H1 := Lib.hid h1
  have HL1 := Lib.hid h1.len
  have HM1 : Hid (SmAll t1) := Lib.hid h1.small
  clear h1
  go_enter Tryz.func6, Tryz.ntmps6
  go_wp2_with fail
  rw [HW.out]
  refine (szTriS a0 n0 c0 t0 _ (H0.out.next B0.out) 1048576 (by omega) (by omega) hm0).mono ?_
  rintro e w1 ⟨g0, rfl, hg, hb⟩
  have B1 := Lib.hid (B0.out.trans (hb.mono B0.out.size))
  have A11 := Lib.hid (A10.out.next hb)
  clear B0 A10
  clear hb
  rcases hg with rfl | ⟨e0, f0, ps0⟩
  · go_wp2_with fail
    go_ret
    exact ⟨rfl, B1.out⟩
  have S0 : Hid (SmT t0) := Lib.hid (fun t ht => by have := ps0.2 t ht; omega)
  have l0 : n0 ≤ 1048576 := ps0.1
  clear ps0 hm0
  have d0 : ¬ g0 < 0 := by omega
  obtain ⟨v0, u0, z0, y0⟩ := A11.out.now.four
  go_wp2_with fail
  refine (exSzRu a1 n1 c1 t1 s1 p1 o1 _ (H1.out.next B1.out) hs1 hp1 ho1 g0 e0 (by omega)).mono ?_
  rintro e w2 ⟨g1, rfl, hg, hb⟩
  clear v0 u0 z0 y0
  have B2 := Lib.hid (B1.out.trans (hb.mono B1.out.size))
  have A12 := Lib.hid (A11.out.next hb)
  clear B1 A11
  clear hb
  rcases hg with rfl | ⟨e1, f1, ps1, qs1⟩
  · go_wp2_with fail
    go_ret
    exact ⟨rfl, B2.out⟩
  have S1 : Hid (SmT t1) := Lib.hid (fun t ht => by have := ps1.2 t ht; omega)
  have l1 : n1 ≤ 1048576 := ps1.1
  have Z1 : Hid (s1.size ≤ 1048576 ∧ p1.size ≤ 1048576 ∧ o1.size ≤ 1048576) := Lib.hid (by omega)
  clear ps1 qs1 hs1 hp1 ho1
  have d1 : ¬ g1 < 0 := by omega
  obtain ⟨N, hN⟩ : ∃ N, ((firedO t0 t1 (s1, p1, o1)).getD []).length = N := ⟨_, rfl⟩
  have C1 := fun x0 y0 x1 y1 W hi hq => (specFired x0 n0 y0 t0 x1 n1 y1 t1 s1 p1 o1 W hi hq S0.out S1.out l0 l1 Z1.out).mono fun e w' h => res_shapeF h hN
  have C2 := fun x0 y0 x1 y1 W hi hq => (implFired x0 n0 y0 t0 x1 n1 y1 t1 s1 p1 o1 W hi hq S0.out S1.out l0 l1 Z1.out).mono fun e w' h => res_shapeF h hN
  have hmost := firedO_most (h := (s1, p1, o1)) S0.out S1.out Z1.out
  rw [hN] at hmost
  generalize (firedO t0 t1 (s1, p1, o1)).getD [] = R at C1 C2 hN hmost
  generalize (firedO t0 t1 (s1, p1, o1)).isSome = bb at C1 C2
  have HN := Lib.hid hN
  have HRM : Hid (SmAll R) := Lib.hid hmost.2
  have rl : N ≤ 1048576 := by have := hmost.1; omega
  have HC1 := Lib.hid C1
  have HC2 := Lib.hid C2
  clear C1 C2 hmost hN
  clear e0 f0 e1 f1
  go_wp2_with fail
  have B3 := Lib.hid B2.out.drew
  have A13 := Lib.hid A12.out.drew
  clear B2 A12
  go_region_held3 (fun w' => (w'.cell? ⟨w.heap.size, 0, none⟩ = some (.slice a1 n1 c1) ∧ w'.cell? ⟨w.heap.size, 1, none⟩ = some (.string s1) ∧ w'.cell? ⟨w.heap.size, 2, none⟩ = some (.string p1) ∧ w'.cell? ⟨w.heap.size, 3, none⟩ = some (.string o1)))
    (first | with_reducible exact A16.out.now.four | with_reducible exact A15.out.now.four | with_reducible exact A14.out.now.four | with_reducible exact A13.out.now.four)
    (first | (go_at_call 33; have LEA1_S := Lib.hid A15.out.le; have LEw_S := Lib.hid B5.out.size; refine (HC1.out x0_S y0_S x1_S y1_S _ (Q0S5.out.now.read HM0.out HL0.out) (Q1S5.out.now.read HM1.out HL1.out)).mono ?_; rintro e w5 ⟨ras, rcs, rfl, hh, hb⟩; clear Q0S5; clear Q1S5; have B6 := Lib.hid (B5.out.trans (hb.mono B5.out.size)); have A16 := Lib.hid (A15.out.next hb); clear B5 A15; have S6 := Lib.hid (hh); clear hb hh) | (go_at_call 34; have ZZ := B4; clear ZZ; refine (exToRu a1 n1 c1 t1 s1 p1 o1 _ (H1.out.next B4.out) l1 HL1.out).mono ?_; rintro e w4 ⟨x1_S, y1_S, rfl, hh, hb⟩; have B5 := Lib.hid (B4.out.trans (hb.mono B4.out.size)); have A15 := Lib.hid (A14.out.next hb); have Q0S5 := Lib.hid (Q0S4.out.next hb); clear B4 A14 Q0S4; have Q1S5 := Lib.hid (hh); clear hb hh) | (go_at_call 11; have ZZ := B3; clear ZZ; refine (exTo a0 n0 c0 t0 _ (H0.out.next B3.out) l0 HL0.out).mono ?_; rintro e w3 ⟨x0_S, y0_S, rfl, hh, hb⟩; have B4 := Lib.hid (B3.out.trans (hb.mono B3.out.size)); have A14 := Lib.hid (A13.out.next hb); clear B3 A13; have Q0S4 := Lib.hid (hh); clear hb hh))
  go_wp2_with fail
  have LEA1_X0 := Lib.hid A16.out.le
  have LES_X0 := Lib.hid S6.out.le
  have LEw_X0 := Lib.hid B6.out.size
  refine (exTo a0 n0 c0 t0 _ (H0.out.next B6.out) l0 HL0.out).mono ?_
  rintro e w6 ⟨x0_x, y0_x, rfl, hh, hb⟩
  have B7 := Lib.hid (B6.out.trans (hb.mono B6.out.size))
  have A17 := Lib.hid (A16.out.next hb)
  have S7 := Lib.hid (S6.out.next hb)
  clear B6 A16 S6
  have X07 := Lib.hid (hh)
  clear hb hh
  obtain ⟨v0, u0, z0, y0⟩ := A17.out.now.four
  go_wp2_with fail
  have LEA1_X1 := Lib.hid A17.out.le
  have LES_X1 := Lib.hid S7.out.le
  have LEX0_X1 := Lib.hid X07.out.le
  have LEw_X1 := Lib.hid B7.out.size
  refine (exToRu a1 n1 c1 t1 s1 p1 o1 _ (H1.out.next B7.out) l1 HL1.out).mono ?_
  rintro e w7 ⟨x1_x, y1_x, rfl, hh, hb⟩
  clear v0 u0 z0 y0
  have B8 := Lib.hid (B7.out.trans (hb.mono B7.out.size))
  have A18 := Lib.hid (A17.out.next hb)
  have S8 := Lib.hid (S7.out.next hb)
  have X08 := Lib.hid (X07.out.next hb)
  clear B7 A17 S7 X07
  have X18 := Lib.hid (hh)
  clear hb hh
  have LEA1_KX1 := Lib.hid A18.out.le
  have LES_KX1 := Lib.hid S8.out.le
  have LEX0_KX1 := Lib.hid X08.out.le
  have LEX1_KX1 := Lib.hid X18.out.le
  have B9 := Lib.hid (B8.out.alloc B8.out.size (.cells #[.slice x1_x n1 y1_x, .string s1, .string p1, .string o1] 67))
  have A19 := Lib.hid (A18.out.alloc (.cells #[.slice x1_x n1 y1_x, .string s1, .string p1, .string o1] 67))
  have S9 := Lib.hid (S8.out.alloc (.cells #[.slice x1_x n1 y1_x, .string s1, .string p1, .string o1] 67))
  have X09 := Lib.hid (X08.out.alloc (.cells #[.slice x1_x n1 y1_x, .string s1, .string p1, .string o1] 67))
  have X19 := Lib.hid (X18.out.alloc (.cells #[.slice x1_x n1 y1_x, .string s1, .string p1, .string o1] 67))
  clear B8 A18 S8 X08 X18
  have KX19 := Lib.hid (cells_new w7 #[.slice x1_x n1 y1_x, .string s1, .string p1, .string o1] 67)
  obtain ⟨v0, u0, z0, y0⟩ := KX19.out.now.four
  go_wp2_with fail
  have HZw8 := Lib.hid (show w7.heap.size ≤ ((w7.alloc (.cells #[.slice x1_x n1 y1_x, .string s1, .string p1, .string o1] 67))).heap.size from by simp)
  generalize (w7.alloc (.cells #[.slice x1_x n1 y1_x, .string s1, .string p1, .string o1] 67)) = w8 at B9 A19 S9 X09 X19 KX19 HZw8 ⊢
  have LEA1_G := Lib.hid A19.out.le
  have LES_G := Lib.hid S9.out.le
  have LEX0_G := Lib.hid X09.out.le
  have LEX1_G := Lib.hid X19.out.le
  have LEKX1_G := Lib.hid KX19.out.le
  have LEw_G := Lib.hid B9.out.size
  refine (HC2.out x0_x y0_x x1_x y1_x _ (X09.out.now.read HM0.out HL0.out) (X19.out.now.read HM1.out HL1.out)).mono ?_
  rintro e w9 ⟨rag, rcg, rfl, hh, hb⟩
  clear v0 u0 z0 y0
  have B10 := Lib.hid (B9.out.trans (hb.mono B9.out.size))
  have A110 := Lib.hid (A19.out.next hb)
  have S10 := Lib.hid (S9.out.next hb)
  have X010 := Lib.hid (X09.out.next hb)
  have X110 := Lib.hid (X19.out.next hb)
  have KX110 := Lib.hid (KX19.out.next hb)
  clear B9 A19 S9 X09 X19 KX19
  have G10 := Lib.hid (hh)
  clear hb hh
  go_wp2_with fail
  refine (eqTriS rag ras N rcg N rcs R _ (G10.out.now.read HRM.out HN.out) (S10.out.now.read HRM.out HN.out) rl).mono ?_
  rintro e w10 ⟨rfl, hb⟩
  have B11 := Lib.hid (B10.out.trans (hb.mono B10.out.size))
  have A111 := Lib.hid (A110.out.next hb)
  have S11 := Lib.hid (S10.out.next hb)
  have X011 := Lib.hid (X010.out.next hb)
  have X111 := Lib.hid (X110.out.next hb)
  have KX111 := Lib.hid (KX110.out.next hb)
  have G11 := Lib.hid (G10.out.next hb)
  clear B10 A110 S10 X010 X110 KX110 G10
  clear hb
  obtain ⟨bf, hbf⟩ : ∃ q : Bool, q = bb := ⟨_, rfl⟩
  have HBF := Lib.hid hbf
  clear hbf
  cases bb
  all_goals
    go_wp2_with fail
    refine (exTo a0 n0 c0 t0 _ (H0.out.next B11.out) l0 HL0.out).mono ?_
    rintro e w11 ⟨x0_e, y0_e, rfl, hh, hb⟩
    have B12 := Lib.hid (B11.out.trans (hb.mono B11.out.size))
    have A112 := Lib.hid (A111.out.next hb)
    have S12 := Lib.hid (S11.out.next hb)
    have X012 := Lib.hid (X011.out.next hb)
    have X112 := Lib.hid (X111.out.next hb)
    have KX112 := Lib.hid (KX111.out.next hb)
    have G12 := Lib.hid (G11.out.next hb)
    clear B11 A111 S11 X011 X111 KX111 G11
    have E012 := Lib.hid (hh)
    clear hb hh
    go_wp2_with fail
    refine (eqTriS x0_x x0_e n0 y0_x n0 y0_e t0 _ (X012.out.now.read HM0.out HL0.out) (E012.out.now.read HM0.out HL0.out) l0).mono ?_
    rintro e w12 ⟨rfl, hb⟩
    clear E012
    have B13 := Lib.hid (B12.out.trans (hb.mono B12.out.size))
    have A113 := Lib.hid (A112.out.next hb)
    have S13 := Lib.hid (S12.out.next hb)
    have X013 := Lib.hid (X012.out.next hb)
    have X113 := Lib.hid (X112.out.next hb)
    have KX113 := Lib.hid (KX112.out.next hb)
    have G13 := Lib.hid (G12.out.next hb)
    clear B12 A112 S12 X012 X112 KX112 G12
    clear hb
    go_wp2_with fail
    have B14 := Lib.hid B13.out.drew
    have A114 := Lib.hid A113.out.drew
    have S14 := Lib.hid S13.out.drew
    have X014 := Lib.hid X013.out.drew
    have X114 := Lib.hid X113.out.drew
    have KX114 := Lib.hid KX113.out.drew
    have G14 := Lib.hid G13.out.drew
    clear B13 A113 S13 X013 X113 KX113 G13
    go_region_held3 (fun w' => (w'.cell? ⟨w7.heap.size, 0, none⟩ = some (.slice x1_x n1 y1_x) ∧ w'.cell? ⟨w7.heap.size, 1, none⟩ = some (.string s1) ∧ w'.cell? ⟨w7.heap.size, 2, none⟩ = some (.string p1) ∧ w'.cell? ⟨w7.heap.size, 3, none⟩ = some (.string o1)) ∧ (w'.cell? ⟨w.heap.size, 0, none⟩ = some (.slice a1 n1 c1) ∧ w'.cell? ⟨w.heap.size, 1, none⟩ = some (.string s1) ∧ w'.cell? ⟨w.heap.size, 2, none⟩ = some (.string p1) ∧ w'.cell? ⟨w.heap.size, 3, none⟩ = some (.string o1)))
      (first | with_reducible exact ⟨KX116.out.now.four, A116.out.now.four⟩ | with_reducible exact ⟨KX115.out.now.four, A115.out.now.four⟩ | with_reducible exact ⟨KX114.out.now.four, A114.out.now.four⟩)
      (first | (go_at_call 36; refine (eqRule x1_x x1_e n1 y1_x y1_e t1 s1 p1 o1 _ (X115.out.now.read HM1.out HL1.out) (E115.out.now.read HM1.out HL1.out) l1).mono ?_; rintro e w14 ⟨rfl, hb⟩; clear E115; have B16 := Lib.hid (B15.out.trans (hb.mono B15.out.size)); have A116 := Lib.hid (A115.out.next hb); have S16 := Lib.hid (S15.out.next hb); have X016 := Lib.hid (X015.out.next hb); have X116 := Lib.hid (X115.out.next hb); have KX116 := Lib.hid (KX115.out.next hb); have G16 := Lib.hid (G15.out.next hb); clear B15 A115 S15 X015 X115 KX115 G15; clear hb) | (go_at_call 34; refine (exToRu a1 n1 c1 t1 s1 p1 o1 _ (H1.out.next B14.out) l1 HL1.out).mono ?_; rintro e w13 ⟨x1_e, y1_e, rfl, hh, hb⟩; have B15 := Lib.hid (B14.out.trans (hb.mono B14.out.size)); have A115 := Lib.hid (A114.out.next hb); have S15 := Lib.hid (S14.out.next hb); have X015 := Lib.hid (X014.out.next hb); have X115 := Lib.hid (X114.out.next hb); have KX115 := Lib.hid (KX114.out.next hb); have G15 := Lib.hid (G14.out.next hb); clear B14 A114 S14 X014 X114 KX114 G14; have E115 := Lib.hid (hh); clear hb hh))
    go_wp2_with fail
    obtain ⟨q0, hq0⟩ : ∃ q : Nat, 1 + 3 * n0 = q := ⟨_, rfl⟩
    have MK := exMark X016.out l0 HL0.out 1 (by omega) (by omega)
    rw [hq0] at MK
    have b0 : 0 < q0 ∧ q0 ≤ 4000000 := by have := l0; omega
    clear hq0
    refine (MK).mono ?_
    rintro e w15 ⟨rfl, hh, ht⟩
    have B17 := Lib.hid (B16.out.trans (ht.below B16.out.size LEw_X0.out))
    have A117 := Lib.hid (A116.out.step ht (.inl LEA1_X0.out))
    have S17 := Lib.hid (S16.out.step ht (.inl LES_X0.out))
    have X017 := Lib.hid hh
    have X117 := Lib.hid (X116.out.step ht (.inr LEX0_X1.out))
    have KX117 := Lib.hid (KX116.out.step ht (.inr LEX0_KX1.out))
    have G17 := Lib.hid (G16.out.step ht (.inr LEX0_G.out))
    clear hh ht
    clear MK
    clear X017
    obtain ⟨v0, u0, z0, y0⟩ := KX117.out.now.four
    go_wp2_with fail
    obtain ⟨q1, hq1⟩ : ∃ q : Nat, q0 + 3 * n1 = q := ⟨_, rfl⟩
    have MK := exMarkRu X117.out l1 HL1.out s1 p1 o1 q0 (by omega) (by omega)
    rw [hq1] at MK
    have b1 : 0 < q1 ∧ q1 ≤ 18000000 := by have := l1; omega
    clear hq1
    refine (MK).mono ?_
    rintro e w16 ⟨rfl, hh, ht⟩
    have B18 := Lib.hid (B17.out.trans (ht.below B17.out.size LEw_X1.out))
    have A118 := Lib.hid (A117.out.step ht (.inl LEA1_X1.out))
    have S18 := Lib.hid (S17.out.step ht (.inl LES_X1.out))
    have X118 := Lib.hid hh
    have KX118 := Lib.hid (KX117.out.step ht (.inr LEX1_KX1.out))
    have G18 := Lib.hid (G17.out.step ht (.inr LEX1_G.out))
    clear hh ht
    clear v0 u0 z0 y0 MK
    clear X118
    have nk : ¬ (q1 : Int) < 0 := by omega
    go_wp2_with fail
    refine (eqTriS rag ras N rcg N rcs R _ (G18.out.now.read HRM.out HN.out) (S18.out.now.read HRM.out HN.out) rl).mono ?_
    rintro e w17 ⟨rfl, hb⟩
    have B19 := Lib.hid (B18.out.trans (hb.mono B18.out.size))
    have A119 := Lib.hid (A118.out.next hb)
    have S19 := Lib.hid (S18.out.next hb)
    have KX119 := Lib.hid (KX118.out.next hb)
    have G19 := Lib.hid (G18.out.next hb)
    clear B18 A118 S18 KX118 G18
    clear hb
    go_wp2_with fail
    obtain ⟨qq, hqq⟩ : ∃ q : Nat, 1 + 3 * N = q := ⟨_, rfl⟩
    have MK := exMark G19.out rl HN.out 1 (by omega) (by omega)
    rw [hqq] at MK
    have HQQ := Lib.hid hqq
    have nq : ¬ (qq : Int) < 0 := by omega
    clear hqq
    refine (MK).mono ?_
    rintro e w18 ⟨rfl, hh, ht⟩
    have B20 := Lib.hid (B19.out.trans (ht.below B19.out.size LEw_G.out))
    have A120 := Lib.hid (A119.out.step ht (.inl LEA1_G.out))
    have S20 := Lib.hid (S19.out.step ht (.inl LES_G.out))
    have KX120 := Lib.hid (KX119.out.step ht (.inl LEKX1_G.out))
    have G20 := Lib.hid hh
    clear hh ht
    clear MK
    go_wp2_with fail
    have HD := exHeld G20.out rl (by omega) (by omega)
    rw [HQQ.out] at HD
    refine HD.mono ?_
    rintro e w19 ⟨rfl, hb⟩
    clear HD
    have B21 := Lib.hid (B20.out.trans (hb.mono B20.out.size))
    have A121 := Lib.hid (A120.out.next hb)
    have S21 := Lib.hid (S20.out.next hb)
    have KX121 := Lib.hid (KX120.out.next hb)
    have G21 := Lib.hid (G20.out.next hb)
    clear B20 A120 S20 KX120 G20
    clear hb
    go_wp2_with fail
    have B22 := Lib.hid B21.out.drew
    have A122 := Lib.hid A121.out.drew
    have S22 := Lib.hid S21.out.drew
    have KX122 := Lib.hid KX121.out.drew
    have G22 := Lib.hid G21.out.drew
    clear B21 A121 S21 KX121 G21
    go_region_held3 (fun w' => (w'.cell? ⟨w.heap.size, 0, none⟩ = some (.slice a1 n1 c1) ∧ w'.cell? ⟨w.heap.size, 1, none⟩ = some (.string s1) ∧ w'.cell? ⟨w.heap.size, 2, none⟩ = some (.string p1) ∧ w'.cell? ⟨w.heap.size, 3, none⟩ = some (.string o1)))
      (first | with_reducible exact A125.out.now.four | with_reducible exact A124.out.now.four | with_reducible exact A123.out.now.four | with_reducible exact A122.out.now.four)
      (first | (go_at_call 35; have LEA1_H := Lib.hid A124.out.le; have LES_H := Lib.hid S24.out.le; have LEKX1_H := Lib.hid KX124.out.le; have LEG_H := Lib.hid G24.out.le; have LEw_H := Lib.hid B24.out.size; refine (HC2.out x0_H y0_H x1_H y1_H _ (Q0H24.out.now.read HM0.out HL0.out) (Q1H24.out.now.read HM1.out HL1.out)).mono ?_; rintro e w22 ⟨rah, rch, rfl, hh, hb⟩; clear Q0H24; clear Q1H24; have B25 := Lib.hid (B24.out.trans (hb.mono B24.out.size)); have A125 := Lib.hid (A124.out.next hb); have S25 := Lib.hid (S24.out.next hb); have KX125 := Lib.hid (KX124.out.next hb); have G25 := Lib.hid (G24.out.next hb); clear B24 A124 S24 KX124 G24; have H25 := Lib.hid (hh); clear hb hh) | (go_at_call 34; have ZZ := B23; clear ZZ; refine (exToRu a1 n1 c1 t1 s1 p1 o1 _ (H1.out.next B23.out) l1 HL1.out).mono ?_; rintro e w21 ⟨x1_H, y1_H, rfl, hh, hb⟩; have B24 := Lib.hid (B23.out.trans (hb.mono B23.out.size)); have A124 := Lib.hid (A123.out.next hb); have S24 := Lib.hid (S23.out.next hb); have KX124 := Lib.hid (KX123.out.next hb); have G24 := Lib.hid (G23.out.next hb); have Q0H24 := Lib.hid (Q0H23.out.next hb); clear B23 A123 S23 KX123 G23 Q0H23; have Q1H24 := Lib.hid (hh); clear hb hh) | (go_at_call 11; have ZZ := B22; clear ZZ; refine (exTo a0 n0 c0 t0 _ (H0.out.next B22.out) l0 HL0.out).mono ?_; rintro e w20 ⟨x0_H, y0_H, rfl, hh, hb⟩; have B23 := Lib.hid (B22.out.trans (hb.mono B22.out.size)); have A123 := Lib.hid (A122.out.next hb); have S23 := Lib.hid (S22.out.next hb); have KX123 := Lib.hid (KX122.out.next hb); have G23 := Lib.hid (G22.out.next hb); clear B22 A122 S22 KX122 G22; have Q0H23 := Lib.hid (hh); clear hb hh))
    go_wp2_with fail
    refine (eqTriS rah ras N rch N rcs R _ (H25.out.now.read HRM.out HN.out) (S25.out.now.read HRM.out HN.out) rl).mono ?_
    rintro e w23 ⟨rfl, hb⟩
    have B26 := Lib.hid (B25.out.trans (hb.mono B25.out.size))
    have A126 := Lib.hid (A125.out.next hb)
    have S26 := Lib.hid (S25.out.next hb)
    have KX126 := Lib.hid (KX125.out.next hb)
    have G26 := Lib.hid (G25.out.next hb)
    have H26 := Lib.hid (H25.out.next hb)
    clear B25 A125 S25 KX125 G25 H25
    clear hb
    clear H26
    go_wp2_with fail
    have HD := exHeld G26.out rl (by omega) (by omega)
    rw [HQQ.out] at HD
    refine HD.mono ?_
    rintro e w24 ⟨rfl, hb⟩
    clear HD
    have B27 := Lib.hid (B26.out.trans (hb.mono B26.out.size))
    have A127 := Lib.hid (A126.out.next hb)
    have S27 := Lib.hid (S26.out.next hb)
    have KX127 := Lib.hid (KX126.out.next hb)
    have G27 := Lib.hid (G26.out.next hb)
    clear B26 A126 S26 KX126 G26
    clear hb
    go_wp2_with fail
    go_ret
    exact ⟨rfl, B27.out⟩
end fnExactFired
end Go.Proofs.YtiajdnhmjdfeeaaGreat
