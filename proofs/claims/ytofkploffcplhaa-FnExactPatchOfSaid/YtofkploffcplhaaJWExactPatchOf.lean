/- The walk of FnExactPatchOf. -/
import Derived.Test.YtofkploffcplhaaG00
import Derived.Test.YtofkploffcplhaaG21
import Derived.Test.YtofkploffcplhaaG20
import Derived.Test.YtofkploffcplhaaG22
import Derived.Test.YtofkploffcplhaaG02
import Derived.Deep.RegionHeld3
namespace Go.Proofs.Ytofkploffcplhaa
open Go.RowKit Go.WideShapes
namespace fnExactPatchOf
set_option maxRecDepth 100000 in
set_option maxHeartbeats 6400000 in
theorem walk (a0 : Option Addr) (n0 c0 : Nat) (t0 : List Tri3) (a1 : Option Addr) (n1 c1 : Nat) (t1 : List Tri3) (w : World) (h0 : IsTris w a0 n0 c0 t0) (h1 : IsTris w a1 n1 c1 t1) :
    Calls Try.prog 4 #[.slice a0 n0 c0, .slice a1 n1 c1] w fun e w' => e = .returned (.bool true) ∧ Below w.heap.size w w' := by
  have B0 := Lib.hid (Below.refl w.heap.size w)
  have H0 := Lib.hid h0
  have HL0 := Lib.hid h0.len
  have HM0 : Hid (SmAll t0) := Lib.hid h0.small
  have hm0 := tris_most h0
  clear h0
  have H1 := Lib.hid h1
  have HL1 := Lib.hid h1.len
  have HM1 : Hid (SmAll t1) := Lib.hid h1.small
  have hm1 := tris_most h1
  clear h1
  go_enter Try.func4, Try.ntmps4
  go_wp2_with fail
  refine (szTriS a0 n0 c0 t0 _ (H0.out.next B0.out) 1048576 (by omega) (by omega) hm0).mono ?_
  rintro e w1 ⟨g0, rfl, hg, hb⟩
  have B1 := Lib.hid (B0.out.trans (hb.mono B0.out.size))
  clear B0
  clear hb
  rcases hg with rfl | ⟨e0, f0, ps0⟩
  · go_wp2_with fail
    go_ret
    exact ⟨rfl, B1.out⟩
  have S0 : Hid (Sm t0) := Lib.hid (fun t ht => by have := ps0.2 t ht; omega)
  have l0 : n0 ≤ 1048576 := ps0.1
  clear ps0 hm0
  have d0 : ¬ g0 < 0 := by omega
  go_wp2_with fail
  refine (szTriS a1 n1 c1 t1 _ (H1.out.next B1.out) g0 e0 (by omega) hm1).mono ?_
  rintro e w2 ⟨g1, rfl, hg, hb⟩
  have B2 := Lib.hid (B1.out.trans (hb.mono B1.out.size))
  clear B1
  clear hb
  rcases hg with rfl | ⟨e1, f1, ps1⟩
  · go_wp2_with fail
    go_ret
    exact ⟨rfl, B2.out⟩
  have S1 : Hid (Sm t1) := Lib.hid (fun t ht => by have := ps1.2 t ht; omega)
  have l1 : n1 ≤ 1048576 := ps1.1
  clear ps1 hm1
  have d1 : ¬ g1 < 0 := by omega
  obtain ⟨N1, hN1⟩ : ∃ N, ((patchOf t0 t1).getD ([], [])).1.length = N := ⟨_, rfl⟩
  obtain ⟨N2, hN2⟩ : ∃ N, ((patchOf t0 t1).getD ([], [])).2.length = N := ⟨_, rfl⟩
  have C1 := fun x0 y0 x1 y1 W hi ki => (specPatchOf x0 x1 n0 y0 n1 y1 t0 t1 W hi ki S0.out S1.out l0 l1).mono fun e w' h => res2_shape h hN1 hN2
  have C2 := fun x0 y0 x1 y1 W hi ki => (implPatchOf x0 x1 n0 y0 n1 y1 t0 t1 W hi ki S0.out S1.out).mono fun e w' h => res2_shape h hN1 hN2
  have hmost := patchOf_most t0 t1 HM0.out HM1.out
  rw [hN1, hN2] at hmost
  generalize ((patchOf t0 t1).getD ([], [])).1 = R1 at C1 C2 hN1 hmost
  generalize ((patchOf t0 t1).getD ([], [])).2 = R2 at C1 C2 hN2 hmost
  generalize (patchOf t0 t1).isSome = bb at C1 C2
  have HN := Lib.hid (And.intro hN1 hN2)
  have HRM := Lib.hid hmost.2
  have rl : N1 ≤ 1048576 ∧ N2 ≤ 1048576 := by have := hmost.1; omega
  have HC1 := Lib.hid C1
  have HC2 := Lib.hid C2
  clear C1 C2 hmost hN1 hN2
  clear e0 f0 e1 f1
  go_wp2_with fail
  refine (exTo a0 n0 c0 t0 _ (H0.out.next B2.out) l0 HL0.out).mono ?_
  rintro e w3 ⟨x0_S, y0_S, rfl, hh, hb⟩
  have B3 := Lib.hid (B2.out.trans (hb.mono B2.out.size))
  clear B2
  have Q0S3 := Lib.hid (hh)
  clear hb hh
  go_wp2_with fail
  refine (exTo a1 n1 c1 t1 _ (H1.out.next B3.out) l1 HL1.out).mono ?_
  rintro e w4 ⟨x1_S, y1_S, rfl, hh, hb⟩
  have B4 := Lib.hid (B3.out.trans (hb.mono B3.out.size))
  have Q0S4 := Lib.hid (Q0S3.out.next hb)
  clear B3 Q0S3
  have Q1S4 := Lib.hid (hh)
  clear hb hh
  go_wp2_with fail
  have LEw_S := Lib.hid B4.out.size
  refine (HC1.out x0_S y0_S x1_S y1_S _ (Q0S4.out.now.read HM0.out HL0.out) (Q1S4.out.now.read HM1.out HL1.out)).mono ?_
  rintro e w5 ⟨ras, rcs, rbs, rds, rfl, hh, hb⟩
  clear Q0S4
  clear Q1S4
  have B5 := Lib.hid (B4.out.trans (hb.mono B4.out.size))
  clear B4
  have S5 := Lib.hid (hh)
  clear hb hh
  have B6 := Lib.hid (B5.out.alloc B5.out.size (.cells #[.slice ras N1 rcs, .slice rbs N2 rds] 29))
  have S6 := Lib.hid (S5.out.alloc (.cells #[.slice ras N1 rcs, .slice rbs N2 rds] 29))
  clear B5 S5
  have KS6 := Lib.hid (cells_new w5 #[.slice ras N1 rcs, .slice rbs N2 rds] 29)
  go_wp2_with fail
  have HZw6 := Lib.hid (show w5.heap.size ≤ ((w5.alloc (.cells #[.slice ras N1 rcs, .slice rbs N2 rds] 29))).heap.size from by simp)
  generalize (w5.alloc (.cells #[.slice ras N1 rcs, .slice rbs N2 rds] 29)) = w6 at B6 S6 KS6 HZw6 ⊢
  have LES_X0 := Lib.hid S6.out.le
  have LEKS_X0 := Lib.hid KS6.out.le
  have LEw_X0 := Lib.hid B6.out.size
  refine (exTo a0 n0 c0 t0 _ (H0.out.next B6.out) l0 HL0.out).mono ?_
  rintro e w7 ⟨x0_x, y0_x, rfl, hh, hb⟩
  have B7 := Lib.hid (B6.out.trans (hb.mono B6.out.size))
  have S7 := Lib.hid (S6.out.next hb)
  have KS7 := Lib.hid (KS6.out.next hb)
  clear B6 S6 KS6
  have X07 := Lib.hid (hh)
  clear hb hh
  go_wp2_with fail
  have LES_X1 := Lib.hid S7.out.le
  have LEKS_X1 := Lib.hid KS7.out.le
  have LEX0_X1 := Lib.hid X07.out.le
  have LEw_X1 := Lib.hid B7.out.size
  refine (exTo a1 n1 c1 t1 _ (H1.out.next B7.out) l1 HL1.out).mono ?_
  rintro e w8 ⟨x1_x, y1_x, rfl, hh, hb⟩
  have B8 := Lib.hid (B7.out.trans (hb.mono B7.out.size))
  have S8 := Lib.hid (S7.out.next hb)
  have KS8 := Lib.hid (KS7.out.next hb)
  have X08 := Lib.hid (X07.out.next hb)
  clear B7 S7 KS7 X07
  have X18 := Lib.hid (hh)
  clear hb hh
  go_wp2_with fail
  have LES_G := Lib.hid S8.out.le
  have LEKS_G := Lib.hid KS8.out.le
  have LEX0_G := Lib.hid X08.out.le
  have LEX1_G := Lib.hid X18.out.le
  have LEw_G := Lib.hid B8.out.size
  refine (HC2.out x0_x y0_x x1_x y1_x _ (X08.out.now.read HM0.out HL0.out) (X18.out.now.read HM1.out HL1.out)).mono ?_
  rintro e w9 ⟨rag, rcg, rbg, rdg, rfl, hh, hb⟩
  have B9 := Lib.hid (B8.out.trans (hb.mono B8.out.size))
  have S9 := Lib.hid (S8.out.next hb)
  have KS9 := Lib.hid (KS8.out.next hb)
  have X09 := Lib.hid (X08.out.next hb)
  have X19 := Lib.hid (X18.out.next hb)
  clear B8 S8 KS8 X08 X18
  have G9 := Lib.hid (hh)
  clear hb hh
  have LES_KG := Lib.hid S9.out.le
  have LEKS_KG := Lib.hid KS9.out.le
  have LEX0_KG := Lib.hid X09.out.le
  have LEX1_KG := Lib.hid X19.out.le
  have LEG_KG := Lib.hid G9.out.le
  have B10 := Lib.hid (B9.out.alloc B9.out.size (.cells #[.slice rag N1 rcg, .slice rbg N2 rdg] 29))
  have S10 := Lib.hid (S9.out.alloc (.cells #[.slice rag N1 rcg, .slice rbg N2 rdg] 29))
  have KS10 := Lib.hid (KS9.out.alloc (.cells #[.slice rag N1 rcg, .slice rbg N2 rdg] 29))
  have X010 := Lib.hid (X09.out.alloc (.cells #[.slice rag N1 rcg, .slice rbg N2 rdg] 29))
  have X110 := Lib.hid (X19.out.alloc (.cells #[.slice rag N1 rcg, .slice rbg N2 rdg] 29))
  have G10 := Lib.hid (G9.out.alloc (.cells #[.slice rag N1 rcg, .slice rbg N2 rdg] 29))
  clear B9 S9 KS9 X09 X19 G9
  have KG10 := Lib.hid (cells_new w9 #[.slice rag N1 rcg, .slice rbg N2 rdg] 29)
  obtain ⟨v0, u0⟩ := KG10.out.now.two
  obtain ⟨v1, u1⟩ := KS10.out.now.two
  go_wp2_with fail
  have HZw10 := Lib.hid (show w9.heap.size ≤ ((w9.alloc (.cells #[.slice rag N1 rcg, .slice rbg N2 rdg] 29))).heap.size from by simp)
  generalize (w9.alloc (.cells #[.slice rag N1 rcg, .slice rbg N2 rdg] 29)) = w10 at B10 S10 KS10 X010 X110 G10 KG10 HZw10 ⊢
  refine (eqPatch rag rbg ras rbs N1 N2 rcg rdg rcs rds R1 R2 _ (G10.out.now.readP HRM.out HN.out) (S10.out.now.readP HRM.out HN.out) rl.1 rl.2).mono ?_
  rintro e w11 ⟨rfl, hb⟩
  clear v0 u0 v1 u1
  have B11 := Lib.hid (B10.out.trans (hb.mono B10.out.size))
  have S11 := Lib.hid (S10.out.next hb)
  have KS11 := Lib.hid (KS10.out.next hb)
  have X011 := Lib.hid (X010.out.next hb)
  have X111 := Lib.hid (X110.out.next hb)
  have G11 := Lib.hid (G10.out.next hb)
  have KG11 := Lib.hid (KG10.out.next hb)
  clear B10 S10 KS10 X010 X110 G10 KG10
  clear hb
  cases bb
  all_goals
    go_wp2_with fail
    refine (exTo a0 n0 c0 t0 _ (H0.out.next B11.out) l0 HL0.out).mono ?_
    rintro e w12 ⟨x0_e, y0_e, rfl, hh, hb⟩
    have B12 := Lib.hid (B11.out.trans (hb.mono B11.out.size))
    have S12 := Lib.hid (S11.out.next hb)
    have KS12 := Lib.hid (KS11.out.next hb)
    have X012 := Lib.hid (X011.out.next hb)
    have X112 := Lib.hid (X111.out.next hb)
    have G12 := Lib.hid (G11.out.next hb)
    have KG12 := Lib.hid (KG11.out.next hb)
    clear B11 S11 KS11 X011 X111 G11 KG11
    have E012 := Lib.hid (hh)
    clear hb hh
    go_wp2_with fail
    refine (eqTriS x0_x x0_e n0 y0_x n0 y0_e t0 _ (X012.out.now.read HM0.out HL0.out) (E012.out.now.read HM0.out HL0.out) l0).mono ?_
    rintro e w13 ⟨rfl, hb⟩
    clear E012
    have B13 := Lib.hid (B12.out.trans (hb.mono B12.out.size))
    have S13 := Lib.hid (S12.out.next hb)
    have KS13 := Lib.hid (KS12.out.next hb)
    have X013 := Lib.hid (X012.out.next hb)
    have X113 := Lib.hid (X112.out.next hb)
    have G13 := Lib.hid (G12.out.next hb)
    have KG13 := Lib.hid (KG12.out.next hb)
    clear B12 S12 KS12 X012 X112 G12 KG12
    clear hb
    go_wp2_with fail
    refine (exTo a1 n1 c1 t1 _ (H1.out.next B13.out) l1 HL1.out).mono ?_
    rintro e w14 ⟨x1_e, y1_e, rfl, hh, hb⟩
    have B14 := Lib.hid (B13.out.trans (hb.mono B13.out.size))
    have S14 := Lib.hid (S13.out.next hb)
    have KS14 := Lib.hid (KS13.out.next hb)
    have X014 := Lib.hid (X013.out.next hb)
    have X114 := Lib.hid (X113.out.next hb)
    have G14 := Lib.hid (G13.out.next hb)
    have KG14 := Lib.hid (KG13.out.next hb)
    clear B13 S13 KS13 X013 X113 G13 KG13
    have E114 := Lib.hid (hh)
    clear hb hh
    go_wp2_with fail
    refine (eqTriS x1_x x1_e n1 y1_x n1 y1_e t1 _ (X114.out.now.read HM1.out HL1.out) (E114.out.now.read HM1.out HL1.out) l1).mono ?_
    rintro e w15 ⟨rfl, hb⟩
    clear E114
    have B15 := Lib.hid (B14.out.trans (hb.mono B14.out.size))
    have S15 := Lib.hid (S14.out.next hb)
    have KS15 := Lib.hid (KS14.out.next hb)
    have X015 := Lib.hid (X014.out.next hb)
    have X115 := Lib.hid (X114.out.next hb)
    have G15 := Lib.hid (G14.out.next hb)
    have KG15 := Lib.hid (KG14.out.next hb)
    clear B14 S14 KS14 X014 X114 G14 KG14
    clear hb
    go_wp2_with fail
    obtain ⟨q0, hq0⟩ : ∃ q : Nat, 1 + 3 * n0 = q := ⟨_, rfl⟩
    have MK := exMark X015.out l0 HL0.out 1 (by omega) (by omega)
    rw [hq0] at MK
    have b0 : 0 < q0 ∧ q0 ≤ 9000000 := by have := l0; omega
    clear hq0
    refine (MK).mono ?_
    rintro e w16 ⟨rfl, hh, ht⟩
    have B16 := Lib.hid (B15.out.trans (ht.below B15.out.size LEw_X0.out))
    have S16 := Lib.hid (S15.out.step ht (.inl LES_X0.out))
    have KS16 := Lib.hid (KS15.out.step ht (.inl LEKS_X0.out))
    have X016 := Lib.hid hh
    have X116 := Lib.hid (X115.out.step ht (.inr LEX0_X1.out))
    have G16 := Lib.hid (G15.out.step ht (.inr LEX0_G.out))
    have KG16 := Lib.hid (KG15.out.step ht (.inr LEX0_KG.out))
    clear hh ht
    clear MK
    clear X016
    go_wp2_with fail
    obtain ⟨q1, hq1⟩ : ∃ q : Nat, q0 + 3 * n1 = q := ⟨_, rfl⟩
    have MK := exMark X116.out l1 HL1.out q0 (by omega) (by omega)
    rw [hq1] at MK
    have b1 : 0 < q1 ∧ q1 ≤ 18000000 := by have := l1; omega
    clear hq1
    refine (MK).mono ?_
    rintro e w17 ⟨rfl, hh, ht⟩
    have B17 := Lib.hid (B16.out.trans (ht.below B16.out.size LEw_X1.out))
    have S17 := Lib.hid (S16.out.step ht (.inl LES_X1.out))
    have KS17 := Lib.hid (KS16.out.step ht (.inl LEKS_X1.out))
    have X117 := Lib.hid hh
    have G17 := Lib.hid (G16.out.step ht (.inr LEX1_G.out))
    have KG17 := Lib.hid (KG16.out.step ht (.inr LEX1_KG.out))
    clear hh ht
    clear MK
    clear X117
    have nk : ¬ (q1 : Int) < 0 := by omega
    obtain ⟨v0, u0⟩ := KG17.out.now.two
    obtain ⟨v1, u1⟩ := KS17.out.now.two
    go_wp2_with fail
    refine (eqPatch rag rbg ras rbs N1 N2 rcg rdg rcs rds R1 R2 _ (G17.out.now.readP HRM.out HN.out) (S17.out.now.readP HRM.out HN.out) rl.1 rl.2).mono ?_
    rintro e w18 ⟨rfl, hb⟩
    clear v0 u0 v1 u1
    have B18 := Lib.hid (B17.out.trans (hb.mono B17.out.size))
    have S18 := Lib.hid (S17.out.next hb)
    have KS18 := Lib.hid (KS17.out.next hb)
    have G18 := Lib.hid (G17.out.next hb)
    have KG18 := Lib.hid (KG17.out.next hb)
    clear B17 S17 KS17 G17 KG17
    clear hb
    obtain ⟨v0, u0⟩ := KG18.out.now.two
    go_wp2_with fail
    obtain ⟨qq, hqq⟩ : ∃ q : Nat, 1 + (3 * N1 + 3 * N2) = q := ⟨_, rfl⟩
    have MK := exMarkP G18.out rl HN.out 1 (by omega) (by omega)
    rw [hqq] at MK
    have HQQ := Lib.hid hqq
    have nq : ¬ (qq : Int) < 0 := by omega
    clear hqq
    refine (MK).mono ?_
    rintro e w19 ⟨rfl, hh, ht⟩
    have B19 := Lib.hid (B18.out.trans (ht.below B18.out.size LEw_G.out))
    have S19 := Lib.hid (S18.out.step ht (.inl LES_G.out))
    have KS19 := Lib.hid (KS18.out.step ht (.inl LEKS_G.out))
    have G19 := Lib.hid hh
    have KG19 := Lib.hid (KG18.out.step ht (.inr LEG_KG.out))
    clear hh ht
    clear v0 u0 MK
    obtain ⟨v0, u0⟩ := KG19.out.now.two
    go_wp2_with fail
    have HD := exHeldP G19.out rl (by omega) (by omega)
    rw [HQQ.out] at HD
    refine HD.mono ?_
    rintro e w20 ⟨rfl, hb⟩
    clear v0 u0 HD
    have B20 := Lib.hid (B19.out.trans (hb.mono B19.out.size))
    have S20 := Lib.hid (S19.out.next hb)
    have KS20 := Lib.hid (KS19.out.next hb)
    have G20 := Lib.hid (G19.out.next hb)
    have KG20 := Lib.hid (KG19.out.next hb)
    clear B19 S19 KS19 G19 KG19
    clear hb
    go_wp2_with fail
    refine (exTo a0 n0 c0 t0 _ (H0.out.next B20.out) l0 HL0.out).mono ?_
    rintro e w21 ⟨x0_H, y0_H, rfl, hh, hb⟩
    have B21 := Lib.hid (B20.out.trans (hb.mono B20.out.size))
    have S21 := Lib.hid (S20.out.next hb)
    have KS21 := Lib.hid (KS20.out.next hb)
    have G21 := Lib.hid (G20.out.next hb)
    have KG21 := Lib.hid (KG20.out.next hb)
    clear B20 S20 KS20 G20 KG20
    have Q0H21 := Lib.hid (hh)
    clear hb hh
    go_wp2_with fail
    refine (exTo a1 n1 c1 t1 _ (H1.out.next B21.out) l1 HL1.out).mono ?_
    rintro e w22 ⟨x1_H, y1_H, rfl, hh, hb⟩
    have B22 := Lib.hid (B21.out.trans (hb.mono B21.out.size))
    have S22 := Lib.hid (S21.out.next hb)
    have KS22 := Lib.hid (KS21.out.next hb)
    have G22 := Lib.hid (G21.out.next hb)
    have KG22 := Lib.hid (KG21.out.next hb)
    have Q0H22 := Lib.hid (Q0H21.out.next hb)
    clear B21 S21 KS21 G21 KG21 Q0H21
    have Q1H22 := Lib.hid (hh)
    clear hb hh
    go_wp2_with fail
    have LES_H := Lib.hid S22.out.le
    have LEKS_H := Lib.hid KS22.out.le
    have LEG_H := Lib.hid G22.out.le
    have LEKG_H := Lib.hid KG22.out.le
    have LEw_H := Lib.hid B22.out.size
    refine (HC2.out x0_H y0_H x1_H y1_H _ (Q0H22.out.now.read HM0.out HL0.out) (Q1H22.out.now.read HM1.out HL1.out)).mono ?_
    rintro e w23 ⟨rah, rch, rbh, rdh, rfl, hh, hb⟩
    clear Q0H22
    clear Q1H22
    have B23 := Lib.hid (B22.out.trans (hb.mono B22.out.size))
    have S23 := Lib.hid (S22.out.next hb)
    have KS23 := Lib.hid (KS22.out.next hb)
    have G23 := Lib.hid (G22.out.next hb)
    have KG23 := Lib.hid (KG22.out.next hb)
    clear B22 S22 KS22 G22 KG22
    have H23 := Lib.hid (hh)
    clear hb hh
    have B24 := Lib.hid (B23.out.alloc B23.out.size (.cells #[.slice rah N1 rch, .slice rbh N2 rdh] 29))
    have S24 := Lib.hid (S23.out.alloc (.cells #[.slice rah N1 rch, .slice rbh N2 rdh] 29))
    have KS24 := Lib.hid (KS23.out.alloc (.cells #[.slice rah N1 rch, .slice rbh N2 rdh] 29))
    have G24 := Lib.hid (G23.out.alloc (.cells #[.slice rah N1 rch, .slice rbh N2 rdh] 29))
    have KG24 := Lib.hid (KG23.out.alloc (.cells #[.slice rah N1 rch, .slice rbh N2 rdh] 29))
    have H24 := Lib.hid (H23.out.alloc (.cells #[.slice rah N1 rch, .slice rbh N2 rdh] 29))
    clear B23 S23 KS23 G23 KG23 H23
    have KH24 := Lib.hid (cells_new w23 #[.slice rah N1 rch, .slice rbh N2 rdh] 29)
    obtain ⟨v0, u0⟩ := KH24.out.now.two
    obtain ⟨v1, u1⟩ := KS24.out.now.two
    go_wp2_with fail
    have HZw24 := Lib.hid (show w23.heap.size ≤ ((w23.alloc (.cells #[.slice rah N1 rch, .slice rbh N2 rdh] 29))).heap.size from by simp)
    generalize (w23.alloc (.cells #[.slice rah N1 rch, .slice rbh N2 rdh] 29)) = w24 at B24 S24 KS24 G24 KG24 H24 KH24 HZw24 ⊢
    refine (eqPatch rah rbh ras rbs N1 N2 rch rdh rcs rds R1 R2 _ (H24.out.now.readP HRM.out HN.out) (S24.out.now.readP HRM.out HN.out) rl.1 rl.2).mono ?_
    rintro e w25 ⟨rfl, hb⟩
    clear v0 u0 v1 u1
    have B25 := Lib.hid (B24.out.trans (hb.mono B24.out.size))
    have S25 := Lib.hid (S24.out.next hb)
    have KS25 := Lib.hid (KS24.out.next hb)
    have G25 := Lib.hid (G24.out.next hb)
    have KG25 := Lib.hid (KG24.out.next hb)
    have H25 := Lib.hid (H24.out.next hb)
    have KH25 := Lib.hid (KH24.out.next hb)
    clear B24 S24 KS24 G24 KG24 H24 KH24
    clear hb
    clear H25
    clear KH25
    obtain ⟨v0, u0⟩ := KG25.out.now.two
    go_wp2_with fail
    have HD := exHeldP G25.out rl (by omega) (by omega)
    rw [HQQ.out] at HD
    refine HD.mono ?_
    rintro e w26 ⟨rfl, hb⟩
    clear v0 u0 HD
    have B26 := Lib.hid (B25.out.trans (hb.mono B25.out.size))
    have S26 := Lib.hid (S25.out.next hb)
    have KS26 := Lib.hid (KS25.out.next hb)
    have G26 := Lib.hid (G25.out.next hb)
    have KG26 := Lib.hid (KG25.out.next hb)
    clear B25 S25 KS25 G25 KG25
    clear hb
    go_wp2_with fail
    go_ret
    exact ⟨rfl, B26.out⟩
end fnExactPatchOf
end Go.Proofs.Ytofkploffcplhaa
