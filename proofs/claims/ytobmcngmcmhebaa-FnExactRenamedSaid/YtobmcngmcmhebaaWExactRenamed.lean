/- The walk of FnExactRenamed. -/
import Derived.Test.YtobmcngmcmhebaaFrame
import Derived.Test.YtobmcngmcmhebaaRenM
import Derived.Test.YtobmcngmcmhebaaExK
import Derived.Test.YtobmcngmcmhebaaPairK
import Derived.Deep.RegionHeld3
namespace Go.Proofs.Ytobmcngmcmhebaa
open Go.RowKit Go.WideShapes
namespace fnExactRenamed
theorem renamedO_most (ts : List Tri3) (l : List Pre2) (h : SmAll ts) (k : SmAllPr l) : ((renamedO ts l).getD []).length ≤ 80 ∧ SmAll ((renamedO ts l).getD []) := by
  unfold renamedO
  split
  · rename_i c
    refine ⟨?_, renAll_most h (fun t ht => (k t ht).2)⟩
    have h1 := renAll_len l ts
    have h2 := graphOk_len c.1
    show (renAll l ts).length ≤ 80
    omega
  · exact ⟨by simp, fun t ht => by simp at ht⟩
theorem rn_shape {r : Option (List Tri3)} {w w' : World} {e : Ending} {N : Nat} (h : ResPost r w e w') (l : (r.getD []).length = N) :
    ∃ a c, e = .returned (.tuple #[.slice a N c, .bool r.isSome]) ∧ Holds w.heap.size w'.heap.size w' (OwnC w.heap.size w'.heap.size (.slice a N c) (r.getD [])) ∧ Below w.heap.size w w' := by
  obtain ⟨v, he, ho, hb⟩ := h
  obtain ⟨x, y, rfl, H⟩ := ownC_shape ho hb l
  exact ⟨_, _, he, H, hb⟩
set_option maxRecDepth 100000 in
set_option maxHeartbeats 6400000 in
theorem walk (a0 : Option Addr) (n0 c0 : Nat) (t0 : List Tri3) (a1 : Option Addr) (n1 c1 : Nat) (t1 : List Pre2) (w : World) (h0 : IsTris w a0 n0 c0 t0) (h1 : IsPres w a1 n1 c1 t1) :
    Calls Try.prog 3 #[.slice a0 n0 c0, .slice a1 n1 c1] w fun e w' => e = .returned (.bool true) ∧ Below w.heap.size w w' := by
  have B0 := Lib.hid (Below.refl w.heap.size w)
  have H0 := Lib.hid h0
  have HL0 := Lib.hid h0.len
  have HM0 : Hid (SmAll t0) := Lib.hid h0.small
  have hm0 := tris_most h0
  clear h0
  have H1 := Lib.hid h1
  have HL1 := Lib.hid h1.len
  have HM1 : Hid (SmAllPr t1) := Lib.hid h1.small
  have hm1 := pres_most h1
  clear h1
  go_enter Try.func3, Try.ntmps3
  go_wp2_with fail
  refine (szTriS a0 n0 c0 t0 _ (H0.out.next B0.out) 1048576 (by omega) (by omega) hm0).mono ?_
  rintro e w1 ⟨g0, rfl, hg, hb⟩
  have B1 := Lib.hid (B0.out.trans (hb.mono B0.out.size))
  clear B0
  clear hb
  rcases hg with rfl | ⟨e0, f0, ps0⟩
  · go_wp2_with fail
    go_ret
    exact ⟨rfl, B1.out⟩
  have S0 : Hid (Sm t0) := Lib.hid (fun t ht => by have := ps0.2 t ht; omega)
  have l0 : n0 ≤ 1048576 := ps0.1
  clear ps0 hm0
  have d0 : ¬ g0 < 0 := by omega
  go_wp2_with fail
  refine (szPairS a1 n1 c1 t1 _ (H1.out.next B1.out) g0 e0 (by omega) hm1).mono ?_
  rintro e w2 ⟨g1, rfl, hg, hb⟩
  have B2 := Lib.hid (B1.out.trans (hb.mono B1.out.size))
  clear B1
  clear hb
  rcases hg with rfl | ⟨e1, f1, ps1⟩
  · go_wp2_with fail
    go_ret
    exact ⟨rfl, B2.out⟩
  have S1 : Hid (SmP t1) := Lib.hid (fun t ht => by have := ps1.2 t ht; omega)
  have l1 : n1 ≤ 1048576 := ps1.1
  clear ps1 hm1
  have d1 : ¬ g1 < 0 := by omega
  obtain ⟨N, hN⟩ : ∃ N, ((renamedO t0 t1).getD []).length = N := ⟨_, rfl⟩
  have C1 := fun x0 y0 x1 y1 W hi ki => (specRenamed x0 x1 n0 y0 n1 y1 t0 t1 W hi ki S0.out S1.out l1).mono fun e w' h => rn_shape h hN
  have C2 := fun x0 y0 x1 y1 W hi ki => (implRenamed x0 x1 n0 y0 n1 y1 t0 t1 W hi ki S0.out S1.out l1).mono fun e w' h => rn_shape h hN
  have hmost := renamedO_most t0 t1 HM0.out HM1.out
  rw [hN] at hmost
  generalize (renamedO t0 t1).getD [] = R at C1 C2 hN hmost
  generalize (renamedO t0 t1).isSome = bb at C1 C2
  have HN := Lib.hid hN
  have HRM := Lib.hid hmost.2
  have rl : N ≤ 1048576 := by have := hmost.1; omega
  have HC1 := Lib.hid C1
  have HC2 := Lib.hid C2
  clear C1 C2 hmost hN
  clear e0 f0 e1 f1
  go_wp2_with fail
  refine (exTo a0 n0 c0 t0 _ (H0.out.next B2.out) l0 HL0.out).mono ?_
  rintro e w3 ⟨x0_S, y0_S, rfl, hh, hb⟩
  have B3 := Lib.hid (B2.out.trans (hb.mono B2.out.size))
  clear B2
  have Q0S3 := Lib.hid (hh)
  clear hb hh
  go_wp2_with fail
  refine (exToPr a1 n1 c1 t1 _ (H1.out.next B3.out) l1 HL1.out).mono ?_
  rintro e w4 ⟨x1_S, y1_S, rfl, hh, hb⟩
  have B4 := Lib.hid (B3.out.trans (hb.mono B3.out.size))
  have Q0S4 := Lib.hid (Q0S3.out.next hb)
  clear B3 Q0S3
  have Q1S4 := Lib.hid (hh)
  clear hb hh
  go_wp2_with fail
  have LEw_S := Lib.hid B4.out.size
  refine (HC1.out x0_S y0_S x1_S y1_S _ (Q0S4.out.now.read HM0.out HL0.out) (Q1S4.out.now.read HM1.out HL1.out)).mono ?_
  rintro e w5 ⟨ras, rcs, rfl, hh, hb⟩
  clear Q0S4
  clear Q1S4
  have B5 := Lib.hid (B4.out.trans (hb.mono B4.out.size))
  clear B4
  have S5 := Lib.hid (hh)
  clear hb hh
  go_wp2_with fail
  have LES_X0 := Lib.hid S5.out.le
  have LEw_X0 := Lib.hid B5.out.size
  refine (exTo a0 n0 c0 t0 _ (H0.out.next B5.out) l0 HL0.out).mono ?_
  rintro e w6 ⟨x0_x, y0_x, rfl, hh, hb⟩
  have B6 := Lib.hid (B5.out.trans (hb.mono B5.out.size))
  have S6 := Lib.hid (S5.out.next hb)
  clear B5 S5
  have X06 := Lib.hid (hh)
  clear hb hh
  go_wp2_with fail
  have LES_X1 := Lib.hid S6.out.le
  have LEX0_X1 := Lib.hid X06.out.le
  have LEw_X1 := Lib.hid B6.out.size
  refine (exToPr a1 n1 c1 t1 _ (H1.out.next B6.out) l1 HL1.out).mono ?_
  rintro e w7 ⟨x1_x, y1_x, rfl, hh, hb⟩
  have B7 := Lib.hid (B6.out.trans (hb.mono B6.out.size))
  have S7 := Lib.hid (S6.out.next hb)
  have X07 := Lib.hid (X06.out.next hb)
  clear B6 S6 X06
  have X17 := Lib.hid (hh)
  clear hb hh
  go_wp2_with fail
  have LES_G := Lib.hid S7.out.le
  have LEX0_G := Lib.hid X07.out.le
  have LEX1_G := Lib.hid X17.out.le
  have LEw_G := Lib.hid B7.out.size
  refine (HC2.out x0_x y0_x x1_x y1_x _ (X07.out.now.read HM0.out HL0.out) (X17.out.now.read HM1.out HL1.out)).mono ?_
  rintro e w8 ⟨rag, rcg, rfl, hh, hb⟩
  have B8 := Lib.hid (B7.out.trans (hb.mono B7.out.size))
  have S8 := Lib.hid (S7.out.next hb)
  have X08 := Lib.hid (X07.out.next hb)
  have X18 := Lib.hid (X17.out.next hb)
  clear B7 S7 X07 X17
  have G8 := Lib.hid (hh)
  clear hb hh
  go_wp2_with fail
  refine (eqTriS rag ras N rcg N rcs R _ (G8.out.now.read HRM.out HN.out) (S8.out.now.read HRM.out HN.out) rl).mono ?_
  rintro e w9 ⟨rfl, hb⟩
  have B9 := Lib.hid (B8.out.trans (hb.mono B8.out.size))
  have S9 := Lib.hid (S8.out.next hb)
  have X09 := Lib.hid (X08.out.next hb)
  have X19 := Lib.hid (X18.out.next hb)
  have G9 := Lib.hid (G8.out.next hb)
  clear B8 S8 X08 X18 G8
  clear hb
  obtain ⟨bf, hbf⟩ : ∃ q : Bool, q = bb := ⟨_, rfl⟩
  have HBF := Lib.hid hbf
  clear hbf
  cases bb
  all_goals
    go_wp2_with fail
    refine (exTo a0 n0 c0 t0 _ (H0.out.next B9.out) l0 HL0.out).mono ?_
    rintro e w10 ⟨x0_e, y0_e, rfl, hh, hb⟩
    have B10 := Lib.hid (B9.out.trans (hb.mono B9.out.size))
    have S10 := Lib.hid (S9.out.next hb)
    have X010 := Lib.hid (X09.out.next hb)
    have X110 := Lib.hid (X19.out.next hb)
    have G10 := Lib.hid (G9.out.next hb)
    clear B9 S9 X09 X19 G9
    have E010 := Lib.hid (hh)
    clear hb hh
    go_wp2_with fail
    refine (eqTriS x0_x x0_e n0 y0_x n0 y0_e t0 _ (X010.out.now.read HM0.out HL0.out) (E010.out.now.read HM0.out HL0.out) l0).mono ?_
    rintro e w11 ⟨rfl, hb⟩
    clear E010
    have B11 := Lib.hid (B10.out.trans (hb.mono B10.out.size))
    have S11 := Lib.hid (S10.out.next hb)
    have X011 := Lib.hid (X010.out.next hb)
    have X111 := Lib.hid (X110.out.next hb)
    have G11 := Lib.hid (G10.out.next hb)
    clear B10 S10 X010 X110 G10
    clear hb
    go_wp2_with fail
    refine (exToPr a1 n1 c1 t1 _ (H1.out.next B11.out) l1 HL1.out).mono ?_
    rintro e w12 ⟨x1_e, y1_e, rfl, hh, hb⟩
    have B12 := Lib.hid (B11.out.trans (hb.mono B11.out.size))
    have S12 := Lib.hid (S11.out.next hb)
    have X012 := Lib.hid (X011.out.next hb)
    have X112 := Lib.hid (X111.out.next hb)
    have G12 := Lib.hid (G11.out.next hb)
    clear B11 S11 X011 X111 G11
    have E112 := Lib.hid (hh)
    clear hb hh
    go_wp2_with fail
    refine (eqPairS x1_x x1_e n1 y1_x n1 y1_e t1 _ (X112.out.now.read HM1.out HL1.out) (E112.out.now.read HM1.out HL1.out) l1).mono ?_
    rintro e w13 ⟨rfl, hb⟩
    clear E112
    have B13 := Lib.hid (B12.out.trans (hb.mono B12.out.size))
    have S13 := Lib.hid (S12.out.next hb)
    have X013 := Lib.hid (X012.out.next hb)
    have X113 := Lib.hid (X112.out.next hb)
    have G13 := Lib.hid (G12.out.next hb)
    clear B12 S12 X012 X112 G12
    clear hb
    go_wp2_with fail
    obtain ⟨q0, hq0⟩ : ∃ q : Nat, 1 + 3 * n0 = q := ⟨_, rfl⟩
    have MK := exMark X013.out l0 HL0.out 1 (by omega) (by omega)
    rw [hq0] at MK
    have b0 : 0 < q0 ∧ q0 ≤ 9000000 := by have := l0; omega
    clear hq0
    refine (MK).mono ?_
    rintro e w14 ⟨rfl, hh, ht⟩
    have B14 := Lib.hid (B13.out.trans (ht.below B13.out.size LEw_X0.out))
    have S14 := Lib.hid (S13.out.step ht (.inl LES_X0.out))
    have X014 := Lib.hid hh
    have X114 := Lib.hid (X113.out.step ht (.inr LEX0_X1.out))
    have G14 := Lib.hid (G13.out.step ht (.inr LEX0_G.out))
    clear hh ht
    clear MK
    clear X014
    go_wp2_with fail
    obtain ⟨q1, hq1⟩ : ∃ q : Nat, q0 + 2 * n1 = q := ⟨_, rfl⟩
    have MK := exMarkPr X114.out l1 HL1.out q0 (by omega) (by omega)
    rw [hq1] at MK
    have b1 : 0 < q1 ∧ q1 ≤ 18000000 := by have := l1; omega
    clear hq1
    refine (MK).mono ?_
    rintro e w15 ⟨rfl, hh, ht⟩
    have B15 := Lib.hid (B14.out.trans (ht.below B14.out.size LEw_X1.out))
    have S15 := Lib.hid (S14.out.step ht (.inl LES_X1.out))
    have X115 := Lib.hid hh
    have G15 := Lib.hid (G14.out.step ht (.inr LEX1_G.out))
    clear hh ht
    clear MK
    clear X115
    have nk : ¬ (q1 : Int) < 0 := by omega
    go_wp2_with fail
    refine (eqTriS rag ras N rcg N rcs R _ (G15.out.now.read HRM.out HN.out) (S15.out.now.read HRM.out HN.out) rl).mono ?_
    rintro e w16 ⟨rfl, hb⟩
    have B16 := Lib.hid (B15.out.trans (hb.mono B15.out.size))
    have S16 := Lib.hid (S15.out.next hb)
    have G16 := Lib.hid (G15.out.next hb)
    clear B15 S15 G15
    clear hb
    go_wp2_with fail
    obtain ⟨qq, hqq⟩ : ∃ q : Nat, 1 + 3 * N = q := ⟨_, rfl⟩
    have MK := exMark G16.out rl HN.out 1 (by omega) (by omega)
    rw [hqq] at MK
    have HQQ := Lib.hid hqq
    have nq : ¬ (qq : Int) < 0 := by omega
    clear hqq
    refine (MK).mono ?_
    rintro e w17 ⟨rfl, hh, ht⟩
    have B17 := Lib.hid (B16.out.trans (ht.below B16.out.size LEw_G.out))
    have S17 := Lib.hid (S16.out.step ht (.inl LES_G.out))
    have G17 := Lib.hid hh
    clear hh ht
    clear MK
    go_wp2_with fail
    have HD := exHeld G17.out rl (by omega) (by omega)
    rw [HQQ.out] at HD
    refine HD.mono ?_
    rintro e w18 ⟨rfl, hb⟩
    clear HD
    have B18 := Lib.hid (B17.out.trans (hb.mono B17.out.size))
    have S18 := Lib.hid (S17.out.next hb)
    have G18 := Lib.hid (G17.out.next hb)
    clear B17 S17 G17
    clear hb
    go_wp2_with fail
    refine (exTo a0 n0 c0 t0 _ (H0.out.next B18.out) l0 HL0.out).mono ?_
    rintro e w19 ⟨x0_H, y0_H, rfl, hh, hb⟩
    have B19 := Lib.hid (B18.out.trans (hb.mono B18.out.size))
    have S19 := Lib.hid (S18.out.next hb)
    have G19 := Lib.hid (G18.out.next hb)
    clear B18 S18 G18
    have Q0H19 := Lib.hid (hh)
    clear hb hh
    go_wp2_with fail
    refine (exToPr a1 n1 c1 t1 _ (H1.out.next B19.out) l1 HL1.out).mono ?_
    rintro e w20 ⟨x1_H, y1_H, rfl, hh, hb⟩
    have B20 := Lib.hid (B19.out.trans (hb.mono B19.out.size))
    have S20 := Lib.hid (S19.out.next hb)
    have G20 := Lib.hid (G19.out.next hb)
    have Q0H20 := Lib.hid (Q0H19.out.next hb)
    clear B19 S19 G19 Q0H19
    have Q1H20 := Lib.hid (hh)
    clear hb hh
    go_wp2_with fail
    have LES_H := Lib.hid S20.out.le
    have LEG_H := Lib.hid G20.out.le
    have LEw_H := Lib.hid B20.out.size
    refine (HC2.out x0_H y0_H x1_H y1_H _ (Q0H20.out.now.read HM0.out HL0.out) (Q1H20.out.now.read HM1.out HL1.out)).mono ?_
    rintro e w21 ⟨rah, rch, rfl, hh, hb⟩
    clear Q0H20
    clear Q1H20
    have B21 := Lib.hid (B20.out.trans (hb.mono B20.out.size))
    have S21 := Lib.hid (S20.out.next hb)
    have G21 := Lib.hid (G20.out.next hb)
    clear B20 S20 G20
    have H21 := Lib.hid (hh)
    clear hb hh
    go_wp2_with fail
    refine (eqTriS rah ras N rch N rcs R _ (H21.out.now.read HRM.out HN.out) (S21.out.now.read HRM.out HN.out) rl).mono ?_
    rintro e w22 ⟨rfl, hb⟩
    have B22 := Lib.hid (B21.out.trans (hb.mono B21.out.size))
    have S22 := Lib.hid (S21.out.next hb)
    have G22 := Lib.hid (G21.out.next hb)
    have H22 := Lib.hid (H21.out.next hb)
    clear B21 S21 G21 H21
    clear hb
    clear H22
    go_wp2_with fail
    have HD := exHeld G22.out rl (by omega) (by omega)
    rw [HQQ.out] at HD
    refine HD.mono ?_
    rintro e w23 ⟨rfl, hb⟩
    clear HD
    have B23 := Lib.hid (B22.out.trans (hb.mono B22.out.size))
    have S23 := Lib.hid (S22.out.next hb)
    have G23 := Lib.hid (G22.out.next hb)
    clear B22 S22 G22
    clear hb
    go_wp2_with fail
    go_ret
    exact ⟨rfl, B23.out⟩
end fnExactRenamed
end Go.Proofs.Ytobmcngmcmhebaa
