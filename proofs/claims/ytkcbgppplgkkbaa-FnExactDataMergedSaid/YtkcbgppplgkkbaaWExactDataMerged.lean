/- The walk of FnExactDataMerged. -/
import Derived.Test.YtkcbgppplgkkbaaFrame
import Derived.Test.YtkcbgppplgkkbaaDmgI
import Derived.Test.YtkcbgppplgkkbaaDmgS
import Derived.Test.YtkcbgppplgkkbaaExN
import Derived.Test.YtkcbgppplgkkbaaNamMk
import Derived.Test.YtkcbgppplgkkbaaMark2
import Derived.Deep.RegionHeld3
namespace Go.Proofs.Ytkcbgppplgkkbaa
open Go.RowKit Go.WideShapes
namespace fnExactDataMerged
theorem mergeO_most (ts : List NamV) (h : SmAllN ts) : ((mergeO ts).getD []).length ≤ 80 ∧ SmAll ((mergeO ts).getD []) := by
  unfold mergeO
  split
  · rename_i c
    refine ⟨c.2, fun t ht => ?_⟩
    obtain ⟨r, h1, h2⟩ := mergeL_mem.1 ht
    exact (h r h1).2 t h2
  · exact ⟨by simp, fun t ht => by simp at ht⟩
theorem dm_shape {r : Option (List Tri3)} {w w' : World} {e : Ending} {N : Nat} (h : ResPost r w e w') (l : (r.getD []).length = N) :
    ∃ a c, e = .returned (.tuple #[.slice a N c, .bool r.isSome]) ∧ Holds w.heap.size w'.heap.size w' (OwnC w.heap.size w'.heap.size (.slice a N c) (r.getD [])) ∧ Below w.heap.size w w' := by
  obtain ⟨v, he, ho, hb⟩ := h
  obtain ⟨x, y, rfl, H⟩ := ownC_shape ho hb l
  exact ⟨_, _, he, H, hb⟩
set_option maxRecDepth 100000 in
set_option maxHeartbeats 6400000 in
theorem walk (a0 : Option Addr) (n0 c0 : Nat) (t0 : List NamV) (w : World) (h0 : IsNams w a0 n0 c0 t0) :
    Calls Try.prog 5 #[.slice a0 n0 c0] w fun e w' => e = .returned (.bool true) ∧ Below w.heap.size w w' := by
  have B0 := Lib.hid (Below.refl w.heap.size w)
  have H0 := Lib.hid h0
  have HL0 := Lib.hid h0.len
  have HM0 : Hid (SmAllN t0) := Lib.hid h0.small
  have hm0 := h0.maxl
  clear h0
  go_enter Try.func5, Try.ntmps5
  go_wp2_with fail
  refine (szNams a0 n0 c0 t0 _ (H0.out.next B0.out) 1048576 (by omega) (by omega) hm0).mono ?_
  rintro e w1 ⟨g0, rfl, hg, hb⟩
  have B1 := Lib.hid (B0.out.trans (hb.mono B0.out.size))
  clear B0
  clear hb
  rcases hg with rfl | ⟨e0, f0, ps0⟩
  · go_wp2_with fail
    go_ret
    exact ⟨rfl, B1.out⟩
  have S0 : Hid (SmN t0) := Lib.hid ps0
  have l0 : n0 + totN t0 ≤ 1048576 := by omega
  clear ps0 hm0
  have d0 : ¬ g0 < 0 := by omega
  obtain ⟨N, hN⟩ : ∃ N, ((mergeO t0).getD []).length = N := ⟨_, rfl⟩
  have C1 := fun x0 y0 W hi => (specDataMerged x0 n0 y0 t0 W hi S0.out).mono fun e w' h => dm_shape h hN
  have C2 := fun x0 y0 W hi => (implDataMerged x0 n0 y0 t0 W hi S0.out).mono fun e w' h => dm_shape h hN
  have hmost := mergeO_most t0 HM0.out
  rw [hN] at hmost
  generalize (mergeO t0).getD [] = R at C1 C2 hN hmost
  generalize (mergeO t0).isSome = bb at C1 C2
  have HN := Lib.hid hN
  have HRM := Lib.hid hmost.2
  have rl : N ≤ 1048576 := by have := hmost.1; omega
  have HC1 := Lib.hid C1
  have HC2 := Lib.hid C2
  clear C1 C2 hmost hN
  clear e0 f0
  go_wp2_with fail
  refine (exToN a0 n0 c0 t0 _ (H0.out.next B1.out) l0 HL0.out).mono ?_
  rintro e w2 ⟨x0_S, y0_S, rfl, hh, hb⟩
  have B2 := Lib.hid (B1.out.trans (hb.mono B1.out.size))
  clear B1
  have Q0S2 := Lib.hid (hh)
  clear hb hh
  go_wp2_with fail
  have LEw_S := Lib.hid B2.out.size
  refine (HC1.out x0_S y0_S _ (Q0S2.out.now.read HM0.out HL0.out)).mono ?_
  rintro e w3 ⟨ras, rcs, rfl, hh, hb⟩
  clear Q0S2
  have B3 := Lib.hid (B2.out.trans (hb.mono B2.out.size))
  clear B2
  have S3 := Lib.hid (hh)
  clear hb hh
  go_wp2_with fail
  have LES_X0 := Lib.hid S3.out.le
  have LEw_X0 := Lib.hid B3.out.size
  refine (exToN a0 n0 c0 t0 _ (H0.out.next B3.out) l0 HL0.out).mono ?_
  rintro e w4 ⟨x0_x, y0_x, rfl, hh, hb⟩
  have B4 := Lib.hid (B3.out.trans (hb.mono B3.out.size))
  have S4 := Lib.hid (S3.out.next hb)
  clear B3 S3
  have X04 := Lib.hid (hh)
  clear hb hh
  go_wp2_with fail
  have LES_G := Lib.hid S4.out.le
  have LEX0_G := Lib.hid X04.out.le
  have LEw_G := Lib.hid B4.out.size
  refine (HC2.out x0_x y0_x _ (X04.out.now.read HM0.out HL0.out)).mono ?_
  rintro e w5 ⟨rag, rcg, rfl, hh, hb⟩
  have B5 := Lib.hid (B4.out.trans (hb.mono B4.out.size))
  have S5 := Lib.hid (S4.out.next hb)
  have X05 := Lib.hid (X04.out.next hb)
  clear B4 S4 X04
  have G5 := Lib.hid (hh)
  clear hb hh
  go_wp2_with fail
  refine (eqTriS rag ras N rcg N rcs R _ (G5.out.now.read HRM.out HN.out) (S5.out.now.read HRM.out HN.out) rl).mono ?_
  rintro e w6 ⟨rfl, hb⟩
  have B6 := Lib.hid (B5.out.trans (hb.mono B5.out.size))
  have S6 := Lib.hid (S5.out.next hb)
  have X06 := Lib.hid (X05.out.next hb)
  have G6 := Lib.hid (G5.out.next hb)
  clear B5 S5 X05 G5
  clear hb
  obtain ⟨bf, hbf⟩ : ∃ q : Bool, q = bb := ⟨_, rfl⟩
  have HBF := Lib.hid hbf
  clear hbf
  cases bb
  all_goals
    go_wp2_with fail
    refine (exToN a0 n0 c0 t0 _ (H0.out.next B6.out) l0 HL0.out).mono ?_
    rintro e w7 ⟨x0_e, y0_e, rfl, hh, hb⟩
    have B7 := Lib.hid (B6.out.trans (hb.mono B6.out.size))
    have S7 := Lib.hid (S6.out.next hb)
    have X07 := Lib.hid (X06.out.next hb)
    have G7 := Lib.hid (G6.out.next hb)
    clear B6 S6 X06 G6
    have E07 := Lib.hid (hh)
    clear hb hh
    go_wp2_with fail
    refine (eqNams x0_x x0_e n0 y0_x n0 y0_e t0 _ (X07.out.now.read HM0.out HL0.out) (E07.out.now.read HM0.out HL0.out) l0).mono ?_
    rintro e w8 ⟨rfl, hb⟩
    clear E07
    have B8 := Lib.hid (B7.out.trans (hb.mono B7.out.size))
    have S8 := Lib.hid (S7.out.next hb)
    have X08 := Lib.hid (X07.out.next hb)
    have G8 := Lib.hid (G7.out.next hb)
    clear B7 S7 X07 G7
    clear hb
    go_wp2_with fail
    obtain ⟨q0, hq0⟩ : ∃ q : Nat, 1 + (n0 + 3 * totN t0) = q := ⟨_, rfl⟩
    have MK := exMarkN X08.out l0 HL0.out 1 (by omega) (by omega)
    rw [hq0] at MK
    have b0 : 0 < q0 ∧ q0 ≤ 9000000 := by have := l0; omega
    clear hq0
    refine (MK).mono ?_
    rintro e w9 ⟨rfl, hh, ht⟩
    have B9 := Lib.hid (B8.out.trans (ht.below B8.out.size LEw_X0.out))
    have S9 := Lib.hid (S8.out.step ht (.inl LES_X0.out))
    have X09 := Lib.hid hh
    have G9 := Lib.hid (G8.out.step ht (.inr LEX0_G.out))
    clear hh ht
    clear MK
    clear X09
    have nk : ¬ (q0 : Int) < 0 := by omega
    go_wp2_with fail
    refine (eqTriS rag ras N rcg N rcs R _ (G9.out.now.read HRM.out HN.out) (S9.out.now.read HRM.out HN.out) rl).mono ?_
    rintro e w10 ⟨rfl, hb⟩
    have B10 := Lib.hid (B9.out.trans (hb.mono B9.out.size))
    have S10 := Lib.hid (S9.out.next hb)
    have G10 := Lib.hid (G9.out.next hb)
    clear B9 S9 G9
    clear hb
    go_wp2_with fail
    obtain ⟨qq, hqq⟩ : ∃ q : Nat, 1 + 3 * N = q := ⟨_, rfl⟩
    have MK := exMark G10.out rl HN.out 1 (by omega) (by omega)
    rw [hqq] at MK
    have HQQ := Lib.hid hqq
    have nq : ¬ (qq : Int) < 0 := by omega
    clear hqq
    refine (MK).mono ?_
    rintro e w11 ⟨rfl, hh, ht⟩
    have B11 := Lib.hid (B10.out.trans (ht.below B10.out.size LEw_G.out))
    have S11 := Lib.hid (S10.out.step ht (.inl LES_G.out))
    have G11 := Lib.hid hh
    clear hh ht
    clear MK
    go_wp2_with fail
    have HD := exHeld G11.out rl (by omega) (by omega)
    rw [HQQ.out] at HD
    refine HD.mono ?_
    rintro e w12 ⟨rfl, hb⟩
    clear HD
    have B12 := Lib.hid (B11.out.trans (hb.mono B11.out.size))
    have S12 := Lib.hid (S11.out.next hb)
    have G12 := Lib.hid (G11.out.next hb)
    clear B11 S11 G11
    clear hb
    go_wp2_with fail
    refine (exToN a0 n0 c0 t0 _ (H0.out.next B12.out) l0 HL0.out).mono ?_
    rintro e w13 ⟨x0_H, y0_H, rfl, hh, hb⟩
    have B13 := Lib.hid (B12.out.trans (hb.mono B12.out.size))
    have S13 := Lib.hid (S12.out.next hb)
    have G13 := Lib.hid (G12.out.next hb)
    clear B12 S12 G12
    have Q0H13 := Lib.hid (hh)
    clear hb hh
    go_wp2_with fail
    have LES_H := Lib.hid S13.out.le
    have LEG_H := Lib.hid G13.out.le
    have LEw_H := Lib.hid B13.out.size
    refine (HC2.out x0_H y0_H _ (Q0H13.out.now.read HM0.out HL0.out)).mono ?_
    rintro e w14 ⟨rah, rch, rfl, hh, hb⟩
    clear Q0H13
    have B14 := Lib.hid (B13.out.trans (hb.mono B13.out.size))
    have S14 := Lib.hid (S13.out.next hb)
    have G14 := Lib.hid (G13.out.next hb)
    clear B13 S13 G13
    have H14 := Lib.hid (hh)
    clear hb hh
    go_wp2_with fail
    refine (eqTriS rah ras N rch N rcs R _ (H14.out.now.read HRM.out HN.out) (S14.out.now.read HRM.out HN.out) rl).mono ?_
    rintro e w15 ⟨rfl, hb⟩
    have B15 := Lib.hid (B14.out.trans (hb.mono B14.out.size))
    have S15 := Lib.hid (S14.out.next hb)
    have G15 := Lib.hid (G14.out.next hb)
    have H15 := Lib.hid (H14.out.next hb)
    clear B14 S14 G14 H14
    clear hb
    clear H15
    go_wp2_with fail
    have HD := exHeld G15.out rl (by omega) (by omega)
    rw [HQQ.out] at HD
    refine HD.mono ?_
    rintro e w16 ⟨rfl, hb⟩
    clear HD
    have B16 := Lib.hid (B15.out.trans (hb.mono B15.out.size))
    have S16 := Lib.hid (S15.out.next hb)
    have G16 := Lib.hid (G15.out.next hb)
    clear B15 S15 G15
    clear hb
    go_wp2_with fail
    go_ret
    exact ⟨rfl, B16.out⟩
end fnExactDataMerged
end Go.Proofs.Ytkcbgppplgkkbaa
