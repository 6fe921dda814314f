/- The walk of FnPatches. -/
import Derived.Test.YtofkploffcplhaaG00
import Derived.Test.YtofkploffcplhaaG21
import Derived.Test.YtofkploffcplhaaG22
namespace Go.Proofs.Ytofkploffcplhaa
open Go.RowKit Go.WideShapes
namespace fnPatches
set_option maxRecDepth 100000 in
set_option maxHeartbeats 6400000 in
theorem walk (a : Option Addr) (len cap : Nat) (zs : List Int) (w : World) (hrow : Frame.IsRow .u8 w a len cap zs) :
    Calls Try.prog 8 #[.slice a len cap] w fun e w' => e = .returned (.bool true) ∧ Below w.heap.size w w' := by
  have hlen : len ≤ 9223372036854775807 := by
    rcases hrow with ⟨_, rfl, _⟩ | ⟨y, _, h1, h2, _⟩
    · omega
    · unfold maxLen at h2; omega
  by_cases hbig : (1048576 : Int) < len
  · go_enter Try.func8, Try.ntmps8
    go_wp2_with go_in
    go_ret
    exact ⟨rfl, Below.refl _ _⟩
  go_enter Try.func8, Try.ntmps8
  go_wp2_with (go_at_call 30; go_in)
  refine (drawPatchOf _ _ _ _ _ hrow).mono ?_
  rintro e w1 ⟨va, vb, ts, us, rfl, ha, hb, g1⟩
  have B1 := Lib.hid (below_of_grown g1)
  obtain ⟨xa, na, ya, rfl⟩ := ha.form
  obtain ⟨xb, nb, yb, rfl⟩ := hb.form
  have HA1 := Lib.hid ha
  have HB1 := Lib.hid hb
  clear g1 hrow hbig hlen ha hb
  have PF := Lib.hid (fun W h k => @implPatchOfG (.slice xa na ya) (.slice xb nb yb) ts us W h k)
  have PS := Lib.hid (fun W h k => @specPatchOfG (.slice xa na ya) (.slice xb nb yb) ts us W h k)
  obtain ⟨r, hr⟩ : ∃ r, patchOf ts us = r := ⟨_, rfl⟩
  rw [hr] at PF PS
  cases r with
  | none =>
    go_wp2_with fail
    refine (PF.out _ HA1.out HB1.out).mono ?_
    intro e w2 g
    simp only [GotRes2, Option.getD_none, Option.isSome_none, List.length_nil] at g
    obtain ⟨pa, pb, pc, pd, rfl, h1, h2, hb⟩ := g
    have B2 := Lib.hid (B1.out.trans (hb.mono B1.out.size))
    have HA2 := Lib.hid (HA1.out.next hb)
    have HB2 := Lib.hid (HB1.out.next hb)
    clear B1 HA1 HB1
    have Dp2 := Lib.hid (h1)
    have Ep2 := Lib.hid (h2)
    clear h1 h2 hb
    have B3 := Lib.hid (B2.out.alloc B2.out.size (.cells #[.slice pa 0 pb, .slice pc 0 pd] 29))
    have HA3 := Lib.hid (HA2.out.alloc (.cells #[.slice pa 0 pb, .slice pc 0 pd] 29))
    have HB3 := Lib.hid (HB2.out.alloc (.cells #[.slice pa 0 pb, .slice pc 0 pd] 29))
    have Dp3 := Lib.hid (Dp2.out.alloc (.cells #[.slice pa 0 pb, .slice pc 0 pd] 29))
    have Ep3 := Lib.hid (Ep2.out.alloc (.cells #[.slice pa 0 pb, .slice pc 0 pd] 29))
    clear B2 HA2 HB2 Dp2 Ep2
    have Xp3 := Lib.hid (cells_new w2 #[.slice pa 0 pb, .slice pc 0 pd] 29)
    go_wp2_with fail
    generalize (w2.alloc (.cells #[.slice pa 0 pb, .slice pc 0 pd] 29)) = u3 at B3 HA3 HB3 Dp3 Ep3 Xp3 ⊢
    refine (PS.out _ HA3.out HB3.out).mono ?_
    intro e w3 g
    simp only [GotRes2, Option.getD_none, Option.isSome_none, List.length_nil] at g
    obtain ⟨qa, qb, qc, qd, rfl, h1, h2, hb⟩ := g
    have B4 := Lib.hid (B3.out.trans (hb.mono B3.out.size))
    have HA4 := Lib.hid (HA3.out.next hb)
    have HB4 := Lib.hid (HB3.out.next hb)
    have Dp4 := Lib.hid (Dp3.out.next hb)
    have Ep4 := Lib.hid (Ep3.out.next hb)
    have Xp4 := Lib.hid (Xp3.out.next hb)
    clear B3 HA3 HB3 Dp3 Ep3 Xp3
    have Dq4 := Lib.hid (h1)
    have Eq4 := Lib.hid (h2)
    clear h1 h2 hb
    have B5 := Lib.hid (B4.out.alloc B4.out.size (.cells #[.slice qa 0 qb, .slice qc 0 qd] 29))
    have HA5 := Lib.hid (HA4.out.alloc (.cells #[.slice qa 0 qb, .slice qc 0 qd] 29))
    have HB5 := Lib.hid (HB4.out.alloc (.cells #[.slice qa 0 qb, .slice qc 0 qd] 29))
    have Dp5 := Lib.hid (Dp4.out.alloc (.cells #[.slice qa 0 qb, .slice qc 0 qd] 29))
    have Ep5 := Lib.hid (Ep4.out.alloc (.cells #[.slice qa 0 qb, .slice qc 0 qd] 29))
    have Xp5 := Lib.hid (Xp4.out.alloc (.cells #[.slice qa 0 qb, .slice qc 0 qd] 29))
    have Dq5 := Lib.hid (Dq4.out.alloc (.cells #[.slice qa 0 qb, .slice qc 0 qd] 29))
    have Eq5 := Lib.hid (Eq4.out.alloc (.cells #[.slice qa 0 qb, .slice qc 0 qd] 29))
    clear B4 HA4 HB4 Dp4 Ep4 Xp4 Dq4 Eq4
    have Xq5 := Lib.hid (cells_new w3 #[.slice qa 0 qb, .slice qc 0 qd] 29)
    obtain ⟨x0, x1⟩ := Xp5.out.now.two
    obtain ⟨y0, y1⟩ := Xq5.out.now.two
    go_wp2_with fail
    generalize (w3.alloc (.cells #[.slice qa 0 qb, .slice qc 0 qd] 29)) = u3 at B5 HA5 HB5 Dp5 Ep5 Xp5 Dq5 Eq5 Xq5 x0 x1 y0 y1 ⊢
    refine (samePatchG Dp5.out Ep5.out Dq5.out Eq5.out).mono ?_
    rintro e w4 ⟨rfl, hb⟩
    clear x0 x1 y0 y1
    have B6 := Lib.hid (B5.out.trans (hb.mono B5.out.size))
    have HA6 := Lib.hid (HA5.out.next hb)
    have HB6 := Lib.hid (HB5.out.next hb)
    have Dp6 := Lib.hid (Dp5.out.next hb)
    have Ep6 := Lib.hid (Ep5.out.next hb)
    have Xp6 := Lib.hid (Xp5.out.next hb)
    have Dq6 := Lib.hid (Dq5.out.next hb)
    have Eq6 := Lib.hid (Eq5.out.next hb)
    have Xq6 := Lib.hid (Xq5.out.next hb)
    clear B5 HA5 HB5 Dp5 Ep5 Xp5 Dq5 Eq5 Xq5
    clear hb
    obtain ⟨x0, x1⟩ := Xp6.out.now.two
    obtain ⟨y0, y1⟩ := Xq6.out.now.two
    go_wp2_with fail
    refine (samePatchG Dp6.out Ep6.out Dq6.out Eq6.out).mono ?_
    rintro e w5 ⟨rfl, hb⟩
    clear x0 x1 y0 y1
    have B7 := Lib.hid (B6.out.trans (hb.mono B6.out.size))
    have HA7 := Lib.hid (HA6.out.next hb)
    have HB7 := Lib.hid (HB6.out.next hb)
    have Dp7 := Lib.hid (Dp6.out.next hb)
    have Ep7 := Lib.hid (Ep6.out.next hb)
    have Xp7 := Lib.hid (Xp6.out.next hb)
    have Dq7 := Lib.hid (Dq6.out.next hb)
    have Eq7 := Lib.hid (Eq6.out.next hb)
    have Xq7 := Lib.hid (Xq6.out.next hb)
    clear B6 HA6 HB6 Dp6 Ep6 Xp6 Dq6 Eq6 Xq6
    clear hb
    go_wp2_with fail
    go_ret
    exact ⟨rfl, B7.out⟩
  | some p =>
    obtain ⟨d, e⟩ := p
    have HG : Hid ((graphOk ts = true ∧ graphOk us = true) ∧ d = outT ts us ∧ e = outT us ts) := Lib.hid (by
      unfold patchOf at hr
      split at hr
      · rename_i c
        simp only [Option.some.injEq, Prod.mk.injEq] at hr
        exact ⟨c, hr.1.symm, hr.2.symm⟩
      · cases hr)
    have T1 := (patch_turns HG.out.1.1 HG.out.1.2)
    rw [← HG.out.2.1, ← HG.out.2.2] at T1
    have HT := Lib.hid T1
    have PN := Lib.hid (fun W h k => @implPatchOfG (.slice xa na ya) (.slice xa na ya) ts ts W h k)
    have hself : patchOf ts ts = some ([], []) := by unfold patchOf; rw [if_pos ⟨HG.out.1.1, HG.out.1.1⟩, HT.out.2.2.2]
    rw [hself] at PN
    clear T1 hself hr
    go_wp2_with fail
    refine (PF.out _ HA1.out HB1.out).mono ?_
    intro e w2 g
    simp only [GotRes2, Option.getD_some, Option.isSome_some] at g
    obtain ⟨pa, pb, pc, pd, rfl, h1, h2, hb⟩ := g
    have B2 := Lib.hid (B1.out.trans (hb.mono B1.out.size))
    have HA2 := Lib.hid (HA1.out.next hb)
    have HB2 := Lib.hid (HB1.out.next hb)
    clear B1 HA1 HB1
    have Dp2 := Lib.hid (h1)
    have Ep2 := Lib.hid (h2)
    clear h1 h2 hb
    have B3 := Lib.hid (B2.out.alloc B2.out.size (.cells #[.slice pa d.length pb, .slice pc e.length pd] 29))
    have HA3 := Lib.hid (HA2.out.alloc (.cells #[.slice pa d.length pb, .slice pc e.length pd] 29))
    have HB3 := Lib.hid (HB2.out.alloc (.cells #[.slice pa d.length pb, .slice pc e.length pd] 29))
    have Dp3 := Lib.hid (Dp2.out.alloc (.cells #[.slice pa d.length pb, .slice pc e.length pd] 29))
    have Ep3 := Lib.hid (Ep2.out.alloc (.cells #[.slice pa d.length pb, .slice pc e.length pd] 29))
    clear B2 HA2 HB2 Dp2 Ep2
    have Xp3 := Lib.hid (cells_new w2 #[.slice pa d.length pb, .slice pc e.length pd] 29)
    go_wp2_with fail
    generalize (w2.alloc (.cells #[.slice pa d.length pb, .slice pc e.length pd] 29)) = u3 at B3 HA3 HB3 Dp3 Ep3 Xp3 ⊢
    refine (PS.out _ HA3.out HB3.out).mono ?_
    intro e w3 g
    simp only [GotRes2, Option.getD_some, Option.isSome_some] at g
    obtain ⟨qa, qb, qc, qd, rfl, h1, h2, hb⟩ := g
    have B4 := Lib.hid (B3.out.trans (hb.mono B3.out.size))
    have HA4 := Lib.hid (HA3.out.next hb)
    have HB4 := Lib.hid (HB3.out.next hb)
    have Dp4 := Lib.hid (Dp3.out.next hb)
    have Ep4 := Lib.hid (Ep3.out.next hb)
    have Xp4 := Lib.hid (Xp3.out.next hb)
    clear B3 HA3 HB3 Dp3 Ep3 Xp3
    have Dq4 := Lib.hid (h1)
    have Eq4 := Lib.hid (h2)
    clear h1 h2 hb
    have B5 := Lib.hid (B4.out.alloc B4.out.size (.cells #[.slice qa d.length qb, .slice qc e.length qd] 29))
    have HA5 := Lib.hid (HA4.out.alloc (.cells #[.slice qa d.length qb, .slice qc e.length qd] 29))
    have HB5 := Lib.hid (HB4.out.alloc (.cells #[.slice qa d.length qb, .slice qc e.length qd] 29))
    have Dp5 := Lib.hid (Dp4.out.alloc (.cells #[.slice qa d.length qb, .slice qc e.length qd] 29))
    have Ep5 := Lib.hid (Ep4.out.alloc (.cells #[.slice qa d.length qb, .slice qc e.length qd] 29))
    have Xp5 := Lib.hid (Xp4.out.alloc (.cells #[.slice qa d.length qb, .slice qc e.length qd] 29))
    have Dq5 := Lib.hid (Dq4.out.alloc (.cells #[.slice qa d.length qb, .slice qc e.length qd] 29))
    have Eq5 := Lib.hid (Eq4.out.alloc (.cells #[.slice qa d.length qb, .slice qc e.length qd] 29))
    clear B4 HA4 HB4 Dp4 Ep4 Xp4 Dq4 Eq4
    have Xq5 := Lib.hid (cells_new w3 #[.slice qa d.length qb, .slice qc e.length qd] 29)
    obtain ⟨x0, x1⟩ := Xp5.out.now.two
    obtain ⟨y0, y1⟩ := Xq5.out.now.two
    go_wp2_with fail
    generalize (w3.alloc (.cells #[.slice qa d.length qb, .slice qc e.length qd] 29)) = u3 at B5 HA5 HB5 Dp5 Ep5 Xp5 Dq5 Eq5 Xq5 x0 x1 y0 y1 ⊢
    refine (samePatchG Dp5.out Ep5.out Dq5.out Eq5.out).mono ?_
    rintro e w4 ⟨rfl, hb⟩
    clear x0 x1 y0 y1
    have B6 := Lib.hid (B5.out.trans (hb.mono B5.out.size))
    have HA6 := Lib.hid (HA5.out.next hb)
    have HB6 := Lib.hid (HB5.out.next hb)
    have Dp6 := Lib.hid (Dp5.out.next hb)
    have Ep6 := Lib.hid (Ep5.out.next hb)
    have Xp6 := Lib.hid (Xp5.out.next hb)
    have Dq6 := Lib.hid (Dq5.out.next hb)
    have Eq6 := Lib.hid (Eq5.out.next hb)
    have Xq6 := Lib.hid (Xq5.out.next hb)
    clear B5 HA5 HB5 Dp5 Ep5 Xp5 Dq5 Eq5 Xq5
    clear hb
    obtain ⟨x0, x1⟩ := Xp6.out.now.two
    go_wp2_with fail
    have P1 := implPatchedG HA6.out Dp6.out Ep6.out
    rw [HT.out.2.1] at P1
    unfold GotRes at P1
    simp only [Option.getD_some, Option.isSome_some] at P1
    refine P1.mono ?_
    rintro e w5 ⟨vx, rfl, hx, hb⟩
    obtain ⟨sx, nx, cx, rfl⟩ := hx.form
    clear x0 x1 P1
    have B7 := Lib.hid (B6.out.trans (hb.mono B6.out.size))
    have HA7 := Lib.hid (HA6.out.next hb)
    have HB7 := Lib.hid (HB6.out.next hb)
    have Dp7 := Lib.hid (Dp6.out.next hb)
    have Ep7 := Lib.hid (Ep6.out.next hb)
    have Xp7 := Lib.hid (Xp6.out.next hb)
    have Dq7 := Lib.hid (Dq6.out.next hb)
    have Eq7 := Lib.hid (Eq6.out.next hb)
    have Xq7 := Lib.hid (Xq6.out.next hb)
    clear B6 HA6 HB6 Dp6 Ep6 Xp6 Dq6 Eq6 Xq6
    have HX7 := Lib.hid (hx)
    clear hx hb
    obtain ⟨x0, x1⟩ := Xp7.out.now.two
    go_wp2_with fail
    refine (implInverseG Dp7.out Ep7.out).mono ?_
    rintro e w6 ⟨ia, ib, ic, id, rfl, h1, h2, hb⟩
    clear x0 x1
    have B8 := Lib.hid (B7.out.trans (hb.mono B7.out.size))
    have HA8 := Lib.hid (HA7.out.next hb)
    have HB8 := Lib.hid (HB7.out.next hb)
    have Dp8 := Lib.hid (Dp7.out.next hb)
    have Ep8 := Lib.hid (Ep7.out.next hb)
    have Xp8 := Lib.hid (Xp7.out.next hb)
    have Dq8 := Lib.hid (Dq7.out.next hb)
    have Eq8 := Lib.hid (Eq7.out.next hb)
    have Xq8 := Lib.hid (Xq7.out.next hb)
    have HX8 := Lib.hid (HX7.out.next hb)
    clear B7 HA7 HB7 Dp7 Ep7 Xp7 Dq7 Eq7 Xq7 HX7
    have I8 := Lib.hid (h1)
    have J8 := Lib.hid (h2)
    clear h1 h2 hb
    go_wp2_with fail
    have P2 := implPatchedG HB8.out I8.out J8.out
    rw [HT.out.2.2.1] at P2
    unfold GotRes at P2
    simp only [Option.getD_some, Option.isSome_some] at P2
    refine P2.mono ?_
    rintro e w7 ⟨vy, rfl, hy, hb⟩
    obtain ⟨sy, ny, cy, rfl⟩ := hy.form
    clear P2
    clear I8
    clear J8
    have B9 := Lib.hid (B8.out.trans (hb.mono B8.out.size))
    have HA9 := Lib.hid (HA8.out.next hb)
    have HB9 := Lib.hid (HB8.out.next hb)
    have Dp9 := Lib.hid (Dp8.out.next hb)
    have Ep9 := Lib.hid (Ep8.out.next hb)
    have Xp9 := Lib.hid (Xp8.out.next hb)
    have Dq9 := Lib.hid (Dq8.out.next hb)
    have Eq9 := Lib.hid (Eq8.out.next hb)
    have Xq9 := Lib.hid (Xq8.out.next hb)
    have HX9 := Lib.hid (HX8.out.next hb)
    clear B8 HA8 HB8 Dp8 Ep8 Xp8 Dq8 Eq8 Xq8 HX8
    have HY9 := Lib.hid (hy)
    clear hy hb
    go_wp2_with fail
    refine (PN.out _ HA9.out HA9.out).mono ?_
    intro e w8 g
    simp only [GotRes2, Option.getD_some, Option.isSome_some, List.length_nil] at g
    obtain ⟨ma, mb, mc, md, rfl, h1, h2, hb⟩ := g
    have B10 := Lib.hid (B9.out.trans (hb.mono B9.out.size))
    have HA10 := Lib.hid (HA9.out.next hb)
    have HB10 := Lib.hid (HB9.out.next hb)
    have Dp10 := Lib.hid (Dp9.out.next hb)
    have Ep10 := Lib.hid (Ep9.out.next hb)
    have Xp10 := Lib.hid (Xp9.out.next hb)
    have Dq10 := Lib.hid (Dq9.out.next hb)
    have Eq10 := Lib.hid (Eq9.out.next hb)
    have Xq10 := Lib.hid (Xq9.out.next hb)
    have HX10 := Lib.hid (HX9.out.next hb)
    have HY10 := Lib.hid (HY9.out.next hb)
    clear B9 HA9 HB9 Dp9 Ep9 Xp9 Dq9 Eq9 Xq9 HX9 HY9
    clear h1 h2 hb
    have B11 := Lib.hid (B10.out.alloc B10.out.size (.cells #[.slice ma 0 mb, .slice mc 0 md] 29))
    have HA11 := Lib.hid (HA10.out.alloc (.cells #[.slice ma 0 mb, .slice mc 0 md] 29))
    have HB11 := Lib.hid (HB10.out.alloc (.cells #[.slice ma 0 mb, .slice mc 0 md] 29))
    have Dp11 := Lib.hid (Dp10.out.alloc (.cells #[.slice ma 0 mb, .slice mc 0 md] 29))
    have Ep11 := Lib.hid (Ep10.out.alloc (.cells #[.slice ma 0 mb, .slice mc 0 md] 29))
    have Xp11 := Lib.hid (Xp10.out.alloc (.cells #[.slice ma 0 mb, .slice mc 0 md] 29))
    have Dq11 := Lib.hid (Dq10.out.alloc (.cells #[.slice ma 0 mb, .slice mc 0 md] 29))
    have Eq11 := Lib.hid (Eq10.out.alloc (.cells #[.slice ma 0 mb, .slice mc 0 md] 29))
    have Xq11 := Lib.hid (Xq10.out.alloc (.cells #[.slice ma 0 mb, .slice mc 0 md] 29))
    have HX11 := Lib.hid (HX10.out.alloc (.cells #[.slice ma 0 mb, .slice mc 0 md] 29))
    have HY11 := Lib.hid (HY10.out.alloc (.cells #[.slice ma 0 mb, .slice mc 0 md] 29))
    clear B10 HA10 HB10 Dp10 Ep10 Xp10 Dq10 Eq10 Xq10 HX10 HY10
    have XN11 := Lib.hid (cells_new w8 #[.slice ma 0 mb, .slice mc 0 md] 29)
    obtain ⟨x0, x1⟩ := Xp11.out.now.two
    go_wp2_with fail
    generalize (w8.alloc (.cells #[.slice ma 0 mb, .slice mc 0 md] 29)) = u8 at B11 HA11 HB11 Dp11 Ep11 Xp11 Dq11 Eq11 Xq11 HX11 HY11 XN11 x0 x1 ⊢
    have P3 := implPatchOkG Dp11.out Ep11.out
    rw [HT.out.1] at P3
    refine P3.mono ?_
    rintro e w9 ⟨rfl, hb⟩
    clear x0 x1 P3
    have B12 := Lib.hid (B11.out.trans (hb.mono B11.out.size))
    have HA12 := Lib.hid (HA11.out.next hb)
    have HB12 := Lib.hid (HB11.out.next hb)
    have Dp12 := Lib.hid (Dp11.out.next hb)
    have Ep12 := Lib.hid (Ep11.out.next hb)
    have Xp12 := Lib.hid (Xp11.out.next hb)
    have Dq12 := Lib.hid (Dq11.out.next hb)
    have Eq12 := Lib.hid (Eq11.out.next hb)
    have Xq12 := Lib.hid (Xq11.out.next hb)
    have HX12 := Lib.hid (HX11.out.next hb)
    have HY12 := Lib.hid (HY11.out.next hb)
    have XN12 := Lib.hid (XN11.out.next hb)
    clear B11 HA11 HB11 Dp11 Ep11 Xp11 Dq11 Eq11 Xq11 HX11 HY11 XN11
    clear hb
    go_wp2_with fail
    have P4 := sameG HX12.out HB12.out
    rw [decide_eq_true rfl] at P4
    refine P4.mono ?_
    rintro e w10 ⟨rfl, hb⟩
    clear P4
    have B13 := Lib.hid (B12.out.trans (hb.mono B12.out.size))
    have HA13 := Lib.hid (HA12.out.next hb)
    have HB13 := Lib.hid (HB12.out.next hb)
    have Dp13 := Lib.hid (Dp12.out.next hb)
    have Ep13 := Lib.hid (Ep12.out.next hb)
    have Xp13 := Lib.hid (Xp12.out.next hb)
    have Dq13 := Lib.hid (Dq12.out.next hb)
    have Eq13 := Lib.hid (Eq12.out.next hb)
    have Xq13 := Lib.hid (Xq12.out.next hb)
    have HX13 := Lib.hid (HX12.out.next hb)
    have HY13 := Lib.hid (HY12.out.next hb)
    have XN13 := Lib.hid (XN12.out.next hb)
    clear B12 HA12 HB12 Dp12 Ep12 Xp12 Dq12 Eq12 Xq12 HX12 HY12 XN12
    clear hb
    go_wp2_with fail
    have P4 := sameG HY13.out HA13.out
    rw [decide_eq_true rfl] at P4
    refine P4.mono ?_
    rintro e w11 ⟨rfl, hb⟩
    clear P4
    have B14 := Lib.hid (B13.out.trans (hb.mono B13.out.size))
    have HA14 := Lib.hid (HA13.out.next hb)
    have HB14 := Lib.hid (HB13.out.next hb)
    have Dp14 := Lib.hid (Dp13.out.next hb)
    have Ep14 := Lib.hid (Ep13.out.next hb)
    have Xp14 := Lib.hid (Xp13.out.next hb)
    have Dq14 := Lib.hid (Dq13.out.next hb)
    have Eq14 := Lib.hid (Eq13.out.next hb)
    have Xq14 := Lib.hid (Xq13.out.next hb)
    have HX14 := Lib.hid (HX13.out.next hb)
    have HY14 := Lib.hid (HY13.out.next hb)
    have XN14 := Lib.hid (XN13.out.next hb)
    clear B13 HA13 HB13 Dp13 Ep13 Xp13 Dq13 Eq13 Xq13 HX13 HY13 XN13
    clear hb
    obtain ⟨x0, x1⟩ := XN14.out.now.two
    go_wp2_with fail
    go_ret
    exact ⟨rfl, B14.out⟩
end fnPatches
end Go.Proofs.Ytofkploffcplhaa
