/- The walk of FnChained. -/
import Derived.Test.YtofkploffcplhaaG00
import Derived.Test.YtofkploffcplhaaG24
import Derived.Test.YtofkploffcplhaaG25
import Derived.Test.YtofkploffcplhaaG23
namespace Go.Proofs.Ytofkploffcplhaa
open Go.RowKit Go.WideShapes
namespace fnChained
set_option maxRecDepth 100000 in
set_option maxHeartbeats 6400000 in
theorem walk (a : Option Addr) (len cap : Nat) (zs : List Int) (w : World) (hrow : Frame.IsRow .u8 w a len cap zs) :
    Calls Try.prog 9 #[.slice a len cap] w fun e w' => e = .returned (.bool true) ∧ Below w.heap.size w w' := by
  have hlen : len ≤ 9223372036854775807 := by
    rcases hrow with ⟨_, rfl, _⟩ | ⟨y, _, h1, h2, _⟩
    · omega
    · unfold maxLen at h2; omega
  by_cases hbig : (1048576 : Int) < len
  · go_enter Try.func9, Try.ntmps9
    go_wp2_with go_in
    go_ret
    exact ⟨rfl, Below.refl _ _⟩
  go_enter Try.func9, Try.ntmps9
  go_wp2_with (go_at_call 30; go_in)
  refine (drawChained _ _ _ _ _ hrow).mono ?_
  rintro e w1 ⟨v1, v2, u1, u2, d1, d2, e1, e2, rfl, ⟨ha, hb⟩, ⟨hc, hd⟩, hB⟩
  have B1 := Lib.hid hB
  have HA1 := Lib.hid ha
  have HB1 := Lib.hid hb
  have HC1 := Lib.hid hc
  have HD1 := Lib.hid hd
  obtain ⟨xa, ya, rfl, -⟩ := ha
  obtain ⟨xb, yb, rfl, -⟩ := hb
  obtain ⟨xc, yc, rfl, -⟩ := hc
  obtain ⟨xd, yd, rfl, -⟩ := hd
  clear hB hrow hbig hlen
  obtain ⟨na, hna⟩ : ∃ n, d1.length = n := ⟨_, rfl⟩
  obtain ⟨nb, hnb⟩ : ∃ n, d2.length = n := ⟨_, rfl⟩
  obtain ⟨nc, hnc⟩ : ∃ n, e1.length = n := ⟨_, rfl⟩
  obtain ⟨nd, hnd⟩ : ∃ n, e2.length = n := ⟨_, rfl⟩
  have HN := Lib.hid (And.intro hna (And.intro hnb (And.intro hnc hnd)))
  rw [hna] at HA1 ⊢
  rw [hnb] at HB1 ⊢
  rw [hnc] at HC1 ⊢
  rw [hnd] at HD1 ⊢
  clear hna hnb hnc hnd
  have PF := Lib.hid (fun W h1 h2 h3 h4 => @implChainedG (.slice xa na ya) (.slice xb nb yb) (.slice xc nc yc) (.slice xd nd yd) d1 d2 e1 e2 W h1 h2 h3 h4)
  have PS := Lib.hid (fun W h1 h2 h3 h4 => @specChainedG (.slice xa na ya) (.slice xb nb yb) (.slice xc nc yc) (.slice xd nd yd) d1 d2 e1 e2 W h1 h2 h3 h4)
  obtain ⟨r, hr⟩ : ∃ r, chainedO d1 d2 e1 e2 = r := ⟨_, rfl⟩
  rw [hr] at PF PS
  cases r with
  | none =>
    obtain ⟨V1, hV1⟩ : ∃ W, w1.alloc (.cells #[.slice xa na ya, .slice xb nb yb] 29) = W := ⟨_, rfl⟩
    obtain ⟨V2, hV2⟩ : ∃ W, V1.alloc (.cells #[.slice xc nc yc, .slice xd nd yd] 29) = W := ⟨_, rfl⟩
    have z1 : V1.heap.size = w1.heap.size + 1 := by rw [← hV1]; simp
    have K1 := cells_new w1 #[.slice xa na ya, .slice xb nb yb] 29
    have K2 := cells_new V1 #[.slice xc nc yc, .slice xd nd yd] 29
    rw [hV1] at K1
    rw [hV2, z1] at K2
    have K1 := K1.alloc (.cells #[.slice xc nc yc, .slice xd nd yd] 29)
    rw [hV2] at K1
    have B2 : Hid (Below w.heap.size w V2) := Lib.hid (by rw [← hV2, ← hV1]; exact (B1.out.alloc B1.out.size _).alloc (by have := B1.out.size; simp; omega) _)
    have HA2 : Hid (GotG V2 _ _) := Lib.hid (by rw [← hV2, ← hV1]; exact (HA1.out.alloc _).alloc _)
    have HB2 : Hid (GotG V2 _ _) := Lib.hid (by rw [← hV2, ← hV1]; exact (HB1.out.alloc _).alloc _)
    have HC2 : Hid (GotG V2 _ _) := Lib.hid (by rw [← hV2, ← hV1]; exact (HC1.out.alloc _).alloc _)
    have HD2 : Hid (GotG V2 _ _) := Lib.hid (by rw [← hV2, ← hV1]; exact (HD1.out.alloc _).alloc _)
    have KP2 := Lib.hid K1
    have KQ2 := Lib.hid K2
    have HV := Lib.hid (And.intro hV1 hV2)
    clear hV1 hV2 K1 K2 z1 B1 HA1 HB1 HC1 HD1
    go_wp2_with fail
    rw [HV.out.1, HV.out.2]
    clear HV
    refine (PF.out _ HA2.out HB2.out HC2.out HD2.out).mono ?_
    intro e w3 g
    simp only [GotRes2, Option.getD_none, Option.isSome_none, List.length_nil] at g
    obtain ⟨pa, pb, pc, pd, rfl, h1, h2, hb⟩ := g
    have B3 := Lib.hid (B2.out.trans (hb.mono B2.out.size))
    have HA3 := Lib.hid (HA2.out.next hb)
    have HB3 := Lib.hid (HB2.out.next hb)
    have HC3 := Lib.hid (HC2.out.next hb)
    have HD3 := Lib.hid (HD2.out.next hb)
    have KP3 := Lib.hid (KP2.out.next hb)
    have KQ3 := Lib.hid (KQ2.out.next hb)
    clear B2 HA2 HB2 HC2 HD2 KP2 KQ2
    have Dp3 := Lib.hid (h1)
    have Ep3 := Lib.hid (h2)
    clear h1 h2 hb
    have B4 := Lib.hid (B3.out.alloc B3.out.size (.cells #[.slice pa 0 pb, .slice pc 0 pd] 29))
    have HA4 := Lib.hid (HA3.out.alloc (.cells #[.slice pa 0 pb, .slice pc 0 pd] 29))
    have HB4 := Lib.hid (HB3.out.alloc (.cells #[.slice pa 0 pb, .slice pc 0 pd] 29))
    have HC4 := Lib.hid (HC3.out.alloc (.cells #[.slice pa 0 pb, .slice pc 0 pd] 29))
    have HD4 := Lib.hid (HD3.out.alloc (.cells #[.slice pa 0 pb, .slice pc 0 pd] 29))
    have KP4 := Lib.hid (KP3.out.alloc (.cells #[.slice pa 0 pb, .slice pc 0 pd] 29))
    have KQ4 := Lib.hid (KQ3.out.alloc (.cells #[.slice pa 0 pb, .slice pc 0 pd] 29))
    have Dp4 := Lib.hid (Dp3.out.alloc (.cells #[.slice pa 0 pb, .slice pc 0 pd] 29))
    have Ep4 := Lib.hid (Ep3.out.alloc (.cells #[.slice pa 0 pb, .slice pc 0 pd] 29))
    clear B3 HA3 HB3 HC3 HD3 KP3 KQ3 Dp3 Ep3
    have Xp4 := Lib.hid (cells_new w3 #[.slice pa 0 pb, .slice pc 0 pd] 29)
    obtain ⟨p0, p1⟩ := KP4.out.now.two
    obtain ⟨q0, q1⟩ := KQ4.out.now.two
    go_wp2_with fail
    generalize (w3.alloc (.cells #[.slice pa 0 pb, .slice pc 0 pd] 29)) = u4 at B4 HA4 HB4 HC4 HD4 KP4 KQ4 Dp4 Ep4 Xp4 p0 p1 q0 q1 ⊢
    clear p0 p1 q0 q1
    refine (PS.out _ HA4.out HB4.out HC4.out HD4.out).mono ?_
    intro e w4 g
    simp only [GotRes2, Option.getD_none, Option.isSome_none, List.length_nil] at g
    obtain ⟨qa, qb, qc, qd, rfl, h1, h2, hb⟩ := g
    have B5 := Lib.hid (B4.out.trans (hb.mono B4.out.size))
    have HA5 := Lib.hid (HA4.out.next hb)
    have HB5 := Lib.hid (HB4.out.next hb)
    have HC5 := Lib.hid (HC4.out.next hb)
    have HD5 := Lib.hid (HD4.out.next hb)
    have KP5 := Lib.hid (KP4.out.next hb)
    have KQ5 := Lib.hid (KQ4.out.next hb)
    have Dp5 := Lib.hid (Dp4.out.next hb)
    have Ep5 := Lib.hid (Ep4.out.next hb)
    have Xp5 := Lib.hid (Xp4.out.next hb)
    clear B4 HA4 HB4 HC4 HD4 KP4 KQ4 Dp4 Ep4 Xp4
    have Dq5 := Lib.hid (h1)
    have Eq5 := Lib.hid (h2)
    clear h1 h2 hb
    have B6 := Lib.hid (B5.out.alloc B5.out.size (.cells #[.slice qa 0 qb, .slice qc 0 qd] 29))
    have HA6 := Lib.hid (HA5.out.alloc (.cells #[.slice qa 0 qb, .slice qc 0 qd] 29))
    have HB6 := Lib.hid (HB5.out.alloc (.cells #[.slice qa 0 qb, .slice qc 0 qd] 29))
    have HC6 := Lib.hid (HC5.out.alloc (.cells #[.slice qa 0 qb, .slice qc 0 qd] 29))
    have HD6 := Lib.hid (HD5.out.alloc (.cells #[.slice qa 0 qb, .slice qc 0 qd] 29))
    have KP6 := Lib.hid (KP5.out.alloc (.cells #[.slice qa 0 qb, .slice qc 0 qd] 29))
    have KQ6 := Lib.hid (KQ5.out.alloc (.cells #[.slice qa 0 qb, .slice qc 0 qd] 29))
    have Dp6 := Lib.hid (Dp5.out.alloc (.cells #[.slice qa 0 qb, .slice qc 0 qd] 29))
    have Ep6 := Lib.hid (Ep5.out.alloc (.cells #[.slice qa 0 qb, .slice qc 0 qd] 29))
    have Xp6 := Lib.hid (Xp5.out.alloc (.cells #[.slice qa 0 qb, .slice qc 0 qd] 29))
    have Dq6 := Lib.hid (Dq5.out.alloc (.cells #[.slice qa 0 qb, .slice qc 0 qd] 29))
    have Eq6 := Lib.hid (Eq5.out.alloc (.cells #[.slice qa 0 qb, .slice qc 0 qd] 29))
    clear B5 HA5 HB5 HC5 HD5 KP5 KQ5 Dp5 Ep5 Xp5 Dq5 Eq5
    have Xq6 := Lib.hid (cells_new w4 #[.slice qa 0 qb, .slice qc 0 qd] 29)
    clear PF PS
    obtain ⟨x0, x1⟩ := Xp6.out.now.two
    obtain ⟨y0, y1⟩ := Xq6.out.now.two
    go_wp2_with fail
    generalize (w4.alloc (.cells #[.slice qa 0 qb, .slice qc 0 qd] 29)) = u5 at B6 HA6 HB6 HC6 HD6 KP6 KQ6 Dp6 Ep6 Xp6 Dq6 Eq6 Xq6 x0 x1 y0 y1 ⊢
    refine (samePatchG Dp6.out Ep6.out Dq6.out Eq6.out).mono ?_
    rintro e w6 ⟨rfl, hb⟩
    clear x0 x1 y0 y1
    have B7 := Lib.hid (B6.out.trans (hb.mono B6.out.size))
    have HA7 := Lib.hid (HA6.out.next hb)
    have HB7 := Lib.hid (HB6.out.next hb)
    have HC7 := Lib.hid (HC6.out.next hb)
    have HD7 := Lib.hid (HD6.out.next hb)
    have KP7 := Lib.hid (KP6.out.next hb)
    have KQ7 := Lib.hid (KQ6.out.next hb)
    have Dp7 := Lib.hid (Dp6.out.next hb)
    have Ep7 := Lib.hid (Ep6.out.next hb)
    have Xp7 := Lib.hid (Xp6.out.next hb)
    have Dq7 := Lib.hid (Dq6.out.next hb)
    have Eq7 := Lib.hid (Eq6.out.next hb)
    have Xq7 := Lib.hid (Xq6.out.next hb)
    clear B6 HA6 HB6 HC6 HD6 KP6 KQ6 Dp6 Ep6 Xp6 Dq6 Eq6 Xq6
    clear hb
    obtain ⟨x0, x1⟩ := Xp7.out.now.two
    obtain ⟨y0, y1⟩ := Xq7.out.now.two
    go_wp2_with fail
    refine (samePatchG Dp7.out Ep7.out Dq7.out Eq7.out).mono ?_
    rintro e w7 ⟨rfl, hb⟩
    clear x0 x1 y0 y1
    have B8 := Lib.hid (B7.out.trans (hb.mono B7.out.size))
    have HA8 := Lib.hid (HA7.out.next hb)
    have HB8 := Lib.hid (HB7.out.next hb)
    have HC8 := Lib.hid (HC7.out.next hb)
    have HD8 := Lib.hid (HD7.out.next hb)
    have KP8 := Lib.hid (KP7.out.next hb)
    have KQ8 := Lib.hid (KQ7.out.next hb)
    have Dp8 := Lib.hid (Dp7.out.next hb)
    have Ep8 := Lib.hid (Ep7.out.next hb)
    have Xp8 := Lib.hid (Xp7.out.next hb)
    have Dq8 := Lib.hid (Dq7.out.next hb)
    have Eq8 := Lib.hid (Eq7.out.next hb)
    have Xq8 := Lib.hid (Xq7.out.next hb)
    clear B7 HA7 HB7 HC7 HD7 KP7 KQ7 Dp7 Ep7 Xp7 Dq7 Eq7 Xq7
    clear hb
    go_wp2_with fail
    go_ret
    exact ⟨rfl, B8.out⟩
  | some p =>
    obtain ⟨cd, ca⟩ := p
    have HG : Hid ((chainable d1 d2 e1 e2 ∧ (chDrop d1 d2 e1 e2).length ≤ 80 ∧ (chAdd d1 d2 e1 e2).length ≤ 80) ∧ cd = chDrop d1 d2 e1 e2 ∧ ca = chAdd d1 d2 e1 e2) := Lib.hid (by
      unfold chainedO at hr
      split at hr
      · rename_i c
        simp only [Option.some.injEq, Prod.mk.injEq] at hr
        exact ⟨c, hr.1.symm, hr.2.symm⟩
      · cases hr)
    clear hr
    obtain ⟨V1, hV1⟩ : ∃ W, w1.alloc (.cells #[.slice xa na ya, .slice xb nb yb] 29) = W := ⟨_, rfl⟩
    obtain ⟨V2, hV2⟩ : ∃ W, V1.alloc (.cells #[.slice xc nc yc, .slice xd nd yd] 29) = W := ⟨_, rfl⟩
    have z1 : V1.heap.size = w1.heap.size + 1 := by rw [← hV1]; simp
    have K1 := cells_new w1 #[.slice xa na ya, .slice xb nb yb] 29
    have K2 := cells_new V1 #[.slice xc nc yc, .slice xd nd yd] 29
    rw [hV1] at K1
    rw [hV2, z1] at K2
    have K1 := K1.alloc (.cells #[.slice xc nc yc, .slice xd nd yd] 29)
    rw [hV2] at K1
    have B2 : Hid (Below w.heap.size w V2) := Lib.hid (by rw [← hV2, ← hV1]; exact (B1.out.alloc B1.out.size _).alloc (by have := B1.out.size; simp; omega) _)
    have HA2 : Hid (GotG V2 _ _) := Lib.hid (by rw [← hV2, ← hV1]; exact (HA1.out.alloc _).alloc _)
    have HB2 : Hid (GotG V2 _ _) := Lib.hid (by rw [← hV2, ← hV1]; exact (HB1.out.alloc _).alloc _)
    have HC2 : Hid (GotG V2 _ _) := Lib.hid (by rw [← hV2, ← hV1]; exact (HC1.out.alloc _).alloc _)
    have HD2 : Hid (GotG V2 _ _) := Lib.hid (by rw [← hV2, ← hV1]; exact (HD1.out.alloc _).alloc _)
    have KP2 := Lib.hid K1
    have KQ2 := Lib.hid K2
    have HV := Lib.hid (And.intro hV1 hV2)
    clear hV1 hV2 K1 K2 z1 B1 HA1 HB1 HC1 HD1
    go_wp2_with fail
    rw [HV.out.1, HV.out.2]
    clear HV
    refine (PF.out _ HA2.out HB2.out HC2.out HD2.out).mono ?_
    intro e w3 g
    simp only [GotRes2, Option.getD_some, Option.isSome_some] at g
    obtain ⟨pa, pb, pc, pd, rfl, h1, h2, hb⟩ := g
    have B3 := Lib.hid (B2.out.trans (hb.mono B2.out.size))
    have HA3 := Lib.hid (HA2.out.next hb)
    have HB3 := Lib.hid (HB2.out.next hb)
    have HC3 := Lib.hid (HC2.out.next hb)
    have HD3 := Lib.hid (HD2.out.next hb)
    have KP3 := Lib.hid (KP2.out.next hb)
    have KQ3 := Lib.hid (KQ2.out.next hb)
    clear B2 HA2 HB2 HC2 HD2 KP2 KQ2
    have Dp3 := Lib.hid (h1)
    have Ep3 := Lib.hid (h2)
    clear h1 h2 hb
    have B4 := Lib.hid (B3.out.alloc B3.out.size (.cells #[.slice pa cd.length pb, .slice pc ca.length pd] 29))
    have HA4 := Lib.hid (HA3.out.alloc (.cells #[.slice pa cd.length pb, .slice pc ca.length pd] 29))
    have HB4 := Lib.hid (HB3.out.alloc (.cells #[.slice pa cd.length pb, .slice pc ca.length pd] 29))
    have HC4 := Lib.hid (HC3.out.alloc (.cells #[.slice pa cd.length pb, .slice pc ca.length pd] 29))
    have HD4 := Lib.hid (HD3.out.alloc (.cells #[.slice pa cd.length pb, .slice pc ca.length pd] 29))
    have KP4 := Lib.hid (KP3.out.alloc (.cells #[.slice pa cd.length pb, .slice pc ca.length pd] 29))
    have KQ4 := Lib.hid (KQ3.out.alloc (.cells #[.slice pa cd.length pb, .slice pc ca.length pd] 29))
    have Dp4 := Lib.hid (Dp3.out.alloc (.cells #[.slice pa cd.length pb, .slice pc ca.length pd] 29))
    have Ep4 := Lib.hid (Ep3.out.alloc (.cells #[.slice pa cd.length pb, .slice pc ca.length pd] 29))
    clear B3 HA3 HB3 HC3 HD3 KP3 KQ3 Dp3 Ep3
    have Xp4 := Lib.hid (cells_new w3 #[.slice pa cd.length pb, .slice pc ca.length pd] 29)
    obtain ⟨p0, p1⟩ := KP4.out.now.two
    obtain ⟨q0, q1⟩ := KQ4.out.now.two
    go_wp2_with fail
    generalize (w3.alloc (.cells #[.slice pa cd.length pb, .slice pc ca.length pd] 29)) = u4 at B4 HA4 HB4 HC4 HD4 KP4 KQ4 Dp4 Ep4 Xp4 p0 p1 q0 q1 ⊢
    clear p0 p1 q0 q1
    refine (PS.out _ HA4.out HB4.out HC4.out HD4.out).mono ?_
    intro e w4 g
    simp only [GotRes2, Option.getD_some, Option.isSome_some] at g
    obtain ⟨qa, qb, qc, qd, rfl, h1, h2, hb⟩ := g
    have B5 := Lib.hid (B4.out.trans (hb.mono B4.out.size))
    have HA5 := Lib.hid (HA4.out.next hb)
    have HB5 := Lib.hid (HB4.out.next hb)
    have HC5 := Lib.hid (HC4.out.next hb)
    have HD5 := Lib.hid (HD4.out.next hb)
    have KP5 := Lib.hid (KP4.out.next hb)
    have KQ5 := Lib.hid (KQ4.out.next hb)
    have Dp5 := Lib.hid (Dp4.out.next hb)
    have Ep5 := Lib.hid (Ep4.out.next hb)
    have Xp5 := Lib.hid (Xp4.out.next hb)
    clear B4 HA4 HB4 HC4 HD4 KP4 KQ4 Dp4 Ep4 Xp4
    have Dq5 := Lib.hid (h1)
    have Eq5 := Lib.hid (h2)
    clear h1 h2 hb
    have B6 := Lib.hid (B5.out.alloc B5.out.size (.cells #[.slice qa cd.length qb, .slice qc ca.length qd] 29))
    have HA6 := Lib.hid (HA5.out.alloc (.cells #[.slice qa cd.length qb, .slice qc ca.length qd] 29))
    have HB6 := Lib.hid (HB5.out.alloc (.cells #[.slice qa cd.length qb, .slice qc ca.length qd] 29))
    have HC6 := Lib.hid (HC5.out.alloc (.cells #[.slice qa cd.length qb, .slice qc ca.length qd] 29))
    have HD6 := Lib.hid (HD5.out.alloc (.cells #[.slice qa cd.length qb, .slice qc ca.length qd] 29))
    have KP6 := Lib.hid (KP5.out.alloc (.cells #[.slice qa cd.length qb, .slice qc ca.length qd] 29))
    have KQ6 := Lib.hid (KQ5.out.alloc (.cells #[.slice qa cd.length qb, .slice qc ca.length qd] 29))
    have Dp6 := Lib.hid (Dp5.out.alloc (.cells #[.slice qa cd.length qb, .slice qc ca.length qd] 29))
    have Ep6 := Lib.hid (Ep5.out.alloc (.cells #[.slice qa cd.length qb, .slice qc ca.length qd] 29))
    have Xp6 := Lib.hid (Xp5.out.alloc (.cells #[.slice qa cd.length qb, .slice qc ca.length qd] 29))
    have Dq6 := Lib.hid (Dq5.out.alloc (.cells #[.slice qa cd.length qb, .slice qc ca.length qd] 29))
    have Eq6 := Lib.hid (Eq5.out.alloc (.cells #[.slice qa cd.length qb, .slice qc ca.length qd] 29))
    clear B5 HA5 HB5 HC5 HD5 KP5 KQ5 Dp5 Ep5 Xp5 Dq5 Eq5
    have Xq6 := Lib.hid (cells_new w4 #[.slice qa cd.length qb, .slice qc ca.length qd] 29)
    clear PF PS
    obtain ⟨x0, x1⟩ := Xp6.out.now.two
    obtain ⟨y0, y1⟩ := Xq6.out.now.two
    go_wp2_with fail
    generalize (w4.alloc (.cells #[.slice qa cd.length qb, .slice qc ca.length qd] 29)) = u5 at B6 HA6 HB6 HC6 HD6 KP6 KQ6 Dp6 Ep6 Xp6 Dq6 Eq6 Xq6 x0 x1 y0 y1 ⊢
    refine (samePatchG Dp6.out Ep6.out Dq6.out Eq6.out).mono ?_
    rintro e w6 ⟨rfl, hb⟩
    clear x0 x1 y0 y1
    have B7 := Lib.hid (B6.out.trans (hb.mono B6.out.size))
    have HA7 := Lib.hid (HA6.out.next hb)
    have HB7 := Lib.hid (HB6.out.next hb)
    have HC7 := Lib.hid (HC6.out.next hb)
    have HD7 := Lib.hid (HD6.out.next hb)
    have KP7 := Lib.hid (KP6.out.next hb)
    have KQ7 := Lib.hid (KQ6.out.next hb)
    have Dp7 := Lib.hid (Dp6.out.next hb)
    have Ep7 := Lib.hid (Ep6.out.next hb)
    have Xp7 := Lib.hid (Xp6.out.next hb)
    have Dq7 := Lib.hid (Dq6.out.next hb)
    have Eq7 := Lib.hid (Eq6.out.next hb)
    have Xq7 := Lib.hid (Xq6.out.next hb)
    clear B6 HA6 HB6 HC6 HD6 KP6 KQ6 Dp6 Ep6 Xp6 Dq6 Eq6 Xq6
    clear hb
    clear Dq7
    clear Eq7
    clear Xq7
    obtain ⟨p0, p1⟩ := KP7.out.now.two
    have I0 := GotG.is HA7.out
    have HI := Lib.hid I0.1
    have HSA := Lib.hid I0.2.1
    have nl : na ≤ 1048576 := by have := I0.2.1.1; have := I0.2.2; omega
    clear I0
    obtain ⟨p2, p3⟩ := (KP7.out.alloc (.cells #[] 55)).now.two
    have HCC := Lib.hid (cells_new w6 #[] 55)
    go_wp2_with (at_builtin; refine wpList_copy rfl _ _ rfl w6.heap.size rfl HCC.out.now xa na ya d1 rfl (HI.out.next ((Below.refl _ _).alloc (Nat.le_refl _) _)) nl ?_)
    intro vg w7 jg ho hT
    have hb := copy_below _ _ hT
    clear hT HCC HI nl p0 p1 p2 p3
    have B8 := Lib.hid (B7.out.trans (hb.mono B7.out.size))
    have HA8 := Lib.hid (HA7.out.next hb)
    have HB8 := Lib.hid (HB7.out.next hb)
    have HC8 := Lib.hid (HC7.out.next hb)
    have HD8 := Lib.hid (HD7.out.next hb)
    have KP8 := Lib.hid (KP7.out.next hb)
    have KQ8 := Lib.hid (KQ7.out.next hb)
    have Dp8 := Lib.hid (Dp7.out.next hb)
    have Ep8 := Lib.hid (Ep7.out.next hb)
    have Xp8 := Lib.hid (Xp7.out.next hb)
    clear B7 HA7 HB7 HC7 HD7 KP7 KQ7 Dp7 Ep7 Xp7
    have HGG := Lib.hid (got_of ho.now.1 HSA.out)
    clear ho hb HSA
    obtain ⟨I1, S1, L1⟩ := GotG.is HC8.out
    have IQ := Lib.hid I1
    have SQ := Lib.hid S1
    have LQ := Lib.hid L1
    have ncl : nc ≤ 81 := by have := S1.1; omega
    clear I1 S1 L1
    have HOK : Hid (patchOk cd ca = true) := Lib.hid (by rw [HG.out.2.1, HG.out.2.2, chain_ok HG.out.1.1, decide_eq_true HG.out.1.2.1, decide_eq_true HG.out.1.2.2]; rfl)
    go_wp2_with fail
    go_loopw [9, 10, 11, 12] (fun g i _ _ wr => ∃ (j : Nat) (v : Value) (gs : List Tri3), j ≤ nc ∧ i = .int .i64 j ∧ v = g ∧ Hid (GotG wr v gs) ∧ Hid (Below w7.heap.size w7 wr)) (fun _ i _ _ _ => nc - (intOf i).toNat)
    case atStart => exact ⟨0, _, d1, Nat.zero_le _, rfl, rfl, HGG, Lib.hid (Below.refl _ _)⟩
    case round =>
      obtain ⟨j, v, gs, hj, rfl, rfl, hg, hfr⟩ := hrel
      have B9 := Lib.hid (B8.out.trans (hfr.out.mono B8.out.size))
      have HA9 := Lib.hid (HA8.out.next hfr.out)
      have HB9 := Lib.hid (HB8.out.next hfr.out)
      have HC9 := Lib.hid (HC8.out.next hfr.out)
      have HD9 := Lib.hid (HD8.out.next hfr.out)
      have KP9 := Lib.hid (KP8.out.next hfr.out)
      have KQ9 := Lib.hid (KQ8.out.next hfr.out)
      have Dp9 := Lib.hid (Dp8.out.next hfr.out)
      have Ep9 := Lib.hid (Ep8.out.next hfr.out)
      have Xp9 := Lib.hid (Xp8.out.next hfr.out)
      have IQ2 := Lib.hid (IQ.out.next hfr.out)
      obtain ⟨gx, gn, gc, rfl⟩ := hg.out.form
      clear IQ HGG B8 HA8 HB8 HC8 HD8 KP8 KQ8 Dp8 Ep8 Xp8
      have hj6 : (0 : Int) ≤ (j : Int) := by omega
      by_cases hlt : j < nc
      · have hj7 : (j : Int) < (nc : Int) := by omega
        clear HA9 HC9 HD9 Dp9 Ep9 Xp9
        obtain ⟨b1, off, rfl, hb1, hl2, hm, hts, hcs⟩ := IQ2.out.cells (by omega)
        have ht : e1[j]? = some (e1[j]'(by have := LQ.out; omega)) := List.getElem?_eq_getElem (by have := LQ.out; omega)
        obtain ⟨c0, c1, c2, m0, m1, m2⟩ := hcs j _ ht
        have hsz := SQ.out.2 _ (List.mem_of_getElem? ht)
        generalize e1[j]'(by have := LQ.out; omega) = t at ht c0 c1 c2 m0 m1 m2 hsz
        obtain ⟨t0, t1, t2⟩ := t
        simp only at c0 c1 c2 hsz
        clear ht hcs hm m0 m1 m2 hts hl2 IQ2
        have HE := Lib.hid (And.intro c0 (And.intro c1 c2))
        have HSZ := Lib.hid hsz
        clear c0 c1 c2 hsz
        obtain ⟨p0, p1⟩ := KP9.out.now.two
        obtain ⟨q0, q1⟩ := KQ9.out.now.two
        obtain ⟨c0, c1, c2⟩ := HE.out
        obtain ⟨hin, hhin⟩ : ∃ b : Bool, decide ((t0, t1, t2) ∈ d2) = b := ⟨_, rfl⟩
        have C1 := Lib.hid (fun W h => @hasG (.slice xb nb yb) d2 W h t0 t1 t2)
        rw [hhin] at C1
        clear hhin
        have GG9 := hg
        have FR9 := hfr
        have HE9 := HE
        clear hg hfr HE
        have hb9 := hb1
        clear hb1
        go_wp2_with fail
        clear p0 p1 q0 q1 c0 c1 c2
        have B10 := Lib.hid B9.out.drew
        have KP10 := Lib.hid KP9.out.drew
        have KQ10 := Lib.hid KQ9.out.drew
        have HB10 := Lib.hid HB9.out.drew
        have GG10 := Lib.hid GG9.out.drew
        clear B9 KP9 KQ9 HB9 GG9
        have FR10 := Lib.hid FR9.out.drew
        have HE10 : Hid (wr.drew.cell? _ = _ ∧ wr.drew.cell? _ = _ ∧ wr.drew.cell? _ = _) := Lib.hid HE9.out
        have hb10 : b1 < wr.drew.heap.size := hb9
        clear FR9 HE9 hb9
        go_region_held3 (fun w' => (w'.cell? ⟨w1.heap.size, 0, none⟩ = some (.slice xa na ya) ∧ w'.cell? ⟨w1.heap.size, 1, none⟩ = some (.slice xb nb yb)) ∧ (w'.cell? ⟨w1.heap.size + 1, 0, none⟩ = some (.slice (some ⟨b1, off, none⟩) nc yc) ∧ w'.cell? ⟨w1.heap.size + 1, 1, none⟩ = some (.slice xd nd yd)) ∧ (w'.cell? ⟨b1, off + j * 3, none⟩ = some (.string t0) ∧ w'.cell? ⟨b1, off + j * 3 + 1, none⟩ = some (.string t1) ∧ w'.cell? ⟨b1, off + j * 3 + 2, none⟩ = some (.string t2)))
          (first | exact ⟨KP11.out.now.two, KQ11.out.now.two, HE11.out⟩ | exact ⟨KP10.out.now.two, KQ10.out.now.two, HE10.out⟩)
          (first | (go_at_call 35; refine (C1.out _ HB10.out).mono ?_; rintro e w8 ⟨rfl, hb⟩; have B11 := Lib.hid (B10.out.trans (hb.mono B10.out.size)); have KP11 := Lib.hid (KP10.out.next hb); have KQ11 := Lib.hid (KQ10.out.next hb); have HB11 := Lib.hid (HB10.out.next hb); have GG11 := Lib.hid (GG10.out.next hb); clear B10 KP10 KQ10 HB10 GG10; have FR11 := Lib.hid (FR10.out.trans (hb.mono FR10.out.size)); have HE11 := Lib.hid (And.intro ((hb.cell (p := ⟨b1, _, none⟩) hb10).trans HE10.out.1) (And.intro ((hb.cell (p := ⟨b1, _, none⟩) hb10).trans HE10.out.2.1) ((hb.cell (p := ⟨b1, _, none⟩) hb10).trans HE10.out.2.2))); have hb11 := Nat.lt_of_lt_of_le hb10 hb.size; clear FR10 HE10 hb10; clear hb))
        cases hin
        · obtain ⟨q0, q1⟩ := KQ11.out.now.two
          obtain ⟨c0, c1, c2⟩ := HE11.out
          have CW := implWithG GG11.out HSZ.out.1 HSZ.out.2.1 HSZ.out.2.2
          unfold GotRes at CW
          generalize withT gs (t0, t1, t2) = r5 at CW
          have HCW := Lib.hid CW
          clear CW
          go_wp2_with fail
          refine HCW.out.mono ?_
          rintro e w9 ⟨vz, rfl, hz, hb⟩
          clear q0 q1 c0 c1 c2 HCW
          have B12 := Lib.hid (B11.out.trans (hb.mono B11.out.size))
          have FR12 := Lib.hid (FR11.out.trans (hb.mono FR11.out.size))
          have HZ := Lib.hid hz
          clear hb hz
          cases r5 with
          | none => go_wp2_with fail; go_ret; exact ⟨rfl, B12.out⟩
          | some gs2 =>
            simp only [Option.getD_some] at HZ
            go_wp2_with fail
            go_roundw
            case rel => exact ⟨j + 1, _, gs2, by omega, by go_num, rfl, HZ, FR12⟩
            case measure => simp [intOf]; omega
        · go_wp2_with fail
          go_roundw
          case rel => exact ⟨j + 1, _, gs, by omega, by go_num, rfl, GG11, FR11⟩
          case measure => simp [intOf]; omega
      · obtain rfl : j = nc := by omega
        have GG9 := hg
        clear hg hfr hlt hj hj6 IQ2
        have CE := chain_end (g := gs) HG.out
        have P1 : ∀ W, GotG W (.slice gx gn gc) gs → GotG W (.slice xa na ya) d1 → GotG W (.slice xb nb yb) d2 → Calls Try.prog 24 #[.slice gx gn gc, .agg #[.slice xa na ya, .slice xb nb yb]] W fun e w' => ∃ z, e = .returned (.tuple #[z, .bool (patchedO gs d1 d2).isSome]) ∧ GotG w' z ((patchedO gs d1 d2).getD []) ∧ Below W.heap.size W w' := fun W h h1 h2 => implPatchedG h h1 h2
        generalize (patchedO gs d1 d2).isSome = one at CE P1
        generalize (patchedO gs d1 d2).getD [] = X at CE P1
        have P3 : ∀ W, GotG W (.slice gx gn gc) gs → GotG W (.slice pa cd.length pb) cd → GotG W (.slice pc ca.length pd) ca → Calls Try.prog 24 #[.slice gx gn gc, .agg #[.slice pa cd.length pb, .slice pc ca.length pd]] W fun e w' => ∃ z, e = .returned (.tuple #[z, .bool (patchedO gs cd ca).isSome]) ∧ GotG w' z ((patchedO gs cd ca).getD []) ∧ Below W.heap.size W w' := fun W h h1 h2 => implPatchedG h h1 h2
        generalize (patchedO gs cd ca).isSome = three at CE P3
        generalize (patchedO gs cd ca).getD [] = Z at CE P3
        have HP1 := Lib.hid P1
        have HP3 := Lib.hid P3
        clear P1 P3
        obtain ⟨p0, p1⟩ := KP9.out.now.two
        obtain ⟨q0, q1⟩ := KQ9.out.now.two
        go_wp2_with fail
        refine (HP1.out _ GG9.out HA9.out HB9.out).mono ?_
        rintro e w10 ⟨vx, rfl, hx, hb⟩
        clear p0 p1 q0 q1
        have B10 := Lib.hid (B9.out.trans (hb.mono B9.out.size))
        have HA10 := Lib.hid (HA9.out.next hb)
        have HB10 := Lib.hid (HB9.out.next hb)
        have HC10 := Lib.hid (HC9.out.next hb)
        have HD10 := Lib.hid (HD9.out.next hb)
        have KP10 := Lib.hid (KP9.out.next hb)
        have KQ10 := Lib.hid (KQ9.out.next hb)
        have Dp10 := Lib.hid (Dp9.out.next hb)
        have Ep10 := Lib.hid (Ep9.out.next hb)
        have Xp10 := Lib.hid (Xp9.out.next hb)
        have GG10 := Lib.hid (GG9.out.next hb)
        clear B9 HA9 HB9 HC9 HD9 KP9 KQ9 Dp9 Ep9 Xp9 GG9
        have Vx10 := Lib.hid (hx)
        obtain ⟨xA, xN, xC, rfl⟩ := hx.form
        clear hb hx HP1
        have P2 : ∀ W, GotG W (.slice xA xN xC) X → GotG W (.slice xc j yc) e1 → GotG W (.slice xd nd yd) e2 → Calls Try.prog 24 #[.slice xA xN xC, .agg #[.slice xc j yc, .slice xd nd yd]] W fun e w' => ∃ z, e = .returned (.tuple #[z, .bool (patchedO X e1 e2).isSome]) ∧ GotG w' z ((patchedO X e1 e2).getD []) ∧ Below W.heap.size W w' := fun W h h1 h2 => implPatchedG h h1 h2
        generalize (patchedO X e1 e2).isSome = two at CE P2
        generalize (patchedO X e1 e2).getD [] = Y at CE P2
        have HP2 := Lib.hid P2
        have HCE := Lib.hid CE
        clear P2 CE
        obtain ⟨p0, p1⟩ := KQ10.out.now.two
        obtain ⟨q0, q1⟩ := Xp10.out.now.two
        go_wp2_with fail
        refine (HP2.out _ Vx10.out HC10.out HD10.out).mono ?_
        rintro e w11 ⟨vy, rfl, hy, hb⟩
        clear p0 p1 q0 q1
        have B11 := Lib.hid (B10.out.trans (hb.mono B10.out.size))
        have HA11 := Lib.hid (HA10.out.next hb)
        have HB11 := Lib.hid (HB10.out.next hb)
        have HC11 := Lib.hid (HC10.out.next hb)
        have HD11 := Lib.hid (HD10.out.next hb)
        have KP11 := Lib.hid (KP10.out.next hb)
        have KQ11 := Lib.hid (KQ10.out.next hb)
        have Dp11 := Lib.hid (Dp10.out.next hb)
        have Ep11 := Lib.hid (Ep10.out.next hb)
        have Xp11 := Lib.hid (Xp10.out.next hb)
        have GG11 := Lib.hid (GG10.out.next hb)
        have Vx11 := Lib.hid (Vx10.out.next hb)
        clear B10 HA10 HB10 HC10 HD10 KP10 KQ10 Dp10 Ep10 Xp10 GG10 Vx10
        have Vy11 := Lib.hid (hy)
        obtain ⟨yA, yN, yC, rfl⟩ := hy.form
        clear hb hy HP2
        obtain ⟨p0, p1⟩ := KQ11.out.now.two
        obtain ⟨q0, q1⟩ := Xp11.out.now.two
        go_wp2_with fail
        refine (HP3.out _ GG11.out Dp11.out Ep11.out).mono ?_
        rintro e w12 ⟨vz, rfl, hz, hb⟩
        clear p0 p1 q0 q1
        have B12 := Lib.hid (B11.out.trans (hb.mono B11.out.size))
        have HA12 := Lib.hid (HA11.out.next hb)
        have HB12 := Lib.hid (HB11.out.next hb)
        have HC12 := Lib.hid (HC11.out.next hb)
        have HD12 := Lib.hid (HD11.out.next hb)
        have KP12 := Lib.hid (KP11.out.next hb)
        have KQ12 := Lib.hid (KQ11.out.next hb)
        have Dp12 := Lib.hid (Dp11.out.next hb)
        have Ep12 := Lib.hid (Ep11.out.next hb)
        have Xp12 := Lib.hid (Xp11.out.next hb)
        have GG12 := Lib.hid (GG11.out.next hb)
        have Vx12 := Lib.hid (Vx11.out.next hb)
        have Vy12 := Lib.hid (Vy11.out.next hb)
        clear B11 HA11 HB11 HC11 HD11 KP11 KQ11 Dp11 Ep11 Xp11 GG11 Vx11 Vy11
        have Vz12 := Lib.hid (hz)
        obtain ⟨zA, zN, zC, rfl⟩ := hz.form
        clear hb hz HP3
        clear HA12
        clear HB12
        clear HC12
        clear HD12
        clear KP12
        clear KQ12
        clear Vx12
        clear GG12
        have PO := implPatchOkG Dp12.out Ep12.out
        rw [HOK.out] at PO
        have HPO := Lib.hid PO
        clear PO
        have SG := Lib.hid (fun W h k => @sameG (.slice zA zN zC) (.slice yA yN yC) Z Y W h k)
        obtain ⟨p0, p1⟩ := Xp12.out.now.two
        go_wp2_with fail
        refine HPO.out.mono ?_
        rintro e w13 ⟨rfl, hb⟩
        clear p0 p1 HPO
        clear Dp12
        clear Ep12
        clear Xp12
        have B13 := Lib.hid (B12.out.trans (hb.mono B12.out.size))
        have Vy13 := Lib.hid (Vy12.out.next hb)
        have Vz13 := Lib.hid (Vz12.out.next hb)
        clear B12 Vy12 Vz12
        clear hb
        cases one
        · go_wp2_with fail
          go_ret
          exact ⟨rfl, B13.out⟩
        cases two
        · go_wp2_with fail
          go_ret
          exact ⟨rfl, B13.out⟩
        obtain ⟨rfl, rfl⟩ := HCE.out rfl rfl
        rw [decide_eq_true rfl] at SG
        clear HCE
        go_wp2_with fail
        refine (SG.out _ Vz13.out Vy13.out).mono ?_
        rintro e w14 ⟨rfl, hb⟩
        have B14 := Lib.hid (B13.out.trans (hb.mono B13.out.size))
        have Vy14 := Lib.hid (Vy13.out.next hb)
        have Vz14 := Lib.hid (Vz13.out.next hb)
        clear B13 Vy13 Vz13
        clear hb
        go_wp2_with fail
        go_ret
        exact ⟨rfl, B14.out⟩
end fnChained
end Go.Proofs.Ytofkploffcplhaa
