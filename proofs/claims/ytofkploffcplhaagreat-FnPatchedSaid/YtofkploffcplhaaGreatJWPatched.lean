/- The walk of FnPatched. -/
import Derived.Test.YtofkploffcplhaaGreatG00
import Derived.Test.YtofkploffcplhaaGreatG23
import Derived.Test.YtofkploffcplhaaGreatG22
import Derived.Deep.RegionHeld3
namespace Go.Proofs.YtofkploffcplhaaGreat
open Go.RowKit Go.WideShapes
theorem gotN {w : World} {v : Value} {ts : List Tri3} (h : GotG w v ts) : ∃ x n c, v = .slice x n c ∧ ts.length = n ∧ n ≤ 81 ∧ IsTris w x n c ts := by
  obtain ⟨y, d, e, hi, hp, hs⟩ := h
  exact ⟨y, _, d, e, rfl, hs.1, hi⟩
theorem sameT {v u : Value} {ts : List Tri3} {w : World} (h : GotG w v ts) (k : GotG w u ts) : Calls Tryz.prog 9 #[v, u] w fun e w' => e = .returned (.bool true) ∧ Below w.heap.size w w' := by
  have := sameG h k
  rwa [decide_eq_true rfl] at this
theorem implPatchOkN {v u : Value} {ts us : List Tri3} {w : World} {b : Bool} (h : GotG w v ts) (k : GotG w u us) (e : patchOk ts us = b) : Calls Tryz.prog 13 #[.agg #[v, u]] w fun e w' => e = .returned (.bool b) ∧ Below w.heap.size w w' := by
  subst e; exact implPatchOkG h k
theorem specPatchOkN {v u : Value} {ts us : List Tri3} {w : World} {b : Bool} (h : GotG w v ts) (k : GotG w u us) (e : patchOk ts us = b) : Calls Tryz.prog 14 #[.agg #[v, u]] w fun e w' => e = .returned (.bool b) ∧ Below w.heap.size w w' := by
  subst e; exact specPatchOkG h k
theorem implInverseN {v u : Value} {ts us : List Tri3} {w : World} {n m : Nat} (h : GotG w v ts) (k : GotG w u us) (e : ts.length = n ∧ us.length = m) : Calls Tryz.prog 11 #[.agg #[v, u]] w fun e w' => ∃ x1 c1 x2 c2, e = .returned (.agg #[.slice x1 m c1, .slice x2 n c2]) ∧ GotG w' (.slice x1 m c1) us ∧ GotG w' (.slice x2 n c2) ts ∧ Below w.heap.size w w' := by
  obtain ⟨rfl, rfl⟩ := e; exact implInverseG h k
theorem specInverseN {v u : Value} {ts us : List Tri3} {w : World} {n m : Nat} (h : GotG w v ts) (k : GotG w u us) (e : ts.length = n ∧ us.length = m) : Calls Tryz.prog 12 #[.agg #[v, u]] w fun e w' => ∃ x1 c1 x2 c2, e = .returned (.agg #[.slice x1 m c1, .slice x2 n c2]) ∧ GotG w' (.slice x1 m c1) us ∧ GotG w' (.slice x2 n c2) ts ∧ Below w.heap.size w w' := by
  obtain ⟨rfl, rfl⟩ := e; exact specInverseG h k
theorem isRow_below {k : IntKind} {w w' : World} {a : Option Addr} {len cap : Nat} {zs : List Int} (h : Frame.IsRow k w a len cap zs) (hb : Below w.heap.size w w') : Frame.IsRow k w' a len cap zs := isRow_grown h (grown_of_below hb)
namespace fnPatched
theorem drop_not {g d a h : List Tri3} (e : patchedO g d a = some h) : ∀ t ∈ d, ¬ t ∈ h := by
  intro t ht hh
  obtain ⟨_, h2, _⟩ := patchedO_some e
  rcases (patched_mem e t).1 hh with c | c
  · exact c.2 ht
  · exact anyT_no.1 (patchOk_iff.1 h2).2.2 t ht c
theorem add_in {g d a h : List Tri3} (e : patchedO g d a = some h) : inAll a h = true := inAll_of fun t ht => (patched_mem e t).2 (.inr ht)
set_option maxRecDepth 100000 in
set_option maxHeartbeats 6400000 in
theorem walk (a : Option Addr) (len cap : Nat) (zs : List Int) (w : World) (hrow : Frame.IsRow .u8 w a len cap zs) :
    Calls Tryz.prog 3 #[.slice a len cap] w fun e w' => e = .returned (.bool true) ∧ Below w.heap.size w w' := by
  have hlen : len ≤ 9223372036854775807 := by
    rcases hrow with ⟨_, rfl, _⟩ | ⟨y, _, h1, h2, _⟩
    · omega
    · unfold maxLen at h2; omega
  by_cases hbig : (1048576 : Int) < len
  · go_enter Tryz.func3, Tryz.ntmps3
    go_wp2_with go_in
    go_ret
    exact ⟨rfl, Below.refl _ _⟩
  have HROW := Lib.hid hrow
  have HLEN := Lib.hid hlen
  go_enter Tryz.func3, Tryz.ntmps3
  go_wp2_with (go_at_call 4; go_in)
  refine (drawPatched _ _ _ _ _ hrow hlen).mono ?_
  rintro e w1 ⟨vg, v1, v2, gs, d1, d2, rfl, hg, ⟨h1, h2⟩, hB⟩
  have B1 := Lib.hid hB
  have HG1 := Lib.hid hg
  have HD1 := Lib.hid h1
  have HA1 := Lib.hid h2
  obtain ⟨xg, ng, cg, rfl, lg, bg, -⟩ := gotN hg
  obtain ⟨x1, n1, c1, rfl, l1, b1, -⟩ := gotN h1
  obtain ⟨x2, n2, c2, rfl, l2, b2, -⟩ := gotN h2
  have HN := Lib.hid (And.intro lg (And.intro l1 l2))
  have HBD := Lib.hid (And.intro bg (And.intro b1 b2))
  clear hB hrow hbig hlen hg h1 h2 lg l1 l2 bg b1 b2
  obtain ⟨r, hr⟩ : ∃ r, patchedO gs d1 d2 = r := ⟨_, rfl⟩
  cases r with
  | none =>
    have B2 := Lib.hid (B1.out.alloc B1.out.size (.cells #[.slice x1 n1 c1, .slice x2 n2 c2] 26))
    have HG2 := Lib.hid (HG1.out.alloc (.cells #[.slice x1 n1 c1, .slice x2 n2 c2] 26))
    have HD2 := Lib.hid (HD1.out.alloc (.cells #[.slice x1 n1 c1, .slice x2 n2 c2] 26))
    have HA2 := Lib.hid (HA1.out.alloc (.cells #[.slice x1 n1 c1, .slice x2 n2 c2] 26))
    clear B1 HG1 HD1 HA1
    have KP2 := Lib.hid (cells_new w1 #[.slice x1 n1 c1, .slice x2 n2 c2] 26)
    have P1 := implPatchedG HG2.out HD2.out HA2.out
    rw [hr] at P1
    unfold GotRes at P1
    simp only [Option.getD_none, Option.isSome_none] at P1
    have HP1 := Lib.hid P1
    clear P1
    go_wp2_with fail
    generalize hU : (w1.alloc (.cells #[.slice x1 n1 c1, .slice x2 n2 c2] 26)) = u1 at B2 HG2 HD2 HA2 KP2 HP1 ⊢
    clear hU
    refine HP1.out.mono ?_
    rintro e w2 ⟨vh, rfl, hh, hb⟩
    clear HP1
    have B3 := Lib.hid (B2.out.trans (hb.mono B2.out.size))
    have HG3 := Lib.hid (HG2.out.next hb)
    have HD3 := Lib.hid (HD2.out.next hb)
    have HA3 := Lib.hid (HA2.out.next hb)
    have KP3 := Lib.hid (KP2.out.next hb)
    clear B2 HG2 HD2 HA2 KP2
    have GH3 := Lib.hid (hh)
    obtain ⟨xh, nh, ch, rfl, lh, bh, -⟩ := gotN hh
    have HNH := Lib.hid (And.intro lh bh)
    clear hh hb lh bh
    have P2 := specPatchedG HG3.out HD3.out HA3.out
    rw [hr] at P2
    unfold GotRes at P2
    simp only [Option.getD_none, Option.isSome_none] at P2
    have HP2 := Lib.hid P2
    clear P2
    obtain ⟨p0, p1⟩ := KP3.out.now.two
    go_wp2_with fail
    refine HP2.out.mono ?_
    rintro e w3 ⟨vw, rfl, hw, hb⟩
    clear HP2 p0 p1
    have B4 := Lib.hid (B3.out.trans (hb.mono B3.out.size))
    have HG4 := Lib.hid (HG3.out.next hb)
    have HD4 := Lib.hid (HD3.out.next hb)
    have HA4 := Lib.hid (HA3.out.next hb)
    have KP4 := Lib.hid (KP3.out.next hb)
    have GH4 := Lib.hid (GH3.out.next hb)
    clear B3 HG3 HD3 HA3 KP3 GH3
    have GW4 := Lib.hid (hw)
    obtain ⟨xw, nw, cw, rfl⟩ := hw.form
    clear hw hb
    have HI := Lib.hid (drawInverse w3 a len cap zs (isRow_below HROW.out B4.out) HLEN.out)
    go_wp2_with fail
    refine HI.out.mono ?_
    rintro e w4 ⟨y1, y2, e1, e2, rfl, ⟨hx1, hx2⟩, hb⟩
    clear HI
    have B5 := Lib.hid (B4.out.trans (hb.mono B4.out.size))
    have HG5 := Lib.hid (HG4.out.next hb)
    have HD5 := Lib.hid (HD4.out.next hb)
    have HA5 := Lib.hid (HA4.out.next hb)
    have KP5 := Lib.hid (KP4.out.next hb)
    have GH5 := Lib.hid (GH4.out.next hb)
    have GW5 := Lib.hid (GW4.out.next hb)
    clear B4 HG4 HD4 HA4 KP4 GH4 GW4
    have XA5 := Lib.hid (hx1)
    have XB5 := Lib.hid (hx2)
    obtain ⟨z1, m1, f1, rfl, lx1, -, -⟩ := gotN hx1
    obtain ⟨z2, m2, f2, rfl, lx2, -, -⟩ := gotN hx2
    clear hx1 hx2 hb
    have HXL := Lib.hid (And.intro lx1 lx2)
    clear lx1 lx2
    have B6 := Lib.hid (B5.out.alloc B5.out.size (.cells #[.slice z1 m1 f1, .slice z2 m2 f2] 26))
    have HG6 := Lib.hid (HG5.out.alloc (.cells #[.slice z1 m1 f1, .slice z2 m2 f2] 26))
    have HD6 := Lib.hid (HD5.out.alloc (.cells #[.slice z1 m1 f1, .slice z2 m2 f2] 26))
    have HA6 := Lib.hid (HA5.out.alloc (.cells #[.slice z1 m1 f1, .slice z2 m2 f2] 26))
    have KP6 := Lib.hid (KP5.out.alloc (.cells #[.slice z1 m1 f1, .slice z2 m2 f2] 26))
    have GH6 := Lib.hid (GH5.out.alloc (.cells #[.slice z1 m1 f1, .slice z2 m2 f2] 26))
    have GW6 := Lib.hid (GW5.out.alloc (.cells #[.slice z1 m1 f1, .slice z2 m2 f2] 26))
    have XA6 := Lib.hid (XA5.out.alloc (.cells #[.slice z1 m1 f1, .slice z2 m2 f2] 26))
    have XB6 := Lib.hid (XB5.out.alloc (.cells #[.slice z1 m1 f1, .slice z2 m2 f2] 26))
    clear B5 HG5 HD5 HA5 KP5 GH5 GW5 XA5 XB5
    have KX6 := Lib.hid (cells_new w4 #[.slice z1 m1 f1, .slice z2 m2 f2] 26)
    obtain ⟨pb, hpb⟩ : ∃ b, patchOk e1 e2 = b := ⟨_, rfl⟩
    have HPB := Lib.hid hpb
    clear hpb
    obtain ⟨k0, k1⟩ := KX6.out.now.two
    go_wp2_with fail
    clear k0 k1
    cases pb
    all_goals
      generalize hU : (w4.alloc (.cells #[.slice z1 m1 f1, .slice z2 m2 f2] 26)) = u5 at B6 HG6 HD6 HA6 KP6 GH6 GW6 XA6 XB6 KX6 ⊢
      clear hU
      have B7 := Lib.hid B6.out.drew
      have HG7 := Lib.hid HG6.out.drew
      have HD7 := Lib.hid HD6.out.drew
      have HA7 := Lib.hid HA6.out.drew
      have KP7 := Lib.hid KP6.out.drew
      have GH7 := Lib.hid GH6.out.drew
      have GW7 := Lib.hid GW6.out.drew
      have XA7 := Lib.hid XA6.out.drew
      have XB7 := Lib.hid XB6.out.drew
      have KX7 := Lib.hid KX6.out.drew
      clear B6 HG6 HD6 HA6 KP6 GH6 GW6 XA6 XB6 KX6
      go_region_held3 (fun w' => w'.cell? ⟨w4.heap.size, 0, none⟩ = some (.slice z1 m1 f1) ∧ w'.cell? ⟨w4.heap.size, 1, none⟩ = some (.slice z2 m2 f2))
        (first | with_reducible exact KX16.out.now.two | with_reducible exact KX15.out.now.two | with_reducible exact KX14.out.now.two | with_reducible exact KX13.out.now.two | with_reducible exact KX12.out.now.two | with_reducible exact KX11.out.now.two | with_reducible exact KX10.out.now.two | with_reducible exact KX9.out.now.two | with_reducible exact KX8.out.now.two | with_reducible exact KX7.out.now.two)
        (first | (go_at_call 10; have ZZ := B15; clear ZZ; refine (samePatchG JA15.out JB15.out XA15.out XB15.out).mono ?_; rintro e w14 ⟨rfl, hb⟩; clear JA15; clear JB15; have B16 := Lib.hid (B15.out.trans (hb.mono B15.out.size)); have HG16 := Lib.hid (HG15.out.next hb); have HD16 := Lib.hid (HD15.out.next hb); have HA16 := Lib.hid (HA15.out.next hb); have KP16 := Lib.hid (KP15.out.next hb); have GH16 := Lib.hid (GH15.out.next hb); have XA16 := Lib.hid (XA15.out.next hb); have XB16 := Lib.hid (XB15.out.next hb); have KX16 := Lib.hid (KX15.out.next hb); clear B15 HG15 HD15 HA15 KP15 GH15 XA15 XB15 KX15; clear hb) | (go_at_call 11; have ZZ := B14; clear ZZ; refine (implInverseN IA14.out IB14.out (And.intro HXL.out.2 HXL.out.1)).mono ?_; rintro e w13 ⟨s5, s6, s7, s8, rfl, hi1, hi2, hb⟩; clear IA14; clear IB14; have B15 := Lib.hid (B14.out.trans (hb.mono B14.out.size)); have HG15 := Lib.hid (HG14.out.next hb); have HD15 := Lib.hid (HD14.out.next hb); have HA15 := Lib.hid (HA14.out.next hb); have KP15 := Lib.hid (KP14.out.next hb); have GH15 := Lib.hid (GH14.out.next hb); have XA15 := Lib.hid (XA14.out.next hb); have XB15 := Lib.hid (XB14.out.next hb); have KX15 := Lib.hid (KX14.out.next hb); clear B14 HG14 HD14 HA14 KP14 GH14 XA14 XB14 KX14; have JA15 := Lib.hid (hi1); have JB15 := Lib.hid (hi2); clear hb hi1 hi2) | (go_at_call 11; have ZZ := B13; clear ZZ; refine (implInverseN XA13.out XB13.out HXL.out).mono ?_; rintro e w12 ⟨s1, s2, s3, s4, rfl, hi1, hi2, hb⟩; have B14 := Lib.hid (B13.out.trans (hb.mono B13.out.size)); have HG14 := Lib.hid (HG13.out.next hb); have HD14 := Lib.hid (HD13.out.next hb); have HA14 := Lib.hid (HA13.out.next hb); have KP14 := Lib.hid (KP13.out.next hb); have GH14 := Lib.hid (GH13.out.next hb); have XA14 := Lib.hid (XA13.out.next hb); have XB14 := Lib.hid (XB13.out.next hb); have KX14 := Lib.hid (KX13.out.next hb); clear B13 HG13 HD13 HA13 KP13 GH13 XA13 XB13 KX13; have IA14 := Lib.hid (hi1); have IB14 := Lib.hid (hi2); clear hb hi1 hi2) | (go_at_call 14; have ZZ := B12; clear ZZ; refine (specPatchOkN XA12.out XB12.out HPB.out).mono ?_; rintro e w11 ⟨rfl, hb⟩; have B13 := Lib.hid (B12.out.trans (hb.mono B12.out.size)); have HG13 := Lib.hid (HG12.out.next hb); have HD13 := Lib.hid (HD12.out.next hb); have HA13 := Lib.hid (HA12.out.next hb); have KP13 := Lib.hid (KP12.out.next hb); have GH13 := Lib.hid (GH12.out.next hb); have XA13 := Lib.hid (XA12.out.next hb); have XB13 := Lib.hid (XB12.out.next hb); have KX13 := Lib.hid (KX12.out.next hb); clear B12 HG12 HD12 HA12 KP12 GH12 XA12 XB12 KX12; clear hb) | (go_at_call 13; have ZZ := B11; clear ZZ; refine (implPatchOkN XA11.out XB11.out HPB.out).mono ?_; rintro e w10 ⟨rfl, hb⟩; have B12 := Lib.hid (B11.out.trans (hb.mono B11.out.size)); have HG12 := Lib.hid (HG11.out.next hb); have HD12 := Lib.hid (HD11.out.next hb); have HA12 := Lib.hid (HA11.out.next hb); have KP12 := Lib.hid (KP11.out.next hb); have GH12 := Lib.hid (GH11.out.next hb); have XA12 := Lib.hid (XA11.out.next hb); have XB12 := Lib.hid (XB11.out.next hb); have KX12 := Lib.hid (KX11.out.next hb); clear B11 HG11 HD11 HA11 KP11 GH11 XA11 XB11 KX11; clear hb) | (go_at_call 10; have ZZ := B10; clear ZZ; refine (samePatchG IA10.out IB10.out JA10.out JB10.out).mono ?_; rintro e w9 ⟨rfl, hb⟩; clear IA10; clear IB10; clear JA10; clear JB10; have B11 := Lib.hid (B10.out.trans (hb.mono B10.out.size)); have HG11 := Lib.hid (HG10.out.next hb); have HD11 := Lib.hid (HD10.out.next hb); have HA11 := Lib.hid (HA10.out.next hb); have KP11 := Lib.hid (KP10.out.next hb); have GH11 := Lib.hid (GH10.out.next hb); have XA11 := Lib.hid (XA10.out.next hb); have XB11 := Lib.hid (XB10.out.next hb); have KX11 := Lib.hid (KX10.out.next hb); clear B10 HG10 HD10 HA10 KP10 GH10 XA10 XB10 KX10; clear hb) | (go_at_call 12; have ZZ := B9; clear ZZ; refine (specInverseN XA9.out XB9.out HXL.out).mono ?_; rintro e w8 ⟨s5, s6, s7, s8, rfl, hi1, hi2, hb⟩; have B10 := Lib.hid (B9.out.trans (hb.mono B9.out.size)); have HG10 := Lib.hid (HG9.out.next hb); have HD10 := Lib.hid (HD9.out.next hb); have HA10 := Lib.hid (HA9.out.next hb); have KP10 := Lib.hid (KP9.out.next hb); have GH10 := Lib.hid (GH9.out.next hb); have XA10 := Lib.hid (XA9.out.next hb); have XB10 := Lib.hid (XB9.out.next hb); have KX10 := Lib.hid (KX9.out.next hb); have IA10 := Lib.hid (IA9.out.next hb); have IB10 := Lib.hid (IB9.out.next hb); clear B9 HG9 HD9 HA9 KP9 GH9 XA9 XB9 KX9 IA9 IB9; have JA10 := Lib.hid (hi1); have JB10 := Lib.hid (hi2); clear hb hi1 hi2) | (go_at_call 11; have ZZ := B8; clear ZZ; refine (implInverseN XA8.out XB8.out HXL.out).mono ?_; rintro e w7 ⟨s1, s2, s3, s4, rfl, hi1, hi2, hb⟩; have B9 := Lib.hid (B8.out.trans (hb.mono B8.out.size)); have HG9 := Lib.hid (HG8.out.next hb); have HD9 := Lib.hid (HD8.out.next hb); have HA9 := Lib.hid (HA8.out.next hb); have KP9 := Lib.hid (KP8.out.next hb); have GH9 := Lib.hid (GH8.out.next hb); have XA9 := Lib.hid (XA8.out.next hb); have XB9 := Lib.hid (XB8.out.next hb); have KX9 := Lib.hid (KX8.out.next hb); clear B8 HG8 HD8 HA8 KP8 GH8 XA8 XB8 KX8; have IA9 := Lib.hid (hi1); have IB9 := Lib.hid (hi2); clear hb hi1 hi2) | (go_at_call 9; have ZZ := B7; clear ZZ; refine (sameT GH7.out GW7.out).mono ?_; rintro e w6 ⟨rfl, hb⟩; clear GW7; have B8 := Lib.hid (B7.out.trans (hb.mono B7.out.size)); have HG8 := Lib.hid (HG7.out.next hb); have HD8 := Lib.hid (HD7.out.next hb); have HA8 := Lib.hid (HA7.out.next hb); have KP8 := Lib.hid (KP7.out.next hb); have GH8 := Lib.hid (GH7.out.next hb); have XA8 := Lib.hid (XA7.out.next hb); have XB8 := Lib.hid (XB7.out.next hb); have KX8 := Lib.hid (KX7.out.next hb); clear B7 HG7 HD7 HA7 KP7 GH7 XA7 XB7 KX7; clear hb))
      clear HXL HPB
      clear XA16
      clear XB16
      clear KX16
      go_wp2_with fail
      go_ret
      exact ⟨rfl, B16.out⟩
  | some hs =>
    have HR := Lib.hid hr
    have B2 := Lib.hid (B1.out.alloc B1.out.size (.cells #[.slice x1 n1 c1, .slice x2 n2 c2] 26))
    have HG2 := Lib.hid (HG1.out.alloc (.cells #[.slice x1 n1 c1, .slice x2 n2 c2] 26))
    have HD2 := Lib.hid (HD1.out.alloc (.cells #[.slice x1 n1 c1, .slice x2 n2 c2] 26))
    have HA2 := Lib.hid (HA1.out.alloc (.cells #[.slice x1 n1 c1, .slice x2 n2 c2] 26))
    clear B1 HG1 HD1 HA1
    have KP2 := Lib.hid (cells_new w1 #[.slice x1 n1 c1, .slice x2 n2 c2] 26)
    have P1 := implPatchedG HG2.out HD2.out HA2.out
    rw [hr] at P1
    unfold GotRes at P1
    simp only [Option.getD_some, Option.isSome_some] at P1
    have HP1 := Lib.hid P1
    clear P1
    go_wp2_with fail
    generalize hU : (w1.alloc (.cells #[.slice x1 n1 c1, .slice x2 n2 c2] 26)) = u1 at B2 HG2 HD2 HA2 KP2 HP1 ⊢
    clear hU
    refine HP1.out.mono ?_
    rintro e w2 ⟨vh, rfl, hh, hb⟩
    clear HP1
    have B3 := Lib.hid (B2.out.trans (hb.mono B2.out.size))
    have HG3 := Lib.hid (HG2.out.next hb)
    have HD3 := Lib.hid (HD2.out.next hb)
    have HA3 := Lib.hid (HA2.out.next hb)
    have KP3 := Lib.hid (KP2.out.next hb)
    clear B2 HG2 HD2 HA2 KP2
    have GH3 := Lib.hid (hh)
    obtain ⟨xh, nh, ch, rfl, lh, bh, -⟩ := gotN hh
    have HNH := Lib.hid (And.intro lh bh)
    clear hh hb lh bh
    have P2 := specPatchedG HG3.out HD3.out HA3.out
    rw [hr] at P2
    unfold GotRes at P2
    simp only [Option.getD_some, Option.isSome_some] at P2
    have HP2 := Lib.hid P2
    clear P2
    obtain ⟨p0, p1⟩ := KP3.out.now.two
    go_wp2_with fail
    refine HP2.out.mono ?_
    rintro e w3 ⟨vw, rfl, hw, hb⟩
    clear HP2 p0 p1
    have B4 := Lib.hid (B3.out.trans (hb.mono B3.out.size))
    have HG4 := Lib.hid (HG3.out.next hb)
    have HD4 := Lib.hid (HD3.out.next hb)
    have HA4 := Lib.hid (HA3.out.next hb)
    have KP4 := Lib.hid (KP3.out.next hb)
    have GH4 := Lib.hid (GH3.out.next hb)
    clear B3 HG3 HD3 HA3 KP3 GH3
    have GW4 := Lib.hid (hw)
    obtain ⟨xw, nw, cw, rfl⟩ := hw.form
    clear hw hb
    have HI := Lib.hid (drawInverse w3 a len cap zs (isRow_below HROW.out B4.out) HLEN.out)
    go_wp2_with fail
    refine HI.out.mono ?_
    rintro e w4 ⟨y1, y2, e1, e2, rfl, ⟨hx1, hx2⟩, hb⟩
    clear HI
    have B5 := Lib.hid (B4.out.trans (hb.mono B4.out.size))
    have HG5 := Lib.hid (HG4.out.next hb)
    have HD5 := Lib.hid (HD4.out.next hb)
    have HA5 := Lib.hid (HA4.out.next hb)
    have KP5 := Lib.hid (KP4.out.next hb)
    have GH5 := Lib.hid (GH4.out.next hb)
    have GW5 := Lib.hid (GW4.out.next hb)
    clear B4 HG4 HD4 HA4 KP4 GH4 GW4
    have XA5 := Lib.hid (hx1)
    have XB5 := Lib.hid (hx2)
    obtain ⟨z1, m1, f1, rfl, lx1, -, -⟩ := gotN hx1
    obtain ⟨z2, m2, f2, rfl, lx2, -, -⟩ := gotN hx2
    clear hx1 hx2 hb
    have HXL := Lib.hid (And.intro lx1 lx2)
    clear lx1 lx2
    have B6 := Lib.hid (B5.out.alloc B5.out.size (.cells #[.slice z1 m1 f1, .slice z2 m2 f2] 26))
    have HG6 := Lib.hid (HG5.out.alloc (.cells #[.slice z1 m1 f1, .slice z2 m2 f2] 26))
    have HD6 := Lib.hid (HD5.out.alloc (.cells #[.slice z1 m1 f1, .slice z2 m2 f2] 26))
    have HA6 := Lib.hid (HA5.out.alloc (.cells #[.slice z1 m1 f1, .slice z2 m2 f2] 26))
    have KP6 := Lib.hid (KP5.out.alloc (.cells #[.slice z1 m1 f1, .slice z2 m2 f2] 26))
    have GH6 := Lib.hid (GH5.out.alloc (.cells #[.slice z1 m1 f1, .slice z2 m2 f2] 26))
    have GW6 := Lib.hid (GW5.out.alloc (.cells #[.slice z1 m1 f1, .slice z2 m2 f2] 26))
    have XA6 := Lib.hid (XA5.out.alloc (.cells #[.slice z1 m1 f1, .slice z2 m2 f2] 26))
    have XB6 := Lib.hid (XB5.out.alloc (.cells #[.slice z1 m1 f1, .slice z2 m2 f2] 26))
    clear B5 HG5 HD5 HA5 KP5 GH5 GW5 XA5 XB5
    have KX6 := Lib.hid (cells_new w4 #[.slice z1 m1 f1, .slice z2 m2 f2] 26)
    obtain ⟨pb, hpb⟩ : ∃ b, patchOk e1 e2 = b := ⟨_, rfl⟩
    have HPB := Lib.hid hpb
    clear hpb
    obtain ⟨k0, k1⟩ := KX6.out.now.two
    go_wp2_with fail
    clear k0 k1
    cases pb
    all_goals
      generalize hU : (w4.alloc (.cells #[.slice z1 m1 f1, .slice z2 m2 f2] 26)) = u5 at B6 HG6 HD6 HA6 KP6 GH6 GW6 XA6 XB6 KX6 ⊢
      clear hU
      have B7 := Lib.hid B6.out.drew
      have HG7 := Lib.hid HG6.out.drew
      have HD7 := Lib.hid HD6.out.drew
      have HA7 := Lib.hid HA6.out.drew
      have KP7 := Lib.hid KP6.out.drew
      have GH7 := Lib.hid GH6.out.drew
      have GW7 := Lib.hid GW6.out.drew
      have XA7 := Lib.hid XA6.out.drew
      have XB7 := Lib.hid XB6.out.drew
      have KX7 := Lib.hid KX6.out.drew
      clear B6 HG6 HD6 HA6 KP6 GH6 GW6 XA6 XB6 KX6
      go_region_held3 (fun w' => w'.cell? ⟨w4.heap.size, 0, none⟩ = some (.slice z1 m1 f1) ∧ w'.cell? ⟨w4.heap.size, 1, none⟩ = some (.slice z2 m2 f2))
        (first | with_reducible exact KX16.out.now.two | with_reducible exact KX15.out.now.two | with_reducible exact KX14.out.now.two | with_reducible exact KX13.out.now.two | with_reducible exact KX12.out.now.two | with_reducible exact KX11.out.now.two | with_reducible exact KX10.out.now.two | with_reducible exact KX9.out.now.two | with_reducible exact KX8.out.now.two | with_reducible exact KX7.out.now.two)
        (first | (go_at_call 10; have ZZ := B15; clear ZZ; refine (samePatchG JA15.out JB15.out XA15.out XB15.out).mono ?_; rintro e w14 ⟨rfl, hb⟩; clear JA15; clear JB15; have B16 := Lib.hid (B15.out.trans (hb.mono B15.out.size)); have HG16 := Lib.hid (HG15.out.next hb); have HD16 := Lib.hid (HD15.out.next hb); have HA16 := Lib.hid (HA15.out.next hb); have KP16 := Lib.hid (KP15.out.next hb); have GH16 := Lib.hid (GH15.out.next hb); have XA16 := Lib.hid (XA15.out.next hb); have XB16 := Lib.hid (XB15.out.next hb); have KX16 := Lib.hid (KX15.out.next hb); clear B15 HG15 HD15 HA15 KP15 GH15 XA15 XB15 KX15; clear hb) | (go_at_call 11; have ZZ := B14; clear ZZ; refine (implInverseN IA14.out IB14.out (And.intro HXL.out.2 HXL.out.1)).mono ?_; rintro e w13 ⟨s5, s6, s7, s8, rfl, hi1, hi2, hb⟩; clear IA14; clear IB14; have B15 := Lib.hid (B14.out.trans (hb.mono B14.out.size)); have HG15 := Lib.hid (HG14.out.next hb); have HD15 := Lib.hid (HD14.out.next hb); have HA15 := Lib.hid (HA14.out.next hb); have KP15 := Lib.hid (KP14.out.next hb); have GH15 := Lib.hid (GH14.out.next hb); have XA15 := Lib.hid (XA14.out.next hb); have XB15 := Lib.hid (XB14.out.next hb); have KX15 := Lib.hid (KX14.out.next hb); clear B14 HG14 HD14 HA14 KP14 GH14 XA14 XB14 KX14; have JA15 := Lib.hid (hi1); have JB15 := Lib.hid (hi2); clear hb hi1 hi2) | (go_at_call 11; have ZZ := B13; clear ZZ; refine (implInverseN XA13.out XB13.out HXL.out).mono ?_; rintro e w12 ⟨s1, s2, s3, s4, rfl, hi1, hi2, hb⟩; have B14 := Lib.hid (B13.out.trans (hb.mono B13.out.size)); have HG14 := Lib.hid (HG13.out.next hb); have HD14 := Lib.hid (HD13.out.next hb); have HA14 := Lib.hid (HA13.out.next hb); have KP14 := Lib.hid (KP13.out.next hb); have GH14 := Lib.hid (GH13.out.next hb); have XA14 := Lib.hid (XA13.out.next hb); have XB14 := Lib.hid (XB13.out.next hb); have KX14 := Lib.hid (KX13.out.next hb); clear B13 HG13 HD13 HA13 KP13 GH13 XA13 XB13 KX13; have IA14 := Lib.hid (hi1); have IB14 := Lib.hid (hi2); clear hb hi1 hi2) | (go_at_call 14; have ZZ := B12; clear ZZ; refine (specPatchOkN XA12.out XB12.out HPB.out).mono ?_; rintro e w11 ⟨rfl, hb⟩; have B13 := Lib.hid (B12.out.trans (hb.mono B12.out.size)); have HG13 := Lib.hid (HG12.out.next hb); have HD13 := Lib.hid (HD12.out.next hb); have HA13 := Lib.hid (HA12.out.next hb); have KP13 := Lib.hid (KP12.out.next hb); have GH13 := Lib.hid (GH12.out.next hb); have XA13 := Lib.hid (XA12.out.next hb); have XB13 := Lib.hid (XB12.out.next hb); have KX13 := Lib.hid (KX12.out.next hb); clear B12 HG12 HD12 HA12 KP12 GH12 XA12 XB12 KX12; clear hb) | (go_at_call 13; have ZZ := B11; clear ZZ; refine (implPatchOkN XA11.out XB11.out HPB.out).mono ?_; rintro e w10 ⟨rfl, hb⟩; have B12 := Lib.hid (B11.out.trans (hb.mono B11.out.size)); have HG12 := Lib.hid (HG11.out.next hb); have HD12 := Lib.hid (HD11.out.next hb); have HA12 := Lib.hid (HA11.out.next hb); have KP12 := Lib.hid (KP11.out.next hb); have GH12 := Lib.hid (GH11.out.next hb); have XA12 := Lib.hid (XA11.out.next hb); have XB12 := Lib.hid (XB11.out.next hb); have KX12 := Lib.hid (KX11.out.next hb); clear B11 HG11 HD11 HA11 KP11 GH11 XA11 XB11 KX11; clear hb) | (go_at_call 10; have ZZ := B10; clear ZZ; refine (samePatchG IA10.out IB10.out JA10.out JB10.out).mono ?_; rintro e w9 ⟨rfl, hb⟩; clear IA10; clear IB10; clear JA10; clear JB10; have B11 := Lib.hid (B10.out.trans (hb.mono B10.out.size)); have HG11 := Lib.hid (HG10.out.next hb); have HD11 := Lib.hid (HD10.out.next hb); have HA11 := Lib.hid (HA10.out.next hb); have KP11 := Lib.hid (KP10.out.next hb); have GH11 := Lib.hid (GH10.out.next hb); have XA11 := Lib.hid (XA10.out.next hb); have XB11 := Lib.hid (XB10.out.next hb); have KX11 := Lib.hid (KX10.out.next hb); clear B10 HG10 HD10 HA10 KP10 GH10 XA10 XB10 KX10; clear hb) | (go_at_call 12; have ZZ := B9; clear ZZ; refine (specInverseN XA9.out XB9.out HXL.out).mono ?_; rintro e w8 ⟨s5, s6, s7, s8, rfl, hi1, hi2, hb⟩; have B10 := Lib.hid (B9.out.trans (hb.mono B9.out.size)); have HG10 := Lib.hid (HG9.out.next hb); have HD10 := Lib.hid (HD9.out.next hb); have HA10 := Lib.hid (HA9.out.next hb); have KP10 := Lib.hid (KP9.out.next hb); have GH10 := Lib.hid (GH9.out.next hb); have XA10 := Lib.hid (XA9.out.next hb); have XB10 := Lib.hid (XB9.out.next hb); have KX10 := Lib.hid (KX9.out.next hb); have IA10 := Lib.hid (IA9.out.next hb); have IB10 := Lib.hid (IB9.out.next hb); clear B9 HG9 HD9 HA9 KP9 GH9 XA9 XB9 KX9 IA9 IB9; have JA10 := Lib.hid (hi1); have JB10 := Lib.hid (hi2); clear hb hi1 hi2) | (go_at_call 11; have ZZ := B8; clear ZZ; refine (implInverseN XA8.out XB8.out HXL.out).mono ?_; rintro e w7 ⟨s1, s2, s3, s4, rfl, hi1, hi2, hb⟩; have B9 := Lib.hid (B8.out.trans (hb.mono B8.out.size)); have HG9 := Lib.hid (HG8.out.next hb); have HD9 := Lib.hid (HD8.out.next hb); have HA9 := Lib.hid (HA8.out.next hb); have KP9 := Lib.hid (KP8.out.next hb); have GH9 := Lib.hid (GH8.out.next hb); have XA9 := Lib.hid (XA8.out.next hb); have XB9 := Lib.hid (XB8.out.next hb); have KX9 := Lib.hid (KX8.out.next hb); clear B8 HG8 HD8 HA8 KP8 GH8 XA8 XB8 KX8; have IA9 := Lib.hid (hi1); have IB9 := Lib.hid (hi2); clear hb hi1 hi2) | (go_at_call 9; have ZZ := B7; clear ZZ; refine (sameT GH7.out GW7.out).mono ?_; rintro e w6 ⟨rfl, hb⟩; clear GW7; have B8 := Lib.hid (B7.out.trans (hb.mono B7.out.size)); have HG8 := Lib.hid (HG7.out.next hb); have HD8 := Lib.hid (HD7.out.next hb); have HA8 := Lib.hid (HA7.out.next hb); have KP8 := Lib.hid (KP7.out.next hb); have GH8 := Lib.hid (GH7.out.next hb); have XA8 := Lib.hid (XA7.out.next hb); have XB8 := Lib.hid (XB7.out.next hb); have KX8 := Lib.hid (KX7.out.next hb); clear B7 HG7 HD7 HA7 KP7 GH7 XA7 XB7 KX7; clear hb))
      clear HXL HPB
      clear XA16
      clear XB16
      clear KX16
      clear hr
      go_wp2_with fail
      have IQ := Lib.hid (gotIs HD16.out).1
      have HNO := Lib.hid (drop_not HR.out)
      have hjl : n1 ≤ 81 := HBD.out.2.1
      go_loopw [10] (fun i wr => ∃ j : Nat, j ≤ n1 ∧ i = .int .i64 j ∧ Hid (Below w14.heap.size w14 wr)) (fun i _ => n1 - (intOf i).toNat)
      case atStart => exact ⟨0, Nat.zero_le _, rfl, Lib.hid (Below.refl _ _)⟩
      case round =>
        obtain ⟨j, hj, rfl, hfr⟩ := hrel
        have hj6 : (0 : Int) ≤ (j : Int) := by omega
        have B17 := Lib.hid (B16.out.trans (hfr.out.mono B16.out.size))
        have KP17 := Lib.hid (KP16.out.next hfr.out)
        have GH17 := Lib.hid (GH16.out.next hfr.out)
        have HA17 := Lib.hid (HA16.out.next hfr.out)
        clear B16 KP16 GH16 HA16
        by_cases hlt : j < n1
        · have hj7 : (j : Int) < (n1 : Int) := by omega
          obtain ⟨b1, off, rfl, hb1, hl2, hm, hts, hcs⟩ := (IQ.out.next hfr.out).cells (by omega)
          have ht : d1[j]? = some (d1[j]'(by have := HN.out.2.1; omega)) := List.getElem?_eq_getElem (by have := HN.out.2.1; omega)
          obtain ⟨c0, c1_, c2_, m0, m1_, m2_⟩ := hcs j _ ht
          have hno := HNO.out _ (List.mem_of_getElem? ht)
          generalize d1[j]'(by have := HN.out.2.1; omega) = t at ht c0 c1_ c2_ m0 m1_ m2_ hno
          obtain ⟨t0, t1, t2⟩ := t
          simp only at c0 c1_ c2_
          have C1 := hasG GH17.out t0 t1 t2
          rw [decide_eq_false hno] at C1
          have HC := Lib.hid C1
          clear C1 hno ht hcs hm m0 m1_ m2_ hts hl2 hb1 IQ HNO
          obtain ⟨p0, p1⟩ := KP17.out.now.two
          go_wp2_with fail
          refine HC.out.mono ?_
          rintro e w15 ⟨rfl, hb⟩
          have F2 := Lib.hid (hfr.out.trans (hb.mono hfr.out.size))
          clear hb HC hfr p0 p1 c0 c1_ c2_
          go_wp2_with fail
          go_roundw
          case rel => exact ⟨j + 1, by omega, by go_num, F2⟩
          case measure => simp [intOf]; omega
        · obtain rfl : j = n1 := by omega
          have WI := withinG HA17.out GH17.out
          rw [add_in HR.out] at WI
          have HWI := Lib.hid WI
          have hle := patched_len HR.out
          have hln : nh + j = ng + n2 := by have := HN.out; have := HNH.out; omega
          have hbn : ng ≤ 81 ∧ n2 ≤ 81 ∧ nh ≤ 81 := ⟨HBD.out.1, HBD.out.2.2, HNH.out.2⟩
          have hgo := (patchedO_some HR.out).2.2.2.2.2
          have GO := fun W h => @graphOkG (.slice xh nh ch) hs W h
          rw [hgo] at GO
          have HGO := Lib.hid GO
          clear WI GO hgo hle hfr hlt hj IQ HNO HR
          have hle := Lib.hid hln
          clear hln
          obtain ⟨p0, p1⟩ := KP17.out.now.two
          go_wp2_with fail
          refine HWI.out.mono ?_
          rintro e w15 ⟨rfl, hb⟩
          clear p0 p1 HWI
          have B18 := Lib.hid (B17.out.trans (hb.mono B17.out.size))
          have KP18 := Lib.hid (KP17.out.next hb)
          have GH18 := Lib.hid (GH17.out.next hb)
          have HA18 := Lib.hid (HA17.out.next hb)
          clear B17 KP17 GH17 HA17
          clear hb
          go_wp2_with fail
          refine (HGO.out _ GH18.out).mono ?_
          rintro e w16 ⟨rfl, hb⟩
          clear HGO
          have B19 := Lib.hid (B18.out.trans (hb.mono B18.out.size))
          have KP19 := Lib.hid (KP18.out.next hb)
          have GH19 := Lib.hid (GH18.out.next hb)
          have HA19 := Lib.hid (HA18.out.next hb)
          clear B18 KP18 GH18 HA18
          clear hb
          obtain ⟨p0, p1⟩ := KP19.out.now.two
          go_wp2_with fail
          have hle2 := hle.out
          go_ret
          refine ⟨?_, B19.out⟩
          simp; omega
end fnPatched
end Go.Proofs.YtofkploffcplhaaGreat
