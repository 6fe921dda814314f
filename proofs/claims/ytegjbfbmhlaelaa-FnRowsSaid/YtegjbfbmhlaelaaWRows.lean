/- The walk of FnRows. -/
import Derived.Test.YtegjbfbmhlaelaaFrame
import Derived.Test.YtegjbfbmhlaelaaWExactMerged
import Derived.Test.YtegjbfbmhlaelaaDrawM
import Derived.Test.YtegjbfbmhlaelaaSameR
namespace Go.Proofs.Ytegjbfbmhlaelaa
open Go.RowKit Go.WideShapes
namespace fnRows
set_option maxRecDepth 100000 in
set_option maxHeartbeats 6400000 in
theorem walk (a : Option Addr) (len cap : Nat) (zs : List Int) (w : World) (hrow : Frame.IsRow .u8 w a len cap zs) :
    Calls Try.prog 4 #[.slice a len cap] w fun e w' => e = .returned (.bool true) ∧ Below w.heap.size w w' := by
  have hlen : len ≤ 9223372036854775807 := by
    rcases hrow with ⟨_, rfl, _⟩ | ⟨y, _, h1, h2, _⟩
    · omega
    · unfold maxLen at h2; omega
  by_cases hbig : (1048576 : Int) < len
  · go_enter Try.func4, Try.ntmps4
    go_wp2_with go_in
    go_ret
    exact ⟨rfl, Below.refl _ _⟩
  have HROW := Lib.hid hrow
  clear hrow
  go_enter Try.func4, Try.ntmps4
  go_wp2_with (go_at_call 18; go_in)
  refine (drawMerged _ _ _ _ _ HROW.out).mono ?_
  rintro e w1 ⟨v, u, ts, us, rfl, hS, kS, hO, kO, hg1⟩
  obtain ⟨ra, rc, rfl, i1⟩ := hO.is (smW_max hS)
  obtain ⟨rb, rd, rfl, j1⟩ := kO.is (smW_max kS)
  have hSm : SmP ts := fun t ht => by have := hS.2 t ht; omega
  have kSm : SmP us := fun t ht => by have := kS.2 t ht; omega
  have B1 := below_of_grown hg1
  obtain ⟨n, hn⟩ : ∃ n, ts.length = n := ⟨_, rfl⟩
  obtain ⟨m, hm⟩ : ∃ m, us.length = m := ⟨_, rfl⟩
  rw [hn] at i1 ⊢
  rw [hm] at j1 ⊢
  have hn4 : n ≤ 4 := by rw [← hn]; exact hS.1
  have hm4 : m ≤ 4 := by rw [← hm]; exact kS.1
  have C1 := fun W hi hj => fnExactMerged.implMergedR ra rb n rc m rd ts us W hi hj hSm kSm
  have C2 := fun W hi hj => fnExactMerged.specMergedR ra rb n rc m rd ts us W hi hj hSm kSm
  have C3 := fun W hi hj => fnExactMerged.implMergedR rb ra m rd n rc us ts W hi hj kSm hSm
  simp only [merged_comm us ts] at C3
  have hR12 := (fnExactMerged.res_ok ts us).1
  have hRS : SmP ((mergedP ts us).getD []) := fun t ht => by
    rcases (fnExactMerged.res_ok ts us).2 t ht with g | g
    · exact hSm t g
    · exact kSm t g
  have HSELF : Hid ((mergedP ts us).isSome = true → mergedP ((mergedP ts us).getD []) ts = some ((mergedP ts us).getD []) ∧ rowOk ((mergedP ts us).getD []) = true ∧ ((mergedP ts us).getD []).length ≤ n + m) := Lib.hid (fun h => by
    cases hq : mergedP ts us with
    | none => rw [hq] at h; cases h
    | some q => exact ⟨merged_self hq, (merged_parts hq).2.2.1, by have := merged_len hq; rw [hn, hm] at this; exact this⟩)
  generalize (mergedP ts us).getD [] = R at C1 C2 C3 hR12 hRS HSELF
  generalize (mergedP ts us).isSome = bb at C1 C2 C3 HSELF
  obtain ⟨N, hN⟩ : ∃ N, R.length = N := ⟨_, rfl⟩
  rw [hN] at hR12 HSELF
  have HN := Lib.hid hN
  have HRS := Lib.hid hRS
  have HRM := Lib.hid (fun t ht => by have := hRS t ht; unfold maxLen; omega : ∀ t ∈ R, t.1.size ≤ maxLen ∧ t.2.size ≤ maxLen)
  have HC1 := Lib.hid C1
  have HC2 := Lib.hid C2
  have HC3 := Lib.hid C3
  have HTS := Lib.hid hSm
  clear C1 C2 C3 hRS hN hn hm hO kO hg1 hS kS hSm kSm
  go_wp2_with fail
  refine (HC1.out _ i1 j1).mono ?_
  rintro e w2 ⟨v, rfl, o2, hb2⟩
  obtain ⟨x2, y2, rfl, i2⟩ := o2.is HRM.out
  rw [HN.out] at i2 ⊢
  have B2 := B1.trans (hb2.mono B1.size)
  have a2 := i1.next hb2
  have b2 := j1.next hb2
  clear hb2 B1 i1 j1 o2 HC1
  go_wp2_with fail
  refine (HC2.out _ a2 b2).mono ?_
  rintro e w3 ⟨v, rfl, o3, hb3⟩
  obtain ⟨x3, y3, rfl, i3⟩ := o3.is HRM.out
  rw [HN.out] at i3 ⊢
  have B3 := B2.trans (hb3.mono B2.size)
  have a3 := a2.next hb3
  have b3 := b2.next hb3
  have c3 := i2.next hb3
  clear hb3 B2 a2 b2 o3 i2 HC2
  go_wp2_with fail
  refine (HC3.out _ b3 a3).mono ?_
  rintro e w4 ⟨v, rfl, o4, hb4⟩
  obtain ⟨x4, y4, rfl, i4⟩ := o4.is HRM.out
  rw [HN.out] at i4 ⊢
  have B4 := B3.trans (hb4.mono B3.size)
  have a4 := a3.next hb4
  have c4 := c3.next hb4
  have d4 := i3.next hb4
  clear hb4 B3 a3 b3 o4 i3 c3 HC3
  go_wp2_with fail
  refine (drawRowOk _ _ _ _ _ (isRow_grown HROW.out (grown_of_below B4))).mono ?_
  rintro e w5 ⟨v, ys, rfl, hy8, hyS, o5, hg5⟩
  have hb5 := below_of_grown hg5
  obtain ⟨x5, y5, rfl, i5⟩ := o5.is (fun t ht => by have := hyS t ht; unfold maxLen; omega)
  obtain ⟨l, hl⟩ : ∃ l, ys.length = l := ⟨_, rfl⟩
  rw [hl] at i5 hy8 ⊢
  have hYS : SmP ys := fun t ht => by have := hyS t ht; omega
  have D1 := fun W hi => implRowOk x5 l y5 ys W hi hYS
  have D2 := fun W hi => specRowOk x5 l y5 ys W hi hYS
  generalize rowOk ys = yb at D1 D2
  have HD1 := Lib.hid D1
  have HD2 := Lib.hid D2
  have B5 := B4.trans (hb5.mono B4.size)
  have a5 := a4.next hb5
  have c5 := c4.next hb5
  have d5 := d4.next hb5
  have e5 := i4.next hb5
  clear hb5 hg5 B4 a4 c4 d4 i4 o5 hl hyS hYS D1 D2
  cases bb
  · skip
    go_wp2_with fail
    refine (lawSameRow x2 x3 N y2 N y3 R _ c5 d5 (by omega)).mono ?_
    rintro e w6 ⟨rfl, hb6⟩
    have B6 := B5.trans (hb6.mono B5.size)
    have a6 := a5.next hb6
    have c6 := c5.next hb6
    have d6 := d5.next hb6
    have e6 := e5.next hb6
    have f6 := i5.next hb6
    clear hb6 B5 a5 c5 d5 e5 i5
    go_wp2_with fail
    refine (lawSameRow x4 x2 N y4 N y2 R _ e6 c6 (by omega)).mono ?_
    rintro e w7 ⟨rfl, hb7⟩
    have B7 := B6.trans (hb7.mono B6.size)
    have a7 := a6.next hb7
    have c7 := c6.next hb7
    have d7 := d6.next hb7
    have f7 := f6.next hb7
    clear hb7 B6 a6 c6 d6 e6 f6
    go_wp2_with fail
    refine (HD1.out _ f7).mono ?_
    rintro e w8 ⟨rfl, hb8⟩
    have B8 := B7.trans (hb8.mono B7.size)
    have a8 := a7.next hb8
    have c8 := c7.next hb8
    have d8 := d7.next hb8
    have f8 := f7.next hb8
    clear hb8 B7 a7 c7 d7 f7
    go_wp2_with fail
    refine (HD2.out _ f8).mono ?_
    rintro e w9 ⟨rfl, hb9⟩
    have B9 := B8.trans (hb9.mono B8.size)
    have a9 := a8.next hb9
    have c9 := c8.next hb9
    have d9 := d8.next hb9
    have f9 := f8.next hb9
    clear hb9 B8 a8 c8 d8 f8
    cases yb
    all_goals
      go_wp2_with fail
      refine (lawSameRow x2 x3 N y2 N y3 R _ c9 d9 (by omega)).mono ?_
      rintro e wa ⟨rfl, hba⟩
      have Ba := B9.trans (hba.mono B9.size)
      have fa := f9.next hba
      clear hba B9 a9 c9 d9 f9
      go_wp2_with fail
      refine (HD1.out _ fa).mono ?_
      rintro e wb ⟨rfl, hbb⟩
      have Bb := Ba.trans (hbb.mono Ba.size)
      have fb := fa.next hbb
      clear hbb Ba fa
      go_wp2_with fail
      refine (HD2.out _ fb).mono ?_
      rintro e wd ⟨rfl, hbd⟩
      have Bd := Bb.trans (hbd.mono Bb.size)
      clear hbd Bb fb
      go_wp2_with fail
      go_ret
      exact ⟨rfl, Bd⟩
  · skip
    go_wp2_with fail
    refine (lawSameRow x2 x3 N y2 N y3 R _ c5 d5 (by omega)).mono ?_
    rintro e w6 ⟨rfl, hb6⟩
    have B6 := B5.trans (hb6.mono B5.size)
    have a6 := a5.next hb6
    have c6 := c5.next hb6
    have d6 := d5.next hb6
    have e6 := e5.next hb6
    have f6 := i5.next hb6
    clear hb6 B5 a5 c5 d5 e5 i5
    go_wp2_with fail
    refine (lawSameRow x4 x2 N y4 N y2 R _ e6 c6 (by omega)).mono ?_
    rintro e w7 ⟨rfl, hb7⟩
    have B7 := B6.trans (hb7.mono B6.size)
    have a7 := a6.next hb7
    have c7 := c6.next hb7
    have d7 := d6.next hb7
    have f7 := f6.next hb7
    clear hb7 B6 a6 c6 d6 e6 f6
    go_wp2_with fail
    refine (HD1.out _ f7).mono ?_
    rintro e w8 ⟨rfl, hb8⟩
    have B8 := B7.trans (hb8.mono B7.size)
    have a8 := a7.next hb8
    have c8 := c7.next hb8
    have d8 := d7.next hb8
    have f8 := f7.next hb8
    clear hb8 B7 a7 c7 d7 f7
    go_wp2_with fail
    refine (HD2.out _ f8).mono ?_
    rintro e w9 ⟨rfl, hb9⟩
    have B9 := B8.trans (hb9.mono B8.size)
    have a9 := a8.next hb9
    have c9 := c8.next hb9
    have d9 := d8.next hb9
    have f9 := f8.next hb9
    clear hb9 B8 a8 c8 d8 f8
    obtain ⟨hs1, hs2, hs3⟩ := HSELF.out (by first | rfl | trivial)
    have E1 := fun W hi hj => fnExactMerged.implMergedR x2 ra N y2 n rc R ts W hi hj HRS.out HTS.out
    simp only [hs1, Option.isSome_some, Option.getD_some] at E1
    have HE1 := Lib.hid E1
    have E2 := fun W hi => implRowOk x2 N y2 R W hi HRS.out
    rw [hs2] at E2
    have HE2 := Lib.hid E2
    have hle : (N : Int) ≤ (n : Int) + (m : Int) := by omega
    clear E1 E2 hs1 hs2
    cases yb
    all_goals
      go_wp2_with fail
      refine (HE1.out _ c9 a9).mono ?_
      rintro e wa ⟨v, rfl, oa, hba⟩
      obtain ⟨xa, ya, rfl, ia⟩ := oa.is HRM.out
      rw [HN.out] at ia ⊢
      have Ba := B9.trans (hba.mono B9.size)
      have ca := c9.next hba
      clear hba B9 a9 c9 d9 f9 oa
      go_wp2_with fail
      refine (HE2.out _ ca).mono ?_
      rintro e wb ⟨rfl, hbb⟩
      have Bb := Ba.trans (hbb.mono Ba.size)
      have cb := ca.next hbb
      have ib := ia.next hbb
      clear hbb Ba ca ia
      go_wp2_with fail
      refine (lawSameRow xa x2 N ya N y2 R _ ib cb (by omega)).mono ?_
      rintro e wd ⟨rfl, hbd⟩
      have Bd := Bb.trans (hbd.mono Bb.size)
      clear hbd Bb cb ib
      go_wp2_with fail
      go_ret
      exact ⟨rfl, Bd⟩
end fnRows
end Go.Proofs.Ytegjbfbmhlaelaa
