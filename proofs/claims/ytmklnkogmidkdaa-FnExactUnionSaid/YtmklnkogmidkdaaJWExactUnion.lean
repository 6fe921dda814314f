/- The walk of FnExactUnion. -/
import Derived.Test.YtmklnkogmidkdaaG00
import Derived.Test.YtmklnkogmidkdaaG11
import Derived.Test.YtmklnkogmidkdaaG16
import Derived.Test.YtmklnkogmidkdaaG17
import Derived.Test.YtmklnkogmidkdaaG14
import Derived.Test.YtmklnkogmidkdaaG02
namespace Go.Proofs.Ytmklnkogmidkdaa
open Go.RowKit Go.WideShapes
namespace fnExactUnion
theorem res_ok (ts us : List Tri3) : ((unionO ts us).getD []).length ≤ 80 ∧ ∀ u ∈ (unionO ts us).getD [], u ∈ ts ∨ u ∈ us := by
  cases h : unionO ts us with
  | none => simp
  | some g =>
    obtain ⟨_, _, rfl, hg⟩ := unionO_some h
    exact ⟨graphOk_len hg, fun u hu => unionT_mem.1 hu⟩
set_option maxRecDepth 100000 in
set_option maxHeartbeats 3200000 in
theorem walk (a : Option Addr) (la ca : Nat) (ts : List Tri3) (b : Option Addr) (lb cb : Nat) (us : List Tri3) (w : World) (h : IsTris w a la ca ts) (k : IsTris w b lb cb us) :
    Calls Try.prog 10 #[.slice a la ca, .slice b lb cb] w fun e w' => e = .returned (.bool true) ∧ Below w.heap.size w w' := by
  have hla : la ≤ 9223372036854775807 := by
    rcases h with ⟨_, rfl, _, _⟩ | ⟨_, _, h1, h2, _⟩
    · omega
    · unfold maxLen at h2; omega
  have hlb : lb ≤ 9223372036854775807 := by
    rcases k with ⟨_, rfl, _, _⟩ | ⟨_, _, h1, h2, _⟩
    · omega
    · unfold maxLen at h2; omega
  have HM := Lib.hid h.small
  have KM := Lib.hid k.small
  have HL := Lib.hid h.len
  have KL := Lib.hid k.len
  go_enter Try.func10, Try.ntmps10
  go_wp2_with fail
  refine (szTriS a la ca ts _ h 1048576 (by omega) (by omega) hla).mono ?_
  rintro e w1 ⟨n, rfl, hn, B1⟩
  rcases hn with rfl | ⟨hn0, hn1, hsm⟩
  · go_wp2_with fail
    go_ret
    exact ⟨rfl, B1⟩
  have hS : Sm ts := fun t ht => by have := hsm.2 t ht; omega
  have hl1 : la ≤ 1048576 := hsm.1
  have hn2 : ¬ n < 0 := by omega
  clear hsm
  go_wp2_with fail
  refine (szTriS b lb cb us _ (k.next B1) n hn0 hn1 hlb).mono ?_
  rintro e w2 ⟨m, rfl, hm, hb2⟩
  have B2 := B1.trans (hb2.mono B1.size)
  clear hb2 B1
  rcases hm with rfl | ⟨hm0, hm1, ksm⟩
  · go_wp2_with fail
    go_ret
    exact ⟨rfl, B2⟩
  have kS : Sm us := fun t ht => by have := ksm.2 t ht; omega
  have kl1 : lb ≤ 1048576 := ksm.1
  have hm2 : ¬ m < 0 := by omega
  clear ksm
  have C1 := fun x y x' y' w hi hq ki => specUnion x x' la y lb y' ts us w hi hq ki hS kS
  have C2 := fun x y x' y' w hi ki => implUnion x x' la y lb y' ts us w hi ki hS kS
  change ∀ x y x' y' w, IsTris w x la y ts → Plain x → IsTris w x' lb y' us → Calls _ _ _ w (fun e w' => ∃ v, e = .returned (.tuple #[v, .bool (unionO ts us).isSome]) ∧ OwnT w.heap.size w' v ((unionO ts us).getD []) ∧ Below w.heap.size w w') at C1
  change ∀ x y x' y' w, IsTris w x la y ts → IsTris w x' lb y' us → Calls _ _ _ w (fun e w' => ∃ v, e = .returned (.tuple #[v, .bool (unionO ts us).isSome]) ∧ OwnT w.heap.size w' v ((unionO ts us).getD []) ∧ Below w.heap.size w w') at C2
  have hR80 := (res_ok ts us).1
  have hRM : ∀ t ∈ (unionO ts us).getD [], t.1.size ≤ maxLen ∧ t.2.1.size ≤ maxLen ∧ t.2.2.size ≤ maxLen := fun t ht => by
    rcases (res_ok ts us).2 t ht with g | g
    · exact HM.out t g
    · exact KM.out t g
  generalize (unionO ts us).getD [] = R at C1 C2 hR80 hRM
  generalize (unionO ts us).isSome = bb at C1 C2
  obtain ⟨N, hN⟩ : ∃ N, R.length = N := ⟨_, rfl⟩
  rw [hN] at hR80
  have HN := Lib.hid hN
  have HRM := Lib.hid hRM
  have HC1 := Lib.hid C1
  have HC2 := Lib.hid C2
  clear C1 C2 hRM hN hS kS hn0 hn1 hm0 hm1
  go_wp2_with fail
  refine (toTriS a la ca ts _ (h.next B2) hl1).mono ?_
  rintro e w3 ⟨v, rfl, o3, hb3⟩
  obtain ⟨x3, y3, rfl, i3, p3⟩ := OwnT.plain o3 HM.out
  rw [HL.out] at i3 ⊢
  have B3 := B2.trans (hb3.mono B2.size)
  clear hb3 B2 o3
  go_wp2_with fail
  refine (toTriS b lb cb us _ (k.next B3) kl1).mono ?_
  rintro e w4 ⟨v, rfl, o4, hb4⟩
  obtain ⟨x4, y4, rfl, i4⟩ := o4.is KM.out
  rw [KL.out] at i4 ⊢
  have B4 := B3.trans (hb4.mono B3.size)
  have j3 := i3.next hb4
  clear hb4 B3 o4 i3
  go_wp2_with fail
  refine (HC1.out x3 y3 x4 y4 _ j3 p3 i4).mono ?_
  rintro e w5 ⟨v, rfl, o5, hb5⟩
  obtain ⟨x5, y5, rfl, i5⟩ := o5.is HRM.out
  rw [HN.out] at i5 ⊢
  have B5 := B4.trans (hb5.mono B4.size)
  clear hb5 B4 j3 p3 i4 o5
  go_wp2_with fail
  refine (toTriS a la ca ts _ (h.next B5) hl1).mono ?_
  rintro e w6 ⟨v, rfl, o6, hb6⟩
  have hlt6 := fun j hj => (World.ownsRow.lt o6 j hj)
  obtain ⟨x6, y6, rfl, i6⟩ := o6.is HM.out
  rw [HL.out] at i6 hlt6 ⊢
  have O6 := Lib.hid o6
  have B6 := B5.trans (hb6.mono B5.size)
  have E6 : Below w5.heap.size w5 w6 := hb6
  have hz56 := E6.size
  clear hb6 o6
  go_wp2_with fail
  refine (toTriS b lb cb us _ (k.next B6) kl1).mono ?_
  rintro e w7 ⟨v, rfl, o7, hb7⟩
  have hlt7 := fun j hj => (World.ownsRow.lt o7 j hj)
  obtain ⟨x7, y7, rfl, i7⟩ := o7.is KM.out
  rw [KL.out] at i7 hlt7 ⊢
  have O7 := Lib.hid o7
  have B7 := B6.trans (hb7.mono B6.size)
  have E7 := E6.trans (hb7.mono E6.size)
  have F7 : Below w6.heap.size w6 w7 := hb7
  clear hb7 B6 E6 o7
  go_wp2_with fail
  refine (HC2.out x6 y6 x7 y7 _ (i6.next F7) i7).mono ?_
  rintro e w8 ⟨v, rfl, o8, hb8⟩
  have hlt8 := fun j hj => (World.ownsRow.lt o8 j hj).1
  obtain ⟨x8, y8, rfl, i8⟩ := o8.is HRM.out
  rw [HN.out] at i8 hlt8 ⊢
  have O8 := Lib.hid o8
  have B8 := B7.trans (hb8.mono B7.size)
  have E8 := E7.trans (hb8.mono E7.size)
  have F8 := F7.trans (hb8.mono F7.size)
  have G8 : Below w7.heap.size w7 w8 := hb8
  have hz7 := F7.size
  have hz57 := E7.size
  have hz5 := B5.size
  clear hb8 B7 E7 F7 o8
  go_wp2_with fail
  refine (eqTriS x8 x5 N y8 N y5 R _ i8 (i5.next E8) (by omega)).mono ?_
  rintro e w9 ⟨rfl, hb9⟩
  have B9 := B8.trans (hb9.mono B8.size)
  have E9 := E8.trans (hb9.mono E8.size)
  have F9 := F8.trans (hb9.mono F8.size)
  have G9 := G8.trans (hb9.mono G8.size)
  have O9 := Lib.hid (own_next O8.out (grown_of_below hb9))
  clear hb9 B8 E8 F8 G8 O8 i8
  cases bb
  all_goals
    go_wp2_with fail
    refine (toTriS a la ca ts _ (h.next B9) hl1).mono ?_
    rintro e wa ⟨v, rfl, oa, hba⟩
    obtain ⟨xa, ya, rfl, ia⟩ := oa.is HM.out
    rw [HL.out] at ia ⊢
    have Ba := B9.trans (hba.mono B9.size)
    have Ea := E9.trans (hba.mono E9.size)
    have Fa := F9.trans (hba.mono F9.size)
    have Ga := G9.trans (hba.mono G9.size)
    have Oa := Lib.hid (own_next O9.out (grown_of_below hba))
    clear hba B9 E9 F9 G9 O9 oa
    go_wp2_with fail
    refine (eqTriS x6 xa la y6 la ya ts _ (i6.next Fa) ia hl1).mono ?_
    rintro e wb ⟨rfl, hbb⟩
    have Bb := Ba.trans (hbb.mono Ba.size)
    have Eb := Ea.trans (hbb.mono Ea.size)
    have Fb := Fa.trans (hbb.mono Fa.size)
    have Gb := Ga.trans (hbb.mono Ga.size)
    have Ob := Lib.hid (own_next Oa.out (grown_of_below hbb))
    clear hbb Ba Ea Fa Ga Oa ia
    go_wp2_with fail
    refine (toTriS b lb cb us _ (k.next Bb) kl1).mono ?_
    rintro e wm ⟨v, rfl, om, hbm⟩
    obtain ⟨xm, ym, rfl, im⟩ := om.is KM.out
    rw [KL.out] at im ⊢
    have Bm := Bb.trans (hbm.mono Bb.size)
    have Em := Eb.trans (hbm.mono Eb.size)
    have Fm := Fb.trans (hbm.mono Fb.size)
    have Gm := Gb.trans (hbm.mono Gb.size)
    have Om := Lib.hid (own_next Ob.out (grown_of_below hbm))
    clear hbm Bb Eb Fb Gb Ob om
    go_wp2_with fail
    refine (eqTriS x7 xm lb y7 lb ym us _ (i7.next Gm) im kl1).mono ?_
    rintro e wn ⟨rfl, hbn⟩
    have Bn := Bm.trans (hbn.mono Bm.size)
    have En := Em.trans (hbn.mono Em.size)
    have Fn := Fm.trans (hbn.mono Fm.size)
    have Gn := Gm.trans (hbn.mono Gm.size)
    have On := Lib.hid (own_next Om.out (grown_of_below hbn))
    have MK := markAny w5.heap.size _ ts wn (own_next O6.out (grown_of_below Fn)) (by rw [HL.out]; exact hl1) 1 (by omega) (by omega)
    rw [HL.out] at MK
    obtain ⟨M, hM⟩ : ∃ M : Nat, 1 + 3 * la = M := ⟨_, rfl⟩
    have hM1 : M ≤ 4000000 := by omega
    have hMp : 0 < M := by omega
    rw [hM] at MK
    have HMK := Lib.hid MK
    have O7n := own_next O7.out (grown_of_below Gn)
    clear hbn Bm Em Fm Gm Om im i6 i7 MK Fn Gn hM O6 O7
    go_wp2_with fail
    refine HMK.out.mono ?_
    rintro e wo ⟨rfl, hgo⟩
    have Bo := Bn.grown hgo Bn.size (fun j hj => by have := (hlt6 j hj).1; omega)
    have Eo := En.grown hgo En.size (fun j hj => (hlt6 j hj).1)
    have far : ∀ j, (Value.slice x6 la y6).ownBlock = some j → j < w6.heap.size := fun j hj => (hlt6 j hj).2
    have oo := World.ownsRow.kept On.out hgo (by
      rw [HN.out]
      rcases hv : (Value.slice x8 N y8).ownBlock with _ | j
      · exact .inl rfl
      · refine .inr fun e => ?_
        have := far j e.symm
        have := hlt8 j hv
        omega)
    have o7o := World.ownsRow.kept O7n hgo (by
      rw [KL.out]
      rcases hv : (Value.slice x7 lb y7).ownBlock with _ | j
      · exact .inl rfl
      · refine .inr fun e => ?_
        have := far j e.symm
        have := (hlt7 j hv).1
        omega)
    have Oo : Hid (OwnT w7.heap.size wo (.slice x8 N y8) R) := Lib.hid (by rw [HN.out] at oo; unfold OwnT; rw [HN.out]; exact oo)
    have MK := markAny w6.heap.size _ us wo o7o (by rw [KL.out]; exact kl1) M hMp hM1
    rw [KL.out] at MK
    obtain ⟨M2, hM2⟩ : ∃ M2 : Nat, M + 3 * lb = M2 := ⟨_, rfl⟩
    rw [hM2] at MK
    have HMK2 := Lib.hid MK
    have hM0 : ¬ (M2 : Int) < 0 := by omega
    clear hgo Bn En On O7n oo o7o MK HMK hM2 far
    go_wp2_with fail
    refine HMK2.out.mono ?_
    rintro e wc ⟨rfl, hgc⟩
    have Bc := Bo.grown hgc Bo.size (fun j hj => by have := (hlt7 j hj).1; omega)
    have Ec := Eo.grown hgc Eo.size (fun j hj => by have := (hlt7 j hj).1; omega)
    have oc := World.ownsRow.kept Oo.out hgc (by
      rcases hv : (Value.slice x8 N y8).ownBlock with _ | j
      · exact .inl rfl
      · refine .inr fun e => ?_
        have := (hlt7 j e.symm).2
        have := hlt8 j hv
        omega)
    have Oc : Hid (OwnT w7.heap.size wc (.slice x8 N y8) R) := Lib.hid oc
    obtain ⟨x9, y9, hv9, ic⟩ := Oc.out.is HRM.out
    rw [HN.out] at hv9 ic
    simp only [Value.slice.injEq, true_and] at hv9
    obtain ⟨rfl, rfl⟩ := hv9
    clear oc HMK2 hgc Bo Eo Oo
    go_wp2_with fail
    refine (eqTriS x8 x5 N y8 N y5 R _ ic (i5.next Ec) (by omega)).mono ?_
    rintro e wd ⟨rfl, hbd⟩
    have Bd := Bc.trans (hbd.mono Bc.size)
    have Ed := Ec.trans (hbd.mono Ec.size)
    have Od := own_next Oc.out (grown_of_below hbd)
    have MK := markTriS w7.heap.size _ R wd Od (by rw [HN.out]; exact hR80)
    rw [HN.out] at MK
    obtain ⟨K, hK⟩ : ∃ K : Int, 1 + 3 * (N : Int) = K := ⟨_, rfl⟩
    have hK0 : ¬ K < 0 := by omega
    rw [hK] at MK
    have HMK := Lib.hid MK
    clear hbd Bc Ec Oc ic Od MK
    go_wp2_with fail
    refine HMK.out.mono ?_
    rintro e wf ⟨rfl, of, hgf⟩
    have Bf := Bd.grown hgf Bd.size (fun j hj => by have := hlt8 j hj; omega)
    have Ef := Ed.grown hgf Ed.size (fun j hj => by have := hlt8 j hj; omega)
    obtain ⟨x9, y9, hv9, if_⟩ := of.is (marks_small N hR80)
    rw [marksT_len] at hv9 if_
    simp only [Value.slice.injEq, true_and] at hv9
    obtain ⟨rfl, rfl⟩ := hv9
    have HD := heldTriS x8 N y8
    rw [hK] at HD
    have HLD := Lib.hid HD
    clear HD HMK hgf of Bd Ed hK
    go_wp2_with fail
    refine (HLD.out _ if_ hR80).mono ?_
    rintro e wg ⟨rfl, hbg⟩
    have Bg := Bf.trans (hbg.mono Bf.size)
    have Eg := Ef.trans (hbg.mono Ef.size)
    have ig := if_.next hbg
    clear hbg Bf Ef if_
    go_wp2_with fail
    refine (toTriS a la ca ts _ (h.next Bg) hl1).mono ?_
    rintro e wh ⟨v, rfl, oh, hbh⟩
    obtain ⟨xh, yh, rfl, ih⟩ := oh.is HM.out
    rw [HL.out] at ih ⊢
    have Bh := Bg.trans (hbh.mono Bg.size)
    have Eh := Eg.trans (hbh.mono Eg.size)
    have igh := ig.next hbh
    clear hbh Bg Eg ig oh
    go_wp2_with fail
    refine (toTriS b lb cb us _ (k.next Bh) kl1).mono ?_
    rintro e wi ⟨v, rfl, oi, hbi⟩
    obtain ⟨xi, yi, rfl, ii⟩ := oi.is KM.out
    rw [KL.out] at ii ⊢
    have Bi := Bh.trans (hbi.mono Bh.size)
    have Ei := Eh.trans (hbi.mono Eh.size)
    have igi := igh.next hbi
    have ihi := ih.next hbi
    clear hbi Bh Eh igh ih oi
    go_wp2_with fail
    refine (HC2.out xh yh xi yi _ ihi ii).mono ?_
    rintro e wj ⟨v, rfl, oj, hbj⟩
    obtain ⟨xj, yj, rfl, ij⟩ := oj.is HRM.out
    rw [HN.out] at ij ⊢
    have Bj := Bi.trans (hbj.mono Bi.size)
    have Ej := Ei.trans (hbj.mono Ei.size)
    have igj := igi.next hbj
    clear hbj Bi Ei igi ihi ii oj
    go_wp2_with fail
    refine (eqTriS xj x5 N yj N y5 R _ ij (i5.next Ej) (by omega)).mono ?_
    rintro e wk ⟨rfl, hbk⟩
    have Bk := Bj.trans (hbk.mono Bj.size)
    have igk := igj.next hbk
    clear hbk Bj Ej igj ij
    go_wp2_with fail
    refine (HLD.out _ igk hR80).mono ?_
    rintro e wl ⟨rfl, hbl⟩
    have Bl := Bk.trans (hbl.mono Bk.size)
    clear hbl igk
    go_wp2_with fail
    go_ret
    exact ⟨rfl, Bl⟩
end fnExactUnion
end Go.Proofs.Ytmklnkogmidkdaa
