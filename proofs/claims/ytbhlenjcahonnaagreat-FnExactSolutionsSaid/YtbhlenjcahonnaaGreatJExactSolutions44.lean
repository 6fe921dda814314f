/- The walk of FnExactSolutions. -/
import Derived.Test.YtbhlenjcahonnaaGreatJExactSolutions00
import Derived.Test.YtbhlenjcahonnaaGreatJExactSolutions42
import Derived.Test.YtbhlenjcahonnaaGreatJExactSolutions43
import Derived.Test.YtbhlenjcahonnaaGreatJExactSolutions26
import Derived.Test.YtbhlenjcahonnaaGreatJExactSolutions04
namespace Go.Proofs.YtbhlenjcahonnaaGreat
open Go.RowKit Go.WideShapes
namespace fnExactSolutions
theorem totR_most (m : Nat) : ∀ (rs : List RowV), (∀ r ∈ rs, r.length ≤ m) → totR rs ≤ rs.length * m
  | [], _ => by simp [totR]
  | s :: rs, h => by
    have e : totR (s :: rs) = s.length + totR rs := by simp [totR]
    have h1 := totR_most m rs (fun r hr => h r (List.mem_cons_of_mem _ hr))
    have h2 := h s (List.mem_cons_self ..)
    rw [e, List.length_cons, Nat.add_mul]; omega
theorem res_ok (gs ls : List Tri3) (hga : SmT gs) (hgb : SmT ls) : (solR gs ls).length ≤ 300 ∧ totR (solR gs ls) ≤ 7200 ∧ ∀ r ∈ solR gs ls, ∀ t ∈ r, t.1.size ≤ maxLen ∧ t.2.size ≤ maxLen := by
  cases h : (graphOk gs && bgpOk ls)
  · rw [(solOk_no h).2]; simp [totR]
  · rw [(solOk_yes h).2]
    rw [Bool.and_eq_true] at h
    rw [solve_cont h.1 h.2]
    cases hc : contM gs ls [[]] with
    | none => simp [totR]
    | some R =>
      obtain ⟨_, hn, hk⟩ := contM_rows hga (graphOk_iff.1 h.1).2.1 ls [[]] 12 hgb (bgpOk_iff.1 h.2).2 noZs_one (by simp) (fun r hr => by
        obtain rfl : r = [] := by simpa using hr
        exact goodK_nil) R hc
      have hl := (bgpOk_iff.1 h.2).1
      have hm : ∀ r ∈ addAllR [] R, r ∈ R := fun r hr => by
        rcases addAllR_mem hr with hr | hr
        · simp at hr
        · exact hr
      have h1 := addAllR_len R []
      simp only [List.length_nil] at h1
      have h24 : ∀ r ∈ addAllR [] R, r.length ≤ 24 := fun r hr => by have := (hk r (hm r hr)).2.2.2.1; omega
      have ht := totR_most 24 _ h24
      simp only [Option.map_some, Option.getD_some]
      refine ⟨by omega, by omega, fun r hr t ht => ?_⟩
      have := (hk r (hm r hr)).2.2.2.2 t ht
      unfold maxLen; omega
set_option maxRecDepth 100000 in
set_option maxHeartbeats 3200000 in
theorem walk (a : Option Addr) (la ca : Nat) (gs : List Tri3) (b : Option Addr) (lb cb : Nat) (ls : List Tri3) (w : World) (h : IsTris w a la ca gs) (k : IsTris w b lb cb ls) :
    Calls Tryz.prog 4 #[.slice a la ca, .slice b lb cb] w fun e w' => e = .returned (.bool true) ∧ Below w.heap.size w w' := by
  have hla : la ≤ 9223372036854775807 := by
    rcases h with ⟨_, rfl, _, _⟩ | ⟨_, _, h1, h2, _⟩
    · omega
    · unfold maxLen at h2; omega
  have hlb : lb ≤ 9223372036854775807 := by
    rcases k with ⟨_, rfl, _, _⟩ | ⟨_, _, h1, h2, _⟩
    · omega
    · unfold maxLen at h2; omega
  have KM := Lib.hid k.small
  have HM := Lib.hid h.small
  have HL := Lib.hid h.len
  have KL := Lib.hid k.len
  go_enter Tryz.func4, Tryz.ntmps4
  go_wp2_with fail
  refine (szTriS a la ca gs _ h 1048576 (by omega) (by omega) hla).mono ?_
  rintro e w1 ⟨n, rfl, hn, B1⟩
  rcases hn with rfl | ⟨hn0, hn1, hsm⟩
  · go_wp2_with fail
    go_ret
    exact ⟨rfl, B1⟩
  have hS : SmT gs := fun t ht => by have := hsm.2 t ht; omega
  have hl1 : la ≤ 1048576 := hsm.1
  have hn2 : ¬ n < 0 := by omega
  clear hsm
  go_wp2_with fail
  refine (szTriS b lb cb ls _ (k.next B1) n hn0 hn1 hlb).mono ?_
  rintro e w2 ⟨m, rfl, hm, hb2⟩
  have B2 := B1.trans (hb2.mono B1.size)
  clear hb2 B1
  rcases hm with rfl | ⟨hm0, hm1, ksm⟩
  · go_wp2_with fail
    go_ret
    exact ⟨rfl, B2⟩
  have kl1 : lb ≤ 1048576 := ksm.1
  have kS : SmT ls := fun t ht => by have := ksm.2 t ht; omega
  have hm2 : ¬ m < 0 := by omega
  clear ksm
  have C1 := fun x y x' y' w hi ki => specSolutions x x' la y lb y' gs ls w hi ki hS kS
  have C2 := fun x y x' y' w hi ki => implSolutions x x' la y lb y' gs ls w hi ki hS kS
  change ∀ x y x' y' w, IsTris w x la y gs → IsTris w x' lb y' ls → Calls _ _ _ w (fun e w' => ∃ a n c, e = .returned (.tuple #[.slice a n c, .bool (solOk gs ls)]) ∧ IsRows w' a n c (solR gs ls) ∧ Below w.heap.size w w') at C1
  change ∀ x y x' y' w, IsTris w x la y gs → IsTris w x' lb y' ls → Calls _ _ _ w (fun e w' => ∃ v, e = .returned (.tuple #[v, .bool (solOk gs ls)]) ∧ OwnRs w.heap.size w' v (solR gs ls) ∧ Below w.heap.size w w') at C2
  obtain ⟨hR1, hR2, hRM⟩ := res_ok gs ls hS kS
  generalize solR gs ls = R at C1 C2 hR1 hR2 hRM
  generalize solOk gs ls = bb at C1 C2
  obtain ⟨N, hN⟩ : ∃ N, R.length = N := ⟨_, rfl⟩
  rw [hN] at hR1
  have HN := Lib.hid hN
  have HRM := Lib.hid hRM
  have HC1 := Lib.hid C1
  have HC2 := Lib.hid C2
  clear C1 C2 hRM hN hS kS hn0 hn1 hm0 hm1
  go_wp2_with fail
  refine (toTriS a la ca gs _ (h.next B2) hl1).mono ?_
  rintro e w3 ⟨v, rfl, o3, hb3⟩
  obtain ⟨x3, y3, rfl, i3⟩ := o3.is HM.out
  rw [HL.out] at i3 ⊢
  have B3 := B2.trans (hb3.mono B2.size)
  clear hb3 B2 o3
  go_wp2_with fail
  refine (toTriS b lb cb ls _ (k.next B3) kl1).mono ?_
  rintro e w4 ⟨v, rfl, o4, hb4⟩
  obtain ⟨x4, y4, rfl, i4⟩ := o4.is KM.out
  rw [KL.out] at i4 ⊢
  have B4 := B3.trans (hb4.mono B3.size)
  have j3 := i3.next hb4
  clear hb4 B3 o4 i3
  go_wp2_with fail
  refine (HC1.out x3 y3 x4 y4 _ j3 i4).mono ?_
  rintro e w5 ⟨x5, n5, y5, rfl, i5, hb5⟩
  have hn5 := i5.len
  rw [HN.out] at hn5
  subst hn5
  have B5 := B4.trans (hb5.mono B4.size)
  clear hb5 B4 j3 i4
  go_wp2_with fail
  refine (toTriS a la ca gs _ (h.next B5) hl1).mono ?_
  rintro e w6 ⟨v, rfl, o6, hb6⟩
  have hlt6 := fun j hj => (World.ownsRow.lt o6 j hj)
  obtain ⟨x6, y6, rfl, i6⟩ := o6.is HM.out
  rw [HL.out] at i6 hlt6 ⊢
  have H6 : Hid (OwnT w5.heap.size w6 (.slice x6 la y6) gs) := Lib.hid (by rw [HL.out] at o6; exact o6)
  have B6 := B5.trans (hb6.mono B5.size)
  have E6 : Below w5.heap.size w5 w6 := hb6
  have hz56 := E6.size
  clear hb6 o6
  go_wp2_with fail
  refine (toTriS b lb cb ls _ (k.next B6) kl1).mono ?_
  rintro e w7 ⟨v, rfl, o7, hb7⟩
  have hlt7 := fun j hj => (World.ownsRow.lt o7 j hj)
  obtain ⟨x7, y7, rfl, i7⟩ := o7.is KM.out
  rw [KL.out] at i7 hlt7 ⊢
  have H7 : Hid (OwnT w6.heap.size w7 (.slice x7 lb y7) ls) := Lib.hid (by rw [KL.out] at o7; exact o7)
  have B7 := B6.trans (hb7.mono B6.size)
  have E7 := E6.trans (hb7.mono E6.size)
  have F7 : Below w6.heap.size w6 w7 := hb7
  have G7 := Lib.hid (own_next H6.out (grown_of_below F7))
  clear hb7 B6 E6 o7 H6
  go_wp2_with fail
  refine (HC2.out x6 y6 x7 y7 _ (i6.next F7) i7).mono ?_
  rintro e w8 ⟨v, rfl, o8, hb8⟩
  have O8 := OwnRsC.of o8
  obtain ⟨x8, y8, rfl, i8⟩ := o8.is HRM.out
  rw [HN.out] at i8 O8 ⊢
  have H8 := Lib.hid O8
  have B8 := B7.trans (hb8.mono B7.size)
  have E8 := E7.trans (hb8.mono E7.size)
  have F8 := F7.trans (hb8.mono F7.size)
  have G8 : Below w7.heap.size w7 w8 := hb8
  have hz67 := F7.size
  have hz57 := E7.size
  have hz5 := B5.size
  have hz78 := G8.size
  have X8 := Lib.hid (own_next G7.out (grown_of_below G8))
  have S8 := Lib.hid (own_next H7.out (grown_of_below G8))
  clear hb8 B7 E7 F7 o8 O8 G7 H7 B5
  go_wp2_with fail
  refine (eqRows x8 x5 N y8 N y5 R _ i8 (i5.next E8) (by omega)).mono ?_
  rintro e w9 ⟨rfl, hb9⟩
  have B9 := B8.trans (hb9.mono B8.size)
  have E9 := E8.trans (hb9.mono E8.size)
  have F9 := F8.trans (hb9.mono F8.size)
  have G9 := G8.trans (hb9.mono G8.size)
  have O9 := Lib.hid (H8.out.next hb9)
  have X9 := Lib.hid (own_next X8.out (grown_of_below hb9))
  have S9 := Lib.hid (own_next S8.out (grown_of_below hb9))
  clear hb9 B8 E8 F8 G8 H8 i8 X8 S8
  cases bb
  all_goals
    go_wp2_with fail
    refine (toTriS a la ca gs _ (h.next B9) hl1).mono ?_
    rintro e wa ⟨v, rfl, oa, hba⟩
    obtain ⟨xa, ya, rfl, ia⟩ := oa.is HM.out
    rw [HL.out] at ia ⊢
    have Ba := B9.trans (hba.mono B9.size)
    have Ea := E9.trans (hba.mono E9.size)
    have Fa := F9.trans (hba.mono F9.size)
    have Ga := G9.trans (hba.mono G9.size)
    have Oa := Lib.hid (O9.out.next hba)
    have Xa := Lib.hid (own_next X9.out (grown_of_below hba))
    have Sa := Lib.hid (own_next S9.out (grown_of_below hba))
    clear hba B9 E9 F9 G9 O9 X9 S9 oa
    go_wp2_with fail
    refine (eqTriS x6 xa la y6 la ya gs _ (i6.next Fa) ia hl1).mono ?_
    rintro e wb ⟨rfl, hbb⟩
    have Bb := Ba.trans (hbb.mono Ba.size)
    have Eb := Ea.trans (hbb.mono Ea.size)
    have Gb := Ga.trans (hbb.mono Ga.size)
    have Ob := Lib.hid (Oa.out.next hbb)
    have Xb := Lib.hid (own_next Xa.out (grown_of_below hbb))
    have Sb := Lib.hid (own_next Sa.out (grown_of_below hbb))
    clear hbb Ba Ea Fa Ga Oa Xa Sa ia i6
    go_wp2_with fail
    refine (toTriS b lb cb ls _ (k.next Bb) kl1).mono ?_
    rintro e wm ⟨v, rfl, om, hbm⟩
    obtain ⟨xm, ym, rfl, im⟩ := om.is KM.out
    rw [KL.out] at im ⊢
    have Bm := Bb.trans (hbm.mono Bb.size)
    have Em := Eb.trans (hbm.mono Eb.size)
    have Gm := Gb.trans (hbm.mono Gb.size)
    have Om := Lib.hid (Ob.out.next hbm)
    have Xm := Lib.hid (own_next Xb.out (grown_of_below hbm))
    have Sm' := Lib.hid (own_next Sb.out (grown_of_below hbm))
    clear hbm Bb Eb Gb Ob Xb Sb om
    go_wp2_with fail
    refine (eqTriS x7 xm lb y7 lb ym ls _ (i7.next Gm) im kl1).mono ?_
    rintro e wn ⟨rfl, hbn⟩
    have Bn := Bm.trans (hbn.mono Bm.size)
    have En := Em.trans (hbn.mono Em.size)
    have On := Lib.hid (Om.out.next hbn)
    have Xn := own_next Xm.out (grown_of_below hbn)
    have Sn := Lib.hid (own_next Sm'.out (grown_of_below hbn))
    have hzn := En.size
    have hz7n : w7.heap.size ≤ wn.heap.size := by have := Gm.size; have := hbn.size; omega
    have MK := markTriK w5.heap.size _ gs wn Xn (by rw [HL.out]; exact hl1) 1 (by omega) (by omega)
    rw [HL.out] at MK
    obtain ⟨M, hM⟩ : ∃ M : Nat, 1 + 3 * la = M := ⟨_, rfl⟩
    have hM1 : M ≤ 40000000 := by omega
    have hMp : 0 < M := by omega
    rw [hM] at MK
    have HMK := Lib.hid MK
    clear hbn Bm Em Gm Om Xm Sm' im i7 MK Xn hM
    go_wp2_with fail
    refine HMK.out.mono ?_
    rintro e wo ⟨rfl, _, hgo⟩
    have Bo := Bn.grown hgo Bn.size (fun j hj => by have := (hlt6 j hj).1; omega)
    have Eo := En.grown hgo En.size (fun j hj => (hlt6 j hj).1)
    have hz7o : w7.heap.size ≤ wo.heap.size := by have := hgo.size; omega
    have Oo := Lib.hid (On.out.grown hgo (fun j hj => by have := (hlt6 j hj).2; omega))
    have So := World.ownsRow.kept Sn.out hgo (by
      rcases hv : (Value.slice x7 lb y7).ownBlock with _ | j
      · exact .inl rfl
      · refine .inr fun e => ?_
        have h1 := (hlt6 j e.symm).2
        have h2 := (hlt7 j hv).1
        omega)
    have MK := markTriK w6.heap.size _ ls wo So (by rw [KL.out]; exact kl1) M hMp hM1
    rw [KL.out] at MK
    obtain ⟨M2, hM2⟩ : ∃ M2 : Nat, M + 3 * lb = M2 := ⟨_, rfl⟩
    rw [hM2] at MK
    have HMK2 := Lib.hid MK
    have hM0 : ¬ (M2 : Int) < 0 := by omega
    clear hgo Bn En On Sn So MK HMK hM2
    go_wp2_with fail
    refine HMK2.out.mono ?_
    rintro e wc ⟨rfl, _, hgc⟩
    have Bc := Bo.grown hgc Bo.size (fun j hj => by have := (hlt7 j hj).1; omega)
    have Ec := Eo.grown hgc Eo.size (fun j hj => by have := (hlt7 j hj).1; omega)
    have Oc := Lib.hid (Oo.out.grown hgc (fun j hj => (hlt7 j hj).2))
    have hz7c : w7.heap.size ≤ wc.heap.size := by have := hgc.size; omega
    have ic := Oc.out.isN HRM.out
    clear HMK2 hgc Bo Eo Oo
    go_wp2_with fail
    refine (eqRows x8 x5 N y8 N y5 R _ ic (i5.next Ec) (by omega)).mono ?_
    rintro e wd ⟨rfl, hbd⟩
    have Bd := Bc.trans (hbd.mono Bc.size)
    have Ed := Ec.trans (hbd.mono Ec.size)
    have Od := Oc.out.next hbd
    have hzd := Ed.size
    have hz0 : w7.heap.size ≤ wd.heap.size := by have := hbd.size; omega
    have MK := markRowsAny w7.heap.size w8.heap.size _ R wd Od hz0 (by rw [HN.out]; omega) 1 (by omega) (by omega)
    obtain ⟨K, hK⟩ : ∃ K : Nat, 1 + 2 * totR R = K := ⟨_, rfl⟩
    have hK0 : ¬ (K : Int) < 0 := by omega
    rw [hK] at MK
    have HMK := Lib.hid MK
    clear hbd Bc Ec Oc ic Od MK
    go_wp2_with fail
    refine HMK.out.mono ?_
    rintro e wf ⟨rfl, of, hgf⟩
    have Bf := Bd.trans (hgf.1.mono (by omega))
    have Ef := Ed.trans (hgf.1.mono (by omega))
    have if_ := of.isN (marksRs_small R 1 (by omega) (by omega))
    have HD := fun W hi => heldRows x8 N y8 R W 1 hi (by omega) (by omega) (by omega)
    rw [hK] at HD
    have HLD := Lib.hid HD
    clear HD HMK hgf of Bd Ed hK
    go_wp2_with fail
    refine (HLD.out _ if_).mono ?_
    rintro e wg ⟨rfl, hbg⟩
    have Bg := Bf.trans (hbg.mono Bf.size)
    have Eg := Ef.trans (hbg.mono Ef.size)
    have ig := if_.next hbg
    clear hbg Bf Ef if_
    go_wp2_with fail
    refine (toTriS a la ca gs _ (h.next Bg) hl1).mono ?_
    rintro e wh ⟨v, rfl, oh, hbh⟩
    obtain ⟨xh, yh, rfl, ih⟩ := oh.is HM.out
    rw [HL.out] at ih ⊢
    have Bh := Bg.trans (hbh.mono Bg.size)
    have Eh := Eg.trans (hbh.mono Eg.size)
    have igh := ig.next hbh
    clear hbh Bg Eg ig oh
    go_wp2_with fail
    refine (toTriS b lb cb ls _ (k.next Bh) kl1).mono ?_
    rintro e wi ⟨v, rfl, oi, hbi⟩
    obtain ⟨xi, yi, rfl, ii⟩ := oi.is KM.out
    rw [KL.out] at ii ⊢
    have Bi := Bh.trans (hbi.mono Bh.size)
    have Ei := Eh.trans (hbi.mono Eh.size)
    have igi := igh.next hbi
    have ihi := ih.next hbi
    clear hbi Bh Eh igh ih oi
    go_wp2_with fail
    refine (HC2.out xh yh xi yi _ ihi ii).mono ?_
    rintro e wj ⟨v, rfl, oj, hbj⟩
    obtain ⟨xj, yj, rfl, ij⟩ := oj.is HRM.out
    rw [HN.out] at ij ⊢
    have Bj := Bi.trans (hbj.mono Bi.size)
    have Ej := Ei.trans (hbj.mono Ei.size)
    have igj := igi.next hbj
    clear hbj Bi Ei igi ihi ii oj
    go_wp2_with fail
    refine (eqRows xj x5 N yj N y5 R _ ij (i5.next Ej) (by omega)).mono ?_
    rintro e wk ⟨rfl, hbk⟩
    have Bk := Bj.trans (hbk.mono Bj.size)
    have igk := igj.next hbk
    clear hbk Bj Ej igj ij
    go_wp2_with fail
    refine (HLD.out _ igk).mono ?_
    rintro e wl ⟨rfl, hbl⟩
    have Bl := Bk.trans (hbl.mono Bk.size)
    clear hbl Bk igk
    go_wp2_with fail
    go_ret
    exact ⟨rfl, Bl⟩
end fnExactSolutions
end Go.Proofs.YtbhlenjcahonnaaGreat
