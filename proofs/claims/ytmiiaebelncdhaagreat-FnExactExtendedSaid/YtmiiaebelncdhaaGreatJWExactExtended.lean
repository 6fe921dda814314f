/- The walk of FnExactExtended. -/
import Derived.Test.YtmiiaebelncdhaaGreatG00
import Derived.Test.YtmiiaebelncdhaaGreatG42
import Derived.Test.YtmiiaebelncdhaaGreatG41
import Derived.Test.YtmiiaebelncdhaaGreatG23
import Derived.Test.YtmiiaebelncdhaaGreatG03
namespace Go.Proofs.YtmiiaebelncdhaaGreat
open Go.RowKit Go.WideShapes
namespace fnExactExtended
theorem totR_most : ∀ (rs : List RowV), (∀ r ∈ rs, r.length ≤ 12) → totR rs ≤ rs.length * 12
  | [], _ => by simp [totR]
  | s :: rs, h => by
    have e : totR (s :: rs) = s.length + totR rs := by simp [totR]
    have := totR_most rs (fun r hr => h r (List.mem_cons_of_mem _ hr))
    have := h s (List.mem_cons_self ..)
    rw [e, List.length_cons]; omega
theorem res_ok (gs : List Tri3) (rs : List RowV) (ls : List Tri3) (hga : SmT gs) (hsr : SmR rs) (hgb : SmT ls) : (extR gs rs ls).length ≤ 300 ∧ totR (extR gs rs ls) ≤ 3600 ∧ ∀ r ∈ extR gs rs ls, ∀ t ∈ r, t.1.size ≤ maxLen ∧ t.2.size ≤ maxLen := by
  cases h : extOk gs rs ls
  · rw [extR_no h]
    simp [totR]
  · have h0 := h
    unfold extOk at h
    simp only [Bool.and_eq_true] at h
    obtain ⟨hg, hq, hl, hf⟩ := h
    have hrok : ∀ r ∈ rs, rowOk r = true := by
      unfold rowsOkL at hq
      simp only [Bool.and_eq_true, List.all_eq_true] at hq
      exact hq.2
    cases hA : extA gs rs ls with
    | none => rw [hA] at hf; cases hf
    | some A =>
      rw [hA] at hf
      unfold finX at hf
      simp only [Bool.and_eq_true, List.all_eq_true, decide_eq_true_eq] at hf
      have hE : extR gs rs ls = addAllR [] A := by
        unfold extR
        rw [if_pos h0, hA]
        rfl
      have hm : ∀ r ∈ addAllR [] A, r ∈ A := fun r hr => by
        rcases addAllR_mem hr with h | h
        · simp at h
        · exact h
      rw [hE]
      refine ⟨hf.2, ?_, fun r hr t ht => ?_⟩
      · have := totR_most (addAllR [] A) (fun r hr => rowOk_most (hf.1 r (hm r hr)))
        have := hf.2
        omega
      · obtain ⟨s, h1, M, h2, h3⟩ := (allX_mem hA r).1 (hm r hr)
        have := (more_smallS hg hl hga hgb (hrok s h1) (hsr s h1) M h2 r h3).1 t ht
        unfold maxLen
        omega
theorem ownT_moved {A B D : Nat} {w w' : World} {v : Value} {ts : List Tri3} (h : OwnT D w v ts) (hb : BetwR A B w w') (hc : B ≤ D) : OwnT D w' v ts := ownsRow_same h fun j hj => hb.2 j (by have := (World.ownsRow.lt h j hj).1; omega) (World.ownsRow.lt h j hj).2
theorem ownT_far {D : Nat} {row : Option Nat} {w w' : World} {v : Value} {ts : List Tri3} (h : OwnT D w v ts) (hg : w.grownBy w' row) (hr : ∀ j, row = some j → j < D) : OwnT D w' v ts := ownsRow_same h fun j hj => hg.block j (World.ownsRow.lt h j hj).2 (fun e => by have := hr j e.symm; have := (World.ownsRow.lt h j hj).1; omega)
set_option maxRecDepth 100000 in
set_option maxHeartbeats 6400000 in
theorem walk (a : Option Addr) (la ca : Nat) (gs : List Tri3) (b : Option Addr) (lr cr : Nat) (rs : List RowV) (c : Option Addr) (lb cb : Nat) (ls : List Tri3) (w : World) (h : IsTris w a la ca gs) (kr : IsRows w b lr cr rs) (k : IsTris w c lb cb ls) :
    Calls Tryz.prog 8 #[.slice a la ca, .slice b lr cr, .slice c lb cb] w fun e w' => e = .returned (.bool true) ∧ Below w.heap.size w w' := by
  have hla : la ≤ 9223372036854775807 := by
    rcases h with ⟨_, rfl, _, _⟩ | ⟨_, _, h1, h2, _⟩
    · omega
    · unfold maxLen at h2; omega
  have hlb : lb ≤ 9223372036854775807 := by
    rcases k with ⟨_, rfl, _, _⟩ | ⟨_, _, h1, h2, _⟩
    · omega
    · unfold maxLen at h2; omega
  have hlr := kr.maxl
  have KM := Lib.hid k.small
  have HM := Lib.hid h.small
  have RM := Lib.hid kr.small
  have HL := Lib.hid h.len
  have KL := Lib.hid k.len
  have RL := Lib.hid kr.len
  go_enter Tryz.func8, Tryz.ntmps8
  go_wp2_with fail
  refine (szTriS a la ca gs _ h 1048576 (by omega) (by omega) hla).mono ?_
  rintro e w1 ⟨n, rfl, hn, B1⟩
  rcases hn with rfl | ⟨hn0, hn1, hsm⟩
  · go_wp2_with fail
    go_ret
    exact ⟨rfl, B1⟩
  have hS : SmT gs := fun t ht => by have := hsm.2 t ht; omega
  have hl1 : la ≤ 1048576 := hsm.1
  have hn2 : ¬ n < 0 := by omega
  clear hsm
  go_wp2_with fail
  refine (szRows b lr cr rs _ (kr.next B1) n hn0 hn1 hlr).mono ?_
  rintro e w2 ⟨m, rfl, hm, hb2⟩
  have B2 := B1.trans (hb2.mono B1.size)
  clear hb2 B1
  rcases hm with rfl | ⟨hm0, hm1, rsm⟩
  · go_wp2_with fail
    go_ret
    exact ⟨rfl, B2⟩
  have rS : SmR rs := fun r hr t ht => by have := rsm.2 r hr t ht; omega
  have rl1 : lr + totR rs ≤ 1048576 := rsm.1
  have hm2 : ¬ m < 0 := by omega
  clear rsm
  go_wp2_with fail
  refine (szTriS c lb cb ls _ (k.next B2) m hm0 (by omega) hlb).mono ?_
  rintro e w3 ⟨q, rfl, hq, hb3⟩
  have B3 := B2.trans (hb3.mono B2.size)
  clear hb3 B2
  rcases hq with rfl | ⟨hq0, hq1, ksm⟩
  · go_wp2_with fail
    go_ret
    exact ⟨rfl, B3⟩
  have kl1 : lb ≤ 1048576 := ksm.1
  have kS : SmT ls := fun t ht => by have := ksm.2 t ht; omega
  have hq2 : ¬ q < 0 := by omega
  clear ksm
  have C1 := fun x y x' y' x'' y'' w hi hr ki => specExtended x x' x'' la y lr y' lb y'' gs rs ls w hi hr ki hS rS kS
  have C2 := fun x y x' y' x'' y'' w hi hr ki => implExtended x x' x'' la y lr y' lb y'' gs rs ls w hi hr ki hS rS kS
  change ∀ x y x' y' x'' y'' w, IsTris w x la y gs → IsRows w x' lr y' rs → IsTris w x'' lb y'' ls → Calls _ _ _ w (fun e w' => ∃ a n c, e = .returned (.tuple #[.slice a n c, .bool (extOk gs rs ls)]) ∧ IsRows w' a n c (extR gs rs ls) ∧ Below w.heap.size w w') at C1
  change ∀ x y x' y' x'' y'' w, IsTris w x la y gs → IsRows w x' lr y' rs → IsTris w x'' lb y'' ls → Calls _ _ _ w (fun e w' => ∃ v, e = .returned (.tuple #[v, .bool (extOk gs rs ls)]) ∧ OwnRs w.heap.size w' v (extR gs rs ls) ∧ Below w.heap.size w w') at C2
  obtain ⟨hR1, hR2, hRM⟩ := res_ok gs rs ls hS rS kS
  generalize extR gs rs ls = R at C1 C2 hR1 hR2 hRM
  generalize extOk gs rs ls = bb at C1 C2
  obtain ⟨N, hN⟩ : ∃ N, R.length = N := ⟨_, rfl⟩
  rw [hN] at hR1
  have HN := Lib.hid hN
  have HRM := Lib.hid hRM
  have HC1 := Lib.hid C1
  have HC2 := Lib.hid C2
  clear C1 C2 hRM hN hS kS rS hn0 hn1 hm0 hm1 hq0 hq1
  go_wp2_with fail
  refine (toTriS a la ca gs _ (h.next B3) hl1).mono ?_
  rintro e w4 ⟨v, rfl, o4, hb4⟩
  obtain ⟨x4, y4, rfl, i4⟩ := o4.is HM.out
  rw [HL.out] at i4 ⊢
  have B4 := B3.trans (hb4.mono B3.size)
  clear hb4 B3 o4
  go_wp2_with fail
  refine (toRows b lr cr rs _ (kr.next B4) rl1).mono ?_
  rintro e w5 ⟨v, rfl, o5, hb5⟩
  obtain ⟨x5, y5, rfl, i5⟩ := o5.is RM.out
  rw [RL.out] at i5 ⊢
  have B5 := B4.trans (hb5.mono B4.size)
  have i45 := i4.next hb5
  clear hb5 B4 o5 i4
  go_wp2_with fail
  refine (toTriS c lb cb ls _ (k.next B5) kl1).mono ?_
  rintro e w6 ⟨v, rfl, o6, hb6⟩
  obtain ⟨x6, y6, rfl, i6⟩ := o6.is KM.out
  rw [KL.out] at i6 ⊢
  have B6 := B5.trans (hb6.mono B5.size)
  have i46 := i45.next hb6
  have i56 := i5.next hb6
  clear hb6 B5 o6 i5 i45
  go_wp2_with fail
  refine (HC1.out x4 y4 x5 y5 x6 y6 _ i46 i56 i6).mono ?_
  rintro e w7 ⟨x7, n7, y7, rfl, i7, hb7⟩
  have hn7 := i7.len
  rw [HN.out] at hn7
  subst hn7
  have B7 := B6.trans (hb7.mono B6.size)
  clear hb7 B6 i46 i56 i6
  go_wp2_with fail
  refine (toTriS a la ca gs _ (h.next B7) hl1).mono ?_
  rintro e w8 ⟨v, rfl, o8, hb8⟩
  have hlt8 := fun j hj => (World.ownsRow.lt o8 j hj)
  obtain ⟨x8, y8, rfl, i8⟩ := o8.is HM.out
  rw [HL.out] at i8 hlt8 ⊢
  have H8 : Hid (OwnT w7.heap.size w8 (.slice x8 la y8) gs) := Lib.hid (by rw [HL.out] at o8; exact o8)
  have B8 := B7.trans (hb8.mono B7.size)
  have E8 : Below w7.heap.size w7 w8 := hb8
  have hz78 := E8.size
  clear hb8 o8
  go_wp2_with fail
  refine (toRows b lr cr rs _ (kr.next B8) rl1).mono ?_
  rintro e w9 ⟨v, rfl, o9, hb9⟩
  have O9 := OwnRsC.of o9
  obtain ⟨x9, y9, rfl, i9⟩ := o9.is RM.out
  rw [RL.out] at i9 O9 ⊢
  have H9 := Lib.hid O9
  have B9 := B8.trans (hb9.mono B8.size)
  have E9 := E8.trans (hb9.mono E8.size)
  have F9 : Below w8.heap.size w8 w9 := hb9
  have hz89 := F9.size
  have X9 := Lib.hid (ownT_far H8.out (grown_of_below F9) (fun j hj => by cases hj))
  have i89 := i8.next F9
  clear hb9 B8 E8 o9 O9 H8 i8
  go_wp2_with fail
  refine (toTriS c lb cb ls _ (k.next B9) kl1).mono ?_
  rintro e wA ⟨v, rfl, oA, hbA⟩
  have hltA := fun j hj => (World.ownsRow.lt oA j hj)
  obtain ⟨xA, yA, rfl, iA⟩ := oA.is KM.out
  rw [KL.out] at iA hltA ⊢
  have HA : Hid (OwnT w9.heap.size wA (.slice xA lb yA) ls) := Lib.hid (by rw [KL.out] at oA; exact oA)
  have BA := B9.trans (hbA.mono B9.size)
  have EA := E9.trans (hbA.mono E9.size)
  have FA : Below w9.heap.size w9 wA := hbA
  have hz9A := FA.size
  have XA := Lib.hid (ownT_far X9.out (grown_of_below FA) (fun j hj => by cases hj))
  have YA := Lib.hid (H9.out.next FA)
  have i8A := i89.next FA
  have i9A := i9.next FA
  clear hbA B9 E9 F9 oA X9 H9 i89 i9
  go_wp2_with fail
  refine (HC2.out x8 y8 x9 y9 xA yA _ i8A i9A iA).mono ?_
  rintro e wB ⟨v, rfl, oB, hbB⟩
  have OB := OwnRsC.of oB
  obtain ⟨xB, yB, rfl, iB⟩ := oB.is HRM.out
  rw [HN.out] at iB OB ⊢
  have HB := Lib.hid OB
  have BB := BA.trans (hbB.mono BA.size)
  have EB := EA.trans (hbB.mono EA.size)
  have FB : Below wA.heap.size wA wB := hbB
  have hzAB := FB.size
  have hz7 := B7.size
  have XB := Lib.hid (ownT_far XA.out (grown_of_below FB) (fun j hj => by cases hj))
  have YB := Lib.hid (YA.out.next FB)
  have ZB := Lib.hid (ownT_far HA.out (grown_of_below FB) (fun j hj => by cases hj))
  have i8B := i8A.next FB
  have i9B := i9A.next FB
  have iAB := iA.next FB
  clear hbB BA EA FA oB OB XA YA HA i8A i9A iA B7
  go_wp2_with fail
  refine (eqRows xB x7 N yB N y7 R _ iB (i7.next EB) (by omega)).mono ?_
  rintro e wC ⟨rfl, hbC⟩
  have BC := BB.trans (hbC.mono BB.size)
  have EC := EB.trans (hbC.mono EB.size)
  have OC := Lib.hid (HB.out.next hbC)
  have XC := Lib.hid (ownT_far XB.out (grown_of_below hbC) (fun j hj => by cases hj))
  have YC := Lib.hid (YB.out.next hbC)
  have ZC := Lib.hid (ownT_far ZB.out (grown_of_below hbC) (fun j hj => by cases hj))
  have i8C := i8B.next hbC
  have i9C := i9B.next hbC
  have iAC := iAB.next hbC
  have hzBC := hbC.size
  clear hbC BB EB FB HB XB YB ZB i8B i9B iAB iB
  cases bb
  all_goals
    go_wp2_with fail
    refine (toTriS a la ca gs _ (h.next BC) hl1).mono ?_
    rintro e wa ⟨v, rfl, oa, hba⟩
    obtain ⟨xa, ya, rfl, ia⟩ := oa.is HM.out
    rw [HL.out] at ia ⊢
    have Ba := BC.trans (hba.mono BC.size)
    have Fa : Hid (Below wC.heap.size wC wa) := Lib.hid hba
    clear hba oa
    go_wp2_with fail
    refine (eqTriS x8 xa la y8 la ya gs _ (i8C.next Fa.out) ia hl1).mono ?_
    rintro e wb ⟨rfl, hbb⟩
    have Bb := Ba.trans (hbb.mono Ba.size)
    have Fb := Lib.hid (Fa.out.trans (hbb.mono Fa.out.size))
    clear hbb Ba Fa ia i8C
    go_wp2_with fail
    refine (toRows b lr cr rs _ (kr.next Bb) rl1).mono ?_
    rintro e wm ⟨v, rfl, om, hbm⟩
    obtain ⟨xm, ym, rfl, im⟩ := om.is RM.out
    rw [RL.out] at im ⊢
    have Bm := Bb.trans (hbm.mono Bb.size)
    have Fm := Lib.hid (Fb.out.trans (hbm.mono Fb.out.size))
    clear hbm Bb Fb om
    go_wp2_with fail
    refine (eqRows x9 xm lr y9 lr ym rs _ (i9C.next Fm.out) im rl1).mono ?_
    rintro e wn ⟨rfl, hbn⟩
    have Bn := Bm.trans (hbn.mono Bm.size)
    have Fn := Lib.hid (Fm.out.trans (hbn.mono Fm.out.size))
    clear hbn Bm Fm im i9C
    go_wp2_with fail
    refine (toTriS c lb cb ls _ (k.next Bn) kl1).mono ?_
    rintro e wp ⟨v, rfl, op, hbp⟩
    obtain ⟨xp, yp, rfl, ip⟩ := op.is KM.out
    rw [KL.out] at ip ⊢
    have Bp := Bn.trans (hbp.mono Bn.size)
    have Fp := Lib.hid (Fn.out.trans (hbp.mono Fn.out.size))
    clear hbp Bn Fn op
    go_wp2_with fail
    refine (eqTriS xA xp lb yA lb yp ls _ (iAC.next Fp.out) ip kl1).mono ?_
    rintro e wq ⟨rfl, hbq⟩
    have Bq := Bp.trans (hbq.mono Bp.size)
    have Fq := Fp.out.trans (hbq.mono Fp.out.size)
    have Eq := EC.trans (Fq.mono EC.size)
    have Oq := Lib.hid (OC.out.next Fq)
    have Xq := ownT_far XC.out (grown_of_below Fq) (fun j hj => by cases hj)
    have Yq := Lib.hid (YC.out.next Fq)
    have Zq := Lib.hid (ownT_far ZC.out (grown_of_below Fq) (fun j hj => by cases hj))
    have hzq := Fq.size
    have MK := markTriK w7.heap.size _ gs wq Xq (by rw [HL.out]; exact hl1) 1 (by omega) (by omega)
    rw [HL.out] at MK
    obtain ⟨M, hM⟩ : ∃ M : Nat, 1 + 3 * la = M := ⟨_, rfl⟩
    have hM1 : M ≤ 4000000 := by omega
    have hMp : 0 < M := by omega
    rw [hM] at MK
    have HMK := Lib.hid MK
    clear hbq Bp Fp ip iAC Fq OC XC YC ZC EC BC Xq MK hM
    go_wp2_with fail
    refine HMK.out.mono ?_
    rintro e wr ⟨rfl, _, hgr⟩
    have Br := Bq.grown hgr Bq.size (fun j hj => by have := (hlt8 j hj).1; omega)
    have Er := Eq.grown hgr Eq.size (fun j hj => (hlt8 j hj).1)
    have hzr := hgr.size
    have Or := Lib.hid (Oq.out.grown hgr (fun j hj => by have := (hlt8 j hj).2; omega))
    have Yr := Yq.out.grown hgr (fun j hj => (hlt8 j hj).2)
    have Zr := Lib.hid (ownT_far Zq.out hgr (fun j hj => by have := (hlt8 j hj).2; omega))
    have MK := markRowsAny w8.heap.size w9.heap.size _ rs wr Yr (by omega) (by rw [RL.out]; exact rl1) M hMp hM1
    obtain ⟨M2, hM2⟩ : ∃ M2 : Nat, M + 2 * totR rs = M2 := ⟨_, rfl⟩
    have hM3 : M2 ≤ 40000000 := by omega
    have hMp2 : 0 < M2 := by omega
    rw [hM2] at MK
    have HMK2 := Lib.hid MK
    clear hgr Bq Eq Oq Yq Zq Yr MK HMK hM2
    go_wp2_with fail
    refine HMK2.out.mono ?_
    rintro e ws ⟨rfl, _, hgs⟩
    have Bs := Br.trans (hgs.1.mono (by omega))
    have Es := Er.trans (hgs.1.mono (by omega))
    have hzs := hgs.1.size
    have Os := Lib.hid (Or.out.moved hgs (by omega))
    have Zs := ownT_moved Zr.out hgs (Nat.le_refl _)
    have MK := markTriK w9.heap.size _ ls ws Zs (by rw [KL.out]; exact kl1) M2 hMp2 hM3
    rw [KL.out] at MK
    obtain ⟨M3, hM4⟩ : ∃ M3 : Nat, M2 + 3 * lb = M3 := ⟨_, rfl⟩
    rw [hM4] at MK
    have HMK3 := Lib.hid MK
    have hM0 : ¬ (M3 : Int) < 0 := by omega
    clear hgs Br Er Or Zr Zs MK HMK2 hM4
    go_wp2_with fail
    refine HMK3.out.mono ?_
    rintro e wc ⟨rfl, _, hgc⟩
    have Bc := Bs.grown hgc Bs.size (fun j hj => by have := (hltA j hj).1; omega)
    have Ec := Es.grown hgc Es.size (fun j hj => by have := (hltA j hj).1; omega)
    have Oc := Lib.hid (Os.out.grown hgc (fun j hj => (hltA j hj).2))
    have hzc := hgc.size
    have ic := Oc.out.isN HRM.out
    clear HMK3 hgc Bs Es Os
    go_wp2_with fail
    refine (eqRows xB x7 N yB N y7 R _ ic (i7.next Ec) (by omega)).mono ?_
    rintro e wd ⟨rfl, hbd⟩
    have Bd := Bc.trans (hbd.mono Bc.size)
    have Ed := Ec.trans (hbd.mono Ec.size)
    have Od := Oc.out.next hbd
    have hzd := hbd.size
    have MK := markRowsAny wA.heap.size wB.heap.size _ R wd Od (by omega) (by rw [HN.out]; omega) 1 (by omega) (by omega)
    obtain ⟨K, hK⟩ : ∃ K : Nat, 1 + 2 * totR R = K := ⟨_, rfl⟩
    have hK0 : ¬ (K : Int) < 0 := by omega
    rw [hK] at MK
    have HMK := Lib.hid MK
    clear hbd Bc Ec Oc ic Od MK
    go_wp2_with fail
    refine HMK.out.mono ?_
    rintro e wf ⟨rfl, of, hgf⟩
    have Bf := Bd.trans (hgf.1.mono (by omega))
    have Ef := Ed.trans (hgf.1.mono (by omega))
    have if_ := of.isN (marksRs_small R 1 (by omega) (by omega))
    have HD := fun W hi => heldRows xB N yB R W 1 hi (by omega) (by omega) (by omega)
    rw [hK] at HD
    have HLD := Lib.hid HD
    clear HD HMK hgf of Bd Ed hK
    go_wp2_with fail
    refine (HLD.out _ if_).mono ?_
    rintro e wg ⟨rfl, hbg⟩
    have Bg := Bf.trans (hbg.mono Bf.size)
    have Eg := Ef.trans (hbg.mono Ef.size)
    have ig := if_.next hbg
    clear hbg Bf Ef if_
    go_wp2_with fail
    refine (toTriS a la ca gs _ (h.next Bg) hl1).mono ?_
    rintro e wh ⟨v, rfl, oh, hbh⟩
    obtain ⟨xh, yh, rfl, ih⟩ := oh.is HM.out
    rw [HL.out] at ih ⊢
    have Bh := Bg.trans (hbh.mono Bg.size)
    have Eh := Eg.trans (hbh.mono Eg.size)
    have igh := ig.next hbh
    clear hbh Bg Eg ig oh
    go_wp2_with fail
    refine (toRows b lr cr rs _ (kr.next Bh) rl1).mono ?_
    rintro e wi ⟨v, rfl, oi, hbi⟩
    obtain ⟨xi, yi, rfl, ii⟩ := oi.is RM.out
    rw [RL.out] at ii ⊢
    have Bi := Bh.trans (hbi.mono Bh.size)
    have Ei := Eh.trans (hbi.mono Eh.size)
    have igi := igh.next hbi
    have ihi := ih.next hbi
    clear hbi Bh Eh igh ih oi
    go_wp2_with fail
    refine (toTriS c lb cb ls _ (k.next Bi) kl1).mono ?_
    rintro e wt ⟨v, rfl, ot, hbt⟩
    obtain ⟨xt, yt, rfl, it⟩ := ot.is KM.out
    rw [KL.out] at it ⊢
    have Bt := Bi.trans (hbt.mono Bi.size)
    have Et := Ei.trans (hbt.mono Ei.size)
    have igt := igi.next hbt
    have iht := ihi.next hbt
    have iit := ii.next hbt
    clear hbt Bi Ei igi ihi ii ot
    go_wp2_with fail
    refine (HC2.out xh yh xi yi xt yt _ iht iit it).mono ?_
    rintro e wj ⟨v, rfl, oj, hbj⟩
    obtain ⟨xj, yj, rfl, ij⟩ := oj.is HRM.out
    rw [HN.out] at ij ⊢
    have Bj := Bt.trans (hbj.mono Bt.size)
    have Ej := Et.trans (hbj.mono Et.size)
    have igj := igt.next hbj
    clear hbj Bt Et igt iht iit it oj
    go_wp2_with fail
    refine (eqRows xj x7 N yj N y7 R _ ij (i7.next Ej) (by omega)).mono ?_
    rintro e wk ⟨rfl, hbk⟩
    have Bk := Bj.trans (hbk.mono Bj.size)
    have igk := igj.next hbk
    clear hbk Bj Ej igj ij
    go_wp2_with fail
    refine (HLD.out _ igk).mono ?_
    rintro e wl ⟨rfl, hbl⟩
    have Bl := Bk.trans (hbl.mono Bk.size)
    clear hbl Bk igk
    go_wp2_with fail
    go_ret
    exact ⟨rfl, Bl⟩
end fnExactExtended
end Go.Proofs.YtmiiaebelncdhaaGreat
