/- A slice of texts that came in: what its cells hold. -/
import Derived.Test.YtnmoobahchlliaaJExactProjected06
import Derived.Test.YtnmoobahchlliaaJExactProjected21
import Derived.Test.YtnmoobahchlliaaJExactProjected00
import Derived.Test.YtnmoobahchlliaaJExactProjected28
import Derived.Test.YtnmoobahchlliaaJExactProjected30
import Derived.Test.YtnmoobahchlliaaJExactProjected31
import Derived.Test.YtnmoobahchlliaaJExactProjected25
namespace Go.Proofs.Ytnmoobahchlliaa
open Go.ChangeShapes Go.WideShapes Go.ChangeAt Go.RowKit
def StrAt (w : World) (x : Addr) (i : Nat) (t : ByteArray) : Prop := w.cell? (x.add i) = some (.string t) ∧ t.size ≤ maxLen
theorem open_strs {H : Type} {enc : TypeId × Value → H} {P : Program} {w : World} {base : Nat} {spare : Nat → Bool} {held : Bool} {t e : TypeId} {fuel : Nat} {a : Option Addr} {len cap : Nat} {x : DataW H × List MemPlace}
    (ht : P.underlying t = some (.slice e)) (hC : P.cellsOf e = 1) (he : P.underlying e = some .string)
    (h : DataW.trod enc P w base spare held fuel t [.slice a len cap] = some x) : ∃ ts, IsStrs w a len cap ts ∧ ∀ t ∈ ts, t.size ≤ maxLen := by
  rcases Deep.open_slice ht h with ⟨hcs, _⟩ | ⟨x, len', cap', m, n, D, Pl, hcs, _, hl, hm, hmm, _, hi⟩
  · simp only [List.cons.injEq, Value.slice.injEq, and_true] at hcs
    exact ⟨[], .inl ⟨hcs.1, hcs.2.1, hcs.2.2, rfl⟩, by simp⟩
  · simp only [List.cons.injEq, Value.slice.injEq, and_true] at hcs
    obtain ⟨rfl, rfl, rfl⟩ := hcs
    have hlm : len ≤ m := by rw [hmm]; split <;> omega
    obtain ⟨ts, hts, hq⟩ := list_of (Q := StrAt w x) len fun i hil => by
      obtain ⟨cs, hc, htr⟩ := hi i (by omega)
      rw [hC] at hc
      obtain ⟨_, hcl, hat⟩ := World.cells?_some hc
      match cs, hcl with
      | [v], _ =>
        obtain ⟨s, hs, _, hsz⟩ := DataW.trod_string he htr
        have := hat 0 (by omega)
        rw [Deep.add_add, Nat.mul_one, Nat.add_zero] at this
        simp only [List.cons.injEq, and_true] at hs
        subst hs
        exact ⟨s, this.trans rfl, hsz⟩
    refine ⟨ts, .inr ⟨x, rfl, hl, hm, hts, fun i t hi => (hq i t hi).1⟩, fun t ht => ?_⟩
    obtain ⟨i, hi⟩ := List.mem_iff_getElem?.1 ht
    exact (hq i t hi).2
end Go.Proofs.Ytnmoobahchlliaa
/- The walk of FnExactProjected. -/
namespace Go.Proofs.Ytnmoobahchlliaa
open Go.RowKit Go.WideShapes
namespace fnExactProjected
theorem totR_most : ∀ (rs : List RowV), (∀ r ∈ rs, r.length ≤ 12) → totR rs ≤ rs.length * 12
  | [], _ => by simp [totR]
  | s :: rs, h => by
    have e : totR (s :: rs) = s.length + totR rs := by simp [totR]
    have := totR_most rs (fun r hr => h r (List.mem_cons_of_mem _ hr))
    have := h s (List.mem_cons_self ..)
    rw [e, List.length_cons]; omega
theorem res_ok (rs : List RowV) (vs : List ByteArray) : (projR rs vs).length ≤ 300 ∧ totR (projR rs vs) ≤ 3600 ∧ ∀ r ∈ projR rs vs, ∀ t ∈ r, ∃ s ∈ rs, t ∈ s := by
  cases h : projOk rs vs
  · rw [projR_no h]; simp [totR]
  · rw [projR_yes h]
    have hq : rowsOkL rs = true := by unfold projOk at h; simp only [Bool.and_eq_true] at h; exact h.1
    have hm : ∀ r ∈ projL rs vs, ∃ s ∈ rs, keepL (txts vs) s = r := fun r hr => by
      unfold projL at hr
      rcases addAllR_mem hr with hr | hr
      · simp at hr
      · obtain ⟨s, hs, e⟩ := List.mem_map.1 hr
        exact ⟨s, hs, e⟩
    have hl : (projL rs vs).length ≤ 300 := by
      unfold projL
      have h1 := addAllR_len (rs.map (keepL (txts vs))) []
      have h2 := rowsOk_most hq
      simp only [List.length_nil, List.length_map] at h1
      omega
    have h12 : ∀ r ∈ projL rs vs, r.length ≤ 12 := fun r hr => by
      obtain ⟨s, hs, rfl⟩ := hm r hr
      exact Nat.le_trans (keepL_len _ _) (rowsOk_row hq hs)
    have ht := totR_most _ h12
    refine ⟨hl, by omega, fun r hr t ht => ?_⟩
    obtain ⟨s, hs, rfl⟩ := hm r hr
    exact ⟨s, hs, (List.mem_filter.1 ht).1⟩
set_option maxRecDepth 100000 in
set_option maxHeartbeats 3200000 in
theorem walk (a : Option Addr) (la ca : Nat) (rs : List RowV) (b : Option Addr) (lb cb : Nat) (vs : List ByteArray) (w : World) (h : IsRows w a la ca rs) (k' : IsStrs w b lb cb vs ∧ ∀ t ∈ vs, t.size ≤ maxLen) :
    Calls Try.prog 3 #[.slice a la ca, .slice b lb cb] w fun e w' => e = .returned (.bool true) ∧ Below w.heap.size w w' := by
  obtain ⟨k, kmx⟩ := k'
  have hla := h.maxl
  have hlb := k.maxl
  have HM := Lib.hid h.small
  have HL := Lib.hid h.len
  have KL := Lib.hid k.len
  go_enter Try.func3, Try.ntmps3
  go_wp2_with fail
  refine (szRows a la ca rs _ h 1048576 (by omega) (by omega) hla).mono ?_
  rintro e w1 ⟨n, rfl, hn, B1⟩
  rcases hn with rfl | ⟨hn0, hn1, hsm⟩
  · go_wp2_with fail
    go_ret
    exact ⟨rfl, B1⟩
  have hS : SmR rs := fun r hr t ht => by have := hsm.2 r hr t ht; omega
  have hl1 : la + totR rs ≤ 1048576 := hsm.1
  have hn2 : ¬ n < 0 := by omega
  clear hsm
  go_wp2_with fail
  refine (szStrs b lb cb vs _ (k.next B1) kmx n hn0 hn1 hlb).mono ?_
  rintro e w2 ⟨m, rfl, hm, hb2⟩
  have B2 := B1.trans (hb2.mono B1.size)
  clear hb2 B1
  rcases hm with rfl | ⟨hm0, hm1, ksm⟩
  · go_wp2_with fail
    go_ret
    exact ⟨rfl, B2⟩
  have kl1 : lb ≤ 1048576 := ksm.1
  have kS := ksm.2
  have hm2 : ¬ m < 0 := by omega
  clear ksm
  have C1 := fun x y x' y' w hi ki => specProjected x x' la y lb y' rs vs w hi ki hS kS kl1
  have C2 := fun x y x' y' w hi ki => implProjected x x' la y lb y' rs vs w hi ki hS kS kl1
  change ∀ x y x' y' w, IsRows w x la y rs → IsStrs w x' lb y' vs → Calls _ _ _ w (fun e w' => ∃ a n c, e = .returned (.tuple #[.slice a n c, .bool (projOk rs vs)]) ∧ IsRows w' a n c (projR rs vs) ∧ Below w.heap.size w w') at C1
  change ∀ x y x' y' w, IsRows w x la y rs → IsStrs w x' lb y' vs → Calls _ _ _ w (fun e w' => ∃ v, e = .returned (.tuple #[v, .bool (projOk rs vs)]) ∧ OwnRs w.heap.size w' v (projR rs vs) ∧ Below w.heap.size w w') at C2
  obtain ⟨hR1, hR2, hR3⟩ := res_ok rs vs
  have hRM : ∀ r ∈ projR rs vs, ∀ t ∈ r, t.1.size ≤ maxLen ∧ t.2.size ≤ maxLen := fun r hr t ht => by
    obtain ⟨s, hs, ht⟩ := hR3 r hr t ht
    exact HM.out s hs t ht
  generalize projR rs vs = R at C1 C2 hR1 hR2 hRM
  generalize projOk rs vs = bb at C1 C2
  obtain ⟨N, hN⟩ : ∃ N, R.length = N := ⟨_, rfl⟩
  rw [hN] at hR1
  have HN := Lib.hid hN
  have HRM := Lib.hid hRM
  have HC1 := Lib.hid C1
  have HC2 := Lib.hid C2
  clear C1 C2 hRM hN hS kS hn0 hn1 hm0 hm1 hR3
  go_wp2_with fail
  refine (toRows a la ca rs _ (h.next B2) hl1).mono ?_
  rintro e w3 ⟨v, rfl, o3, hb3⟩
  obtain ⟨x3, y3, rfl, i3⟩ := o3.is HM.out
  rw [HL.out] at i3 ⊢
  have B3 := B2.trans (hb3.mono B2.size)
  clear hb3 B2 o3
  go_wp2_with fail
  refine (toStrs b lb cb vs _ (k.next B3) kl1).mono ?_
  rintro e w4 ⟨v, rfl, o4, hb4⟩
  obtain ⟨x4, y4, rfl, i4⟩ := o4.is
  rw [KL.out] at i4 ⊢
  have B4 := B3.trans (hb4.mono B3.size)
  have j3 := i3.next hb4
  clear hb4 B3 o4 i3
  go_wp2_with fail
  refine (HC1.out x3 y3 x4 y4 _ j3 i4).mono ?_
  rintro e w5 ⟨x5, n5, y5, rfl, i5, hb5⟩
  have hn5 := i5.len
  rw [HN.out] at hn5
  subst hn5
  have B5 := B4.trans (hb5.mono B4.size)
  clear hb5 B4 j3 i4
  go_wp2_with fail
  refine (toRows a la ca rs _ (h.next B5) hl1).mono ?_
  rintro e w6 ⟨v, rfl, o6, hb6⟩
  have O6 := OwnRsC.of o6
  obtain ⟨x6, y6, rfl, i6⟩ := o6.is HM.out
  rw [HL.out] at i6 O6 ⊢
  have H6 := Lib.hid O6
  have B6 := B5.trans (hb6.mono B5.size)
  have E6 : Below w5.heap.size w5 w6 := hb6
  have hz56 := E6.size
  clear hb6 o6 O6
  go_wp2_with fail
  refine (toStrs b lb cb vs _ (k.next B6) kl1).mono ?_
  rintro e w7 ⟨v, rfl, o7, hb7⟩
  have hlt7 := fun j hj => (World.ownsRow.lt o7 j hj)
  obtain ⟨x7, y7, rfl, i7⟩ := o7.is
  rw [KL.out] at i7 hlt7 ⊢
  have H7 : Hid (OwnS w6.heap.size w7 (.slice x7 lb y7) vs) := Lib.hid (by rw [KL.out] at o7; exact o7)
  have B7 := B6.trans (hb7.mono B6.size)
  have E7 := E6.trans (hb7.mono E6.size)
  have F7 : Below w6.heap.size w6 w7 := hb7
  have G7 := Lib.hid (H6.out.next F7)
  clear hb7 B6 E6 o7 H6
  go_wp2_with fail
  refine (HC2.out x6 y6 x7 y7 _ (i6.next F7) i7).mono ?_
  rintro e w8 ⟨v, rfl, o8, hb8⟩
  have O8 := OwnRsC.of o8
  obtain ⟨x8, y8, rfl, i8⟩ := o8.is HRM.out
  rw [HN.out] at i8 O8 ⊢
  have H8 := Lib.hid O8
  have B8 := B7.trans (hb8.mono B7.size)
  have E8 := E7.trans (hb8.mono E7.size)
  have F8 := F7.trans (hb8.mono F7.size)
  have G8 : Below w7.heap.size w7 w8 := hb8
  have hz67 := F7.size
  have hz57 := E7.size
  have hz5 := B5.size
  have hz78 := G8.size
  have X8 := Lib.hid (G7.out.next G8)
  have S8 := Lib.hid (H7.out.kept G8)
  clear hb8 B7 E7 F7 o8 O8 G7 H7 B5
  go_wp2_with fail
  refine (eqRows x8 x5 N y8 N y5 R _ i8 (i5.next E8) (by omega)).mono ?_
  rintro e w9 ⟨rfl, hb9⟩
  have B9 := B8.trans (hb9.mono B8.size)
  have E9 := E8.trans (hb9.mono E8.size)
  have F9 := F8.trans (hb9.mono F8.size)
  have G9 := G8.trans (hb9.mono G8.size)
  have O9 := Lib.hid (H8.out.next hb9)
  have X9 := Lib.hid (X8.out.next hb9)
  have S9 := Lib.hid (S8.out.kept hb9)
  clear hb9 B8 E8 F8 G8 H8 i8 X8 S8
  cases bb
  all_goals
    go_wp2_with fail
    refine (toRows a la ca rs _ (h.next B9) hl1).mono ?_
    rintro e wa ⟨v, rfl, oa, hba⟩
    obtain ⟨xa, ya, rfl, ia⟩ := oa.is HM.out
    rw [HL.out] at ia ⊢
    have Ba := B9.trans (hba.mono B9.size)
    have Ea := E9.trans (hba.mono E9.size)
    have Fa := F9.trans (hba.mono F9.size)
    have Ga := G9.trans (hba.mono G9.size)
    have Oa := Lib.hid (O9.out.next hba)
    have Xa := Lib.hid (X9.out.next hba)
    have Sa := Lib.hid (S9.out.kept hba)
    clear hba B9 E9 F9 G9 O9 X9 S9 oa
    go_wp2_with fail
    refine (eqRows x6 xa la y6 la ya rs _ (i6.next Fa) ia hl1).mono ?_
    rintro e wb ⟨rfl, hbb⟩
    have Bb := Ba.trans (hbb.mono Ba.size)
    have Eb := Ea.trans (hbb.mono Ea.size)
    have Gb := Ga.trans (hbb.mono Ga.size)
    have Ob := Lib.hid (Oa.out.next hbb)
    have Xb := Lib.hid (Xa.out.next hbb)
    have Sb := Lib.hid (Sa.out.kept hbb)
    clear hbb Ba Ea Fa Ga Oa Xa Sa ia i6
    go_wp2_with fail
    refine (toStrs b lb cb vs _ (k.next Bb) kl1).mono ?_
    rintro e wm ⟨v, rfl, om, hbm⟩
    obtain ⟨xm, ym, rfl, im⟩ := om.is
    rw [KL.out] at im ⊢
    have Bm := Bb.trans (hbm.mono Bb.size)
    have Em := Eb.trans (hbm.mono Eb.size)
    have Gm := Gb.trans (hbm.mono Gb.size)
    have Om := Lib.hid (Ob.out.next hbm)
    have Xm := Lib.hid (Xb.out.next hbm)
    have Sm' := Lib.hid (Sb.out.kept hbm)
    clear hbm Bb Eb Gb Ob Xb Sb om
    go_wp2_with fail
    refine (eqStrS x7 xm lb y7 lb ym vs _ (i7.next Gm) im kl1).mono ?_
    rintro e wn ⟨rfl, hbn⟩
    have Bn := Bm.trans (hbn.mono Bm.size)
    have En := Em.trans (hbn.mono Em.size)
    have On := Lib.hid (Om.out.next hbn)
    have Xn := Xm.out.next hbn
    have Sn := Lib.hid (Sm'.out.kept hbn)
    have hzn := En.size
    have hz7n : w7.heap.size ≤ wn.heap.size := by have := Gm.size; have := hbn.size; omega
    have MK := markRowsAny w5.heap.size w6.heap.size _ rs wn Xn (by omega) (by rw [HL.out]; exact hl1) 1 (by omega) (by omega)
    obtain ⟨M, hM⟩ : ∃ M : Nat, 1 + 2 * totR rs = M := ⟨_, rfl⟩
    have hM1 : M ≤ 4000000 := by omega
    have hMp : 0 < M := by omega
    rw [hM] at MK
    have HMK := Lib.hid MK
    clear hbn Bm Em Gm Om Xm Sm' im i7 MK Xn hM
    go_wp2_with fail
    refine HMK.out.mono ?_
    rintro e wo ⟨rfl, _, hgo⟩
    have Bo := Bn.trans (hgo.1.mono hz5)
    have Eo := En.trans hgo.1
    have hz7o : w7.heap.size ≤ wo.heap.size := by have := hgo.1.size; omega
    have Oo := Lib.hid (On.out.moved hgo (by omega))
    have So := Sn.out.moved hgo (Nat.le_refl _)
    have MK := markStrS w6.heap.size _ vs wo So (by rw [KL.out]; exact kl1) M hMp hM1
    rw [KL.out] at MK
    obtain ⟨M2, hM2⟩ : ∃ M2 : Nat, M + lb = M2 := ⟨_, rfl⟩
    rw [hM2] at MK
    have HMK2 := Lib.hid MK
    have hM0 : ¬ (M2 : Int) < 0 := by omega
    clear hgo Bn En On Sn So MK HMK hM2
    go_wp2_with fail
    refine HMK2.out.mono ?_
    rintro e wc ⟨rfl, _, hgc⟩
    have Bc := Bo.grown hgc Bo.size (fun j hj => by have := (hlt7 j hj).1; omega)
    have Ec := Eo.grown hgc Eo.size (fun j hj => by have := (hlt7 j hj).1; omega)
    have Oc := Lib.hid (Oo.out.grown hgc (fun j hj => (hlt7 j hj).2))
    have hz7c : w7.heap.size ≤ wc.heap.size := by have := hgc.size; omega
    have ic := Oc.out.isN HRM.out
    clear HMK2 hgc Bo Eo Oo
    go_wp2_with fail
    refine (eqRows x8 x5 N y8 N y5 R _ ic (i5.next Ec) (by omega)).mono ?_
    rintro e wd ⟨rfl, hbd⟩
    have Bd := Bc.trans (hbd.mono Bc.size)
    have Ed := Ec.trans (hbd.mono Ec.size)
    have Od := Oc.out.next hbd
    have hzd := Ed.size
    have hz0 : w7.heap.size ≤ wd.heap.size := by have := hbd.size; omega
    have MK := markRowsAny w7.heap.size w8.heap.size _ R wd Od hz0 (by rw [HN.out]; omega) 1 (by omega) (by omega)
    obtain ⟨K, hK⟩ : ∃ K : Nat, 1 + 2 * totR R = K := ⟨_, rfl⟩
    have hK0 : ¬ (K : Int) < 0 := by omega
    rw [hK] at MK
    have HMK := Lib.hid MK
    clear hbd Bc Ec Oc ic Od MK
    go_wp2_with fail
    refine HMK.out.mono ?_
    rintro e wf ⟨rfl, of, hgf⟩
    have Bf := Bd.trans (hgf.1.mono (by omega))
    have Ef := Ed.trans (hgf.1.mono (by omega))
    have if_ := of.isN (marksRs_small R 1 (by omega) (by omega))
    have HD := fun W hi => heldRows x8 N y8 R W 1 hi (by omega) (by omega) (by omega)
    rw [hK] at HD
    have HLD := Lib.hid HD
    clear HD HMK hgf of Bd Ed hK
    go_wp2_with fail
    refine (HLD.out _ if_).mono ?_
    rintro e wg ⟨rfl, hbg⟩
    have Bg := Bf.trans (hbg.mono Bf.size)
    have Eg := Ef.trans (hbg.mono Ef.size)
    have ig := if_.next hbg
    clear hbg Bf Ef if_
    go_wp2_with fail
    refine (toRows a la ca rs _ (h.next Bg) hl1).mono ?_
    rintro e wh ⟨v, rfl, oh, hbh⟩
    obtain ⟨xh, yh, rfl, ih⟩ := oh.is HM.out
    rw [HL.out] at ih ⊢
    have Bh := Bg.trans (hbh.mono Bg.size)
    have Eh := Eg.trans (hbh.mono Eg.size)
    have igh := ig.next hbh
    clear hbh Bg Eg ig oh
    go_wp2_with fail
    refine (toStrs b lb cb vs _ (k.next Bh) kl1).mono ?_
    rintro e wi ⟨v, rfl, oi, hbi⟩
    obtain ⟨xi, yi, rfl, ii⟩ := oi.is
    rw [KL.out] at ii ⊢
    have Bi := Bh.trans (hbi.mono Bh.size)
    have Ei := Eh.trans (hbi.mono Eh.size)
    have igi := igh.next hbi
    have ihi := ih.next hbi
    clear hbi Bh Eh igh ih oi
    go_wp2_with fail
    refine (HC2.out xh yh xi yi _ ihi ii).mono ?_
    rintro e wj ⟨v, rfl, oj, hbj⟩
    obtain ⟨xj, yj, rfl, ij⟩ := oj.is HRM.out
    rw [HN.out] at ij ⊢
    have Bj := Bi.trans (hbj.mono Bi.size)
    have Ej := Ei.trans (hbj.mono Ei.size)
    have igj := igi.next hbj
    clear hbj Bi Ei igi ihi ii oj
    go_wp2_with fail
    refine (eqRows xj x5 N yj N y5 R _ ij (i5.next Ej) (by omega)).mono ?_
    rintro e wk ⟨rfl, hbk⟩
    have Bk := Bj.trans (hbk.mono Bj.size)
    have igk := igj.next hbk
    clear hbk Bj Ej igj ij
    go_wp2_with fail
    refine (HLD.out _ igk).mono ?_
    rintro e wl ⟨rfl, hbl⟩
    have Bl := Bk.trans (hbl.mono Bk.size)
    clear hbl Bk igk
    go_wp2_with fail
    go_ret
    exact ⟨rfl, Bl⟩
end fnExactProjected
end Go.Proofs.Ytnmoobahchlliaa
