/- The walk of FnExactLeavesOf. -/
import Derived.Test.YtonikgmplgcplaaG00
import Derived.Test.YtonikgmplgcplaaG15
import Derived.Test.YtonikgmplgcplaaG16
import Derived.Test.YtonikgmplgcplaaG17
namespace Go.Proofs.Ytonikgmplgcplaa
open Go.RowKit Go.WideShapes
namespace fnExactLeavesOf
theorem own_isN {B : Nat} {w : World} {v : Value} {ts : List Tri3} {n : Nat} (h : OwnT B w v ts) (m : ∀ t ∈ ts, t.1.size ≤ maxLen ∧ t.2.1.size ≤ maxLen ∧ t.2.2.size ≤ maxLen) (l : ts.length = n) : ∃ a c, v = .slice a n c ∧ IsTris w a n c ts := by
  subst l; exact h.is m
theorem own_betw {B C : Nat} {w w' : World} {v : Value} {ts : List Tri3} (h : OwnT C w v ts) (hb : Betw B C w w') : OwnT C w' v ts := by
  obtain ⟨h1, h2⟩ := h
  refine ⟨h1, ?_⟩
  rcases h2 with h2 | ⟨g, cap, cur, e, hB, hg, r⟩
  · exact .inl h2
  · exact .inr ⟨g, cap, cur, e, hB, (hb.2 g hB (Array.getElem?_eq_some_iff.1 hg).1).trans hg, r⟩
set_option maxRecDepth 100000 in
set_option maxHeartbeats 3200000 in
theorem walk (a : Option Addr) (la ca : Nat) (ts : List StepV) (w : World) (h : IsSteps w a la ca ts) :
    Calls Try.prog 3 #[.slice a la ca] w fun e w' => e = .returned (.bool true) ∧ Below w.heap.size w w' := by
  have hla := h.maxl
  have HM := Lib.hid h.small
  have HL := Lib.hid h.len
  have H := Lib.hid h
  clear h
  go_enter Try.func3, Try.ntmps3
  go_wp2_with fail
  refine (szSteps a la ca ts _ H.out 1048576 (by omega) (by omega) hla).mono ?_
  rintro e w1 ⟨n, rfl, hn, B1⟩
  rcases hn with rfl | ⟨hn0, hn1, hsm⟩
  · go_wp2_with fail
    go_ret
    exact ⟨rfl, B1⟩
  have hS : la + tot ts ≤ 1048576 := hsm.1
  have hl1 : la ≤ 1048576 := by omega
  have hn2 : ¬ n < 0 := by omega
  clear hsm
  have C1 := fun x y w hi => specLeaves x la y ts w hi hl1
  have C2 := fun x y w hi => implLeaves x la y ts w hi hl1
  have hR : (leavesT ts).length ≤ 1048576 := by have := leaves_len ts; have := HL.out; omega
  have hRM : ∀ u ∈ leavesT ts, u.1.size ≤ maxLen ∧ u.2.1.size ≤ maxLen ∧ u.2.2.size ≤ maxLen := fun u hu => by
    unfold leavesT at hu
    rcases unionT_mem.1 hu with hu | hu
    · simp at hu
    · obtain ⟨t, ht, rfl⟩ := leafs_mem hu
      exact HM.out t ht
  generalize leavesT ts = R at C1 C2 hR hRM
  obtain ⟨N, hN⟩ : ∃ N, R.length = N := ⟨_, rfl⟩
  rw [hN] at hR
  have HN := Lib.hid hN
  have HRM := Lib.hid hRM
  have HC1 := Lib.hid C1
  have HC2 := Lib.hid C2
  have HS := Lib.hid hS
  clear C1 C2 hN hS hn0 hn1 hRM
  go_wp2_with fail
  refine (toSteps a la ca ts _ (H.out.next B1) HS.out).mono ?_
  rintro e w2 ⟨rfl, o2, hb⟩
  have i2 := o2.is HL.out HM.out
  have B2 := B1.trans (hb.mono B1.size)
  clear hb B1 o2
  go_wp2_with fail
  refine (HC1.out _ la _ i2).mono ?_
  rintro e w3 ⟨v, rfl, o3, hb⟩
  obtain ⟨sa, sc, rfl, i3⟩ := own_isN o3 HRM.out HN.out
  have B3 := B2.trans (hb.mono B2.size)
  clear hb B2 o3 i2
  go_wp2_with fail
  refine (toSteps a la ca ts _ (H.out.next B3) HS.out).mono ?_
  rintro e w4 ⟨rfl, o4, hb⟩
  have i4 := o4.is HL.out HM.out
  have B4 := B3.trans (hb.mono B3.size)
  have E4 : Below w3.heap.size w3 w4 := hb
  have hz4 := E4.size
  obtain ⟨us, O4', I4'⟩ := o4
  have hlt : w3.heap.size < w4.heap.size := (World.ownsRow.lt O4' w3.heap.size (by simp [Value.ownBlock])).2
  have HUS : Hid (∀ u ∈ us, ∀ j, u.ownBlock = some j → j < w4.heap.size) := Lib.hid (fun u hu j hj => (I4'.lt u hu j hj).2)
  have O4 := Lib.hid O4'
  have I4 := Lib.hid I4'
  clear hb O4' I4'
  go_wp2_with fail
  refine (HC2.out _ la _ i4).mono ?_
  rintro e w5 ⟨v, rfl, o5, hb⟩
  have hlt5 := fun j hj => (World.ownsRow.lt o5 j hj)
  obtain ⟨ga, gc, rfl, i5⟩ := own_isN o5 HRM.out HN.out
  have O5 := Lib.hid o5
  have E5 := E4.trans (hb.mono E4.size)
  have F5 : Below w4.heap.size w4 w5 := hb
  have hz34 := B3.size
  clear hb o5 B4 E4
  go_wp2_with fail
  refine (eqTriS ga sa N gc N sc R _ i5 (i3.next E5) (by omega)).mono ?_
  rintro e w6 ⟨rfl, hb⟩
  have E6 := E5.trans (hb.mono E5.size)
  have F6 := F5.trans (hb.mono F5.size)
  have O6 := Lib.hid (own_next O5.out (grown_of_below hb))
  clear hb E5 F5 O5 i5
  go_wp2_with fail
  refine (toSteps a la ca ts _ (H.out.next (B3.trans (E6.mono B3.size))) HS.out).mono ?_
  rintro e w7 ⟨rfl, o7, hb⟩
  have i7 := o7.is HL.out HM.out
  have E7 := E6.trans (hb.mono E6.size)
  have F7 := F6.trans (hb.mono F6.size)
  have O7 := Lib.hid (own_next O6.out (grown_of_below hb))
  clear hb E6 F6 O6 o7
  go_wp2_with fail
  refine (eqSteps _ _ la la la la ts _ (i4.next F7) i7 HS.out).mono ?_
  rintro e w8 ⟨rfl, hb⟩
  have E8 := E7.trans (hb.mono E7.size)
  have F8 := F7.trans (hb.mono F7.size)
  have O8 := Lib.hid (own_next O7.out (grown_of_below hb))
  have MK := markSteps w3.heap.size w4.heap.size la ts us w8 (O4.out.kept (grown_of_below F8) (.inr (by simp [Value.ownBlock]))) (I4.out.next F8) HUS.out hlt HS.out HL.out
  have HMK := Lib.hid MK
  clear hb E7 F7 O7 i7 MK i4 O4 I4 HUS
  go_wp2_with fail
  refine HMK.out.mono ?_
  rintro e w9 ⟨⟨m, rfl⟩, hbt⟩
  have hm0 : ¬ (m : Int) < 0 := by omega
  have E9 := E8.trans (hbt.1)
  have o9 : OwnT w4.heap.size w9 (.slice ga N gc) R := own_betw O8.out hbt
  obtain ⟨ua, uc, e9, i9⟩ := own_isN o9 HRM.out HN.out
  simp only [Value.slice.injEq, true_and] at e9
  obtain ⟨rfl, rfl⟩ := e9
  have O9 := Lib.hid o9
  clear hbt HMK E8 O8 o9 F8
  go_wp2_with fail
  refine (eqTriS ga sa N gc N sc R _ i9 (i3.next E9) (by omega)).mono ?_
  rintro e w10 ⟨rfl, hb⟩
  have E10 := E9.trans (hb.mono E9.size)
  have MK := markTriK w4.heap.size _ R w10 (own_next O9.out (grown_of_below hb)) (by rw [HN.out]; omega) 1 (by omega) (by omega)
  rw [HN.out] at MK
  obtain ⟨K, hK⟩ : ∃ K : Nat, 1 + 3 * N = K := ⟨_, rfl⟩
  rw [hK] at MK
  have hK0 : ¬ (K : Int) < 0 := by omega
  have HLD : Hid (∀ W, IsTris W ga N gc (marksK 1 N) → Calls Try.prog 12 #[.slice ga N gc, .int .i64 1] W fun e w' => e = .returned (.int .i64 K) ∧ Below W.heap.size W w') := Lib.hid (fun W hi => by
    have := heldTriK ga N gc W 1 hi (by omega) (by omega) (by omega)
    rw [hK] at this; exact this)
  have HMK := Lib.hid MK
  clear hb E9 O9 i9 MK hK
  go_wp2_with fail
  refine HMK.out.mono ?_
  rintro e w11 ⟨rfl, o11, hg⟩
  have E11 := E10.grown hg E10.size (fun j hj => by have := (hlt5 j hj).1; omega)
  obtain ⟨ua, uc, e11, i11⟩ := own_isN o11 (marksK_small 1 N (by omega) (by omega)) (marksK_len _ _)
  simp only [Value.slice.injEq, true_and] at e11
  obtain ⟨rfl, rfl⟩ := e11
  clear hg HMK E10 o11
  go_wp2_with fail
  refine (HLD.out _ i11).mono ?_
  rintro e w12 ⟨rfl, hb⟩
  have E12 := E11.trans (hb.mono E11.size)
  have i12 := i11.next hb
  clear hb i11 E11
  go_wp2_with fail
  refine (toSteps a la ca ts _ (H.out.next (B3.trans (E12.mono B3.size))) HS.out).mono ?_
  rintro e w13 ⟨rfl, o13, hb⟩
  have i13 := o13.is HL.out HM.out
  have E13 := E12.trans (hb.mono E12.size)
  have j13 := i12.next hb
  clear hb E12 i12 o13
  go_wp2_with fail
  refine (HC2.out _ la _ i13).mono ?_
  rintro e w14 ⟨v, rfl, o14, hb⟩
  obtain ⟨ha, hc, rfl, i14⟩ := own_isN o14 HRM.out HN.out
  have E14 := E13.trans (hb.mono E13.size)
  have j14 := j13.next hb
  clear hb E13 j13 o14 i13
  go_wp2_with fail
  refine (eqTriS ha sa N hc N sc R _ i14 (i3.next E14) (by omega)).mono ?_
  rintro e w15 ⟨rfl, hb⟩
  have E15 := E14.trans (hb.mono E14.size)
  have j15 := j14.next hb
  clear hb E14 j14 i14
  go_wp2_with fail
  refine (HLD.out _ j15).mono ?_
  rintro e w16 ⟨rfl, hb⟩
  have E16 := B3.trans ((E15.trans (hb.mono E15.size)).mono B3.size)
  clear hb j15
  go_wp2_with fail
  go_ret
  exact ⟨rfl, E16⟩
end fnExactLeavesOf
end Go.Proofs.Ytonikgmplgcplaa
