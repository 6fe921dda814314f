/- The walk of FnExactBlanksOf. -/
import Derived.Test.YtcchbhjppbbdpaaFrame
import Derived.Test.YtcchbhjppbbdpaaBlkS
import Derived.Test.YtcchbhjppbbdpaaMark
import Derived.Test.YtcchbhjppbbdpaaMark2
namespace Go.Proofs.Ytcchbhjppbbdpaa
open Go.RowKit Go.WideShapes
namespace fnExactBlanksOf
theorem ownS_isN {B : Nat} {w : World} {v : Value} {ts : List ByteArray} {n : Nat} (h : OwnS B w v ts) (l : ts.length = n) : ∃ a c, v = .slice a n c ∧ IsStrs w a n c ts := by
  subst l; exact h.is
set_option maxRecDepth 100000 in
set_option maxHeartbeats 3200000 in
theorem walk (a : Option Addr) (la ca : Nat) (ts : List Tri3) (w : World) (h : IsTris w a la ca ts) :
    Calls Try.prog 3 #[.slice a la ca] w fun e w' => e = .returned (.bool true) ∧ Below w.heap.size w w' := by
  have hla : la ≤ 9223372036854775807 := by
    rcases h with ⟨_, rfl, _, _⟩ | ⟨_, _, h1, h2, _⟩
    · omega
    · unfold maxLen at h2; omega
  have HM := Lib.hid h.small
  have HL := Lib.hid h.len
  have H := Lib.hid h
  clear h
  go_enter Try.func3, Try.ntmps3
  go_wp2_with fail
  refine (szTriS a la ca ts _ H.out 1048576 (by omega) (by omega) hla).mono ?_
  rintro e w1 ⟨n, rfl, hn, B1⟩
  rcases hn with rfl | ⟨hn0, hn1, hsm⟩
  · go_wp2_with fail
    go_ret
    exact ⟨rfl, B1⟩
  have hS : Sm ts := fun t ht => by have := hsm.2 t ht; omega
  have hl1 : la ≤ 1048576 := hsm.1
  have hn2 : ¬ n < 0 := by omega
  clear hsm
  have C1 := fun x y w hi => specBlanksOf x la y ts w hi hS
  have C2 := fun x y w hi => implBlanksOf x la y ts w hi hS
  have hR : ((blanksT ts).map bs).length ≤ 240 := by
    rw [List.length_map]
    unfold blanksT
    split
    · rename_i hq
      have hl4 : ts.length ≤ 80 := graphOk_len hq
      have h1 := putAllS_len (blankWords ts) []
      have h2 := blankWords_len ts
      simp only [List.length_nil] at h1
      omega
    · simp
  generalize (blanksT ts).map bs = R at C1 C2 hR
  obtain ⟨N, hN⟩ : ∃ N, R.length = N := ⟨_, rfl⟩
  rw [hN] at hR
  have HN := Lib.hid hN
  have HC1 := Lib.hid C1
  have HC2 := Lib.hid C2
  clear C1 C2 hN hS hn0 hn1
  go_wp2_with fail
  refine (toTriS a la ca ts _ (H.out.next B1) hl1).mono ?_
  rintro e w2 ⟨v, rfl, o2, hb⟩
  obtain ⟨x2, y2, rfl, i2⟩ := o2.is HM.out
  rw [HL.out] at i2 ⊢
  have B2 := B1.trans (hb.mono B1.size)
  clear hb B1 o2
  go_wp2_with fail
  refine (HC1.out x2 y2 _ i2).mono ?_
  rintro e w3 ⟨v, rfl, o3, hb⟩
  obtain ⟨sa, sc, rfl, i3⟩ := ownS_isN o3 HN.out
  have B3 := B2.trans (hb.mono B2.size)
  clear hb B2 o3 i2
  go_wp2_with fail
  refine (toTriS a la ca ts _ (H.out.next B3) hl1).mono ?_
  rintro e w4 ⟨v, rfl, o4, hb⟩
  have hlt4 := fun j hj => (World.ownsRow.lt o4 j hj)
  obtain ⟨x4, y4, rfl, i4⟩ := o4.is HM.out
  rw [HL.out] at i4 hlt4 ⊢
  have O4 := Lib.hid o4
  have B4 := B3.trans (hb.mono B3.size)
  have E4 : Below w3.heap.size w3 w4 := hb
  have hz4 := E4.size
  clear hb o4
  go_wp2_with fail
  refine (HC2.out x4 y4 _ i4).mono ?_
  rintro e w5 ⟨v, rfl, o5, hb⟩
  have hlt5 := fun j hj => (World.ownsRow.lt o5 j hj)
  obtain ⟨ga, gc, rfl, i5⟩ := ownS_isN o5 HN.out
  have O5 := Lib.hid o5
  have E5 := E4.trans (hb.mono E4.size)
  have F5 : Below w4.heap.size w4 w5 := hb
  have hz34 := B3.size
  clear hb o5 B4 E4
  go_wp2_with fail
  refine (eqStrS ga sa N gc N sc R _ i5 (i3.next E5) (by omega)).mono ?_
  rintro e w6 ⟨rfl, hb⟩
  have E6 := E5.trans (hb.mono E5.size)
  have F6 := F5.trans (hb.mono F5.size)
  have O6 := Lib.hid (O5.out.kept hb)
  clear hb E5 F5 O5 i5
  go_wp2_with fail
  refine (toTriS a la ca ts _ (H.out.next (B3.trans (E6.mono B3.size))) hl1).mono ?_
  rintro e w7 ⟨v, rfl, o7, hb⟩
  obtain ⟨x7, y7, rfl, i7⟩ := o7.is HM.out
  rw [HL.out] at i7 ⊢
  have E7 := E6.trans (hb.mono E6.size)
  have F7 := F6.trans (hb.mono F6.size)
  have O7 := Lib.hid (O6.out.kept hb)
  clear hb E6 F6 O6 o7
  go_wp2_with fail
  refine (eqTriS x4 x7 la y4 la y7 ts _ (i4.next F7) i7 hl1).mono ?_
  rintro e w8 ⟨rfl, hb⟩
  have E8 := E7.trans (hb.mono E7.size)
  have F8 := F7.trans (hb.mono F7.size)
  have O8 := Lib.hid (O7.out.kept hb)
  have MK := markAny w3.heap.size _ ts w8 (own_next O4.out (grown_of_below F8)) (by rw [HL.out]; exact hl1) 1 (by omega) (by omega)
  rw [HL.out] at MK
  obtain ⟨M, hM⟩ : ∃ M : Nat, 1 + 3 * la = M := ⟨_, rfl⟩
  have hM0 : ¬ (M : Int) < 0 := by omega
  rw [hM] at MK
  have HMK := Lib.hid MK
  clear hb E7 F7 O7 i7 MK hM F8 O4 i4
  go_wp2_with fail
  refine HMK.out.mono ?_
  rintro e w9 ⟨rfl, hg⟩
  have E9 := E8.grown hg E8.size (fun j hj => (hlt4 j hj).1)
  have o9 : OwnS w4.heap.size w9 (.slice ga N gc) R := World.ownsRow.kept O8.out hg (by
    rcases hv : (Value.slice ga N gc).ownBlock with _ | j
    · exact .inl rfl
    · refine .inr fun e => ?_
      have := (hlt4 j e.symm).2
      have := (hlt5 j hv).1
      omega)
  obtain ⟨ua, uc, e9, i9⟩ := ownS_isN o9 HN.out
  simp only [Value.slice.injEq, true_and] at e9
  obtain ⟨rfl, rfl⟩ := e9
  have O9 := Lib.hid o9
  clear hg HMK E8 O8 o9
  go_wp2_with fail
  refine (eqStrS ga sa N gc N sc R _ i9 (i3.next E9) (by omega)).mono ?_
  rintro e w10 ⟨rfl, hb⟩
  have E10 := E9.trans (hb.mono E9.size)
  have MK := markStrS w4.heap.size _ R w10 (O9.out.kept hb) (by rw [HN.out]; omega) 1 (by omega) (by omega)
  rw [HN.out] at MK
  obtain ⟨K, hK⟩ : ∃ K : Nat, 1 + N = K := ⟨_, rfl⟩
  rw [hK] at MK
  have hK0 : ¬ (K : Int) < 0 := by omega
  have HLD : Hid (∀ W, IsStrs W ga N gc (marksS 1 N) → Calls Try.prog 12 #[.slice ga N gc, .int .i64 1] W fun e w' => e = .returned (.int .i64 K) ∧ Below W.heap.size W w') := Lib.hid (fun W hi => by
    have := heldStrS ga N gc W 1 hi (by omega) (by omega) (by omega)
    rw [hK] at this; exact this)
  have HMK := Lib.hid MK
  clear hb E9 O9 i9 MK hK
  go_wp2_with fail
  refine HMK.out.mono ?_
  rintro e w11 ⟨rfl, o11, hg⟩
  have E11 := E10.grown hg E10.size (fun j hj => by have := (hlt5 j hj).1; omega)
  obtain ⟨ua, uc, e11, i11⟩ := ownS_isN o11 (marksS_len _ _)
  simp only [Value.slice.injEq, true_and] at e11
  obtain ⟨rfl, rfl⟩ := e11
  clear hg HMK E10 o11
  go_wp2_with fail
  refine (HLD.out _ i11).mono ?_
  rintro e w12 ⟨rfl, hb⟩
  have E12 := E11.trans (hb.mono E11.size)
  have i12 := i11.next hb
  clear hb i11 E11
  go_wp2_with fail
  refine (toTriS a la ca ts _ (H.out.next (B3.trans (E12.mono B3.size))) hl1).mono ?_
  rintro e w13 ⟨v, rfl, o13, hb⟩
  obtain ⟨x13, y13, rfl, i13⟩ := o13.is HM.out
  rw [HL.out] at i13 ⊢
  have E13 := E12.trans (hb.mono E12.size)
  have j13 := i12.next hb
  clear hb E12 i12 o13
  go_wp2_with fail
  refine (HC2.out x13 y13 _ i13).mono ?_
  rintro e w14 ⟨v, rfl, o14, hb⟩
  obtain ⟨ha, hc, rfl, i14⟩ := ownS_isN o14 HN.out
  have E14 := E13.trans (hb.mono E13.size)
  have j14 := j13.next hb
  clear hb E13 j13 o14 i13
  go_wp2_with fail
  refine (eqStrS ha sa N hc N sc R _ i14 (i3.next E14) (by omega)).mono ?_
  rintro e w15 ⟨rfl, hb⟩
  have E15 := E14.trans (hb.mono E14.size)
  have j15 := j14.next hb
  clear hb E14 j14 i14
  go_wp2_with fail
  refine (HLD.out _ j15).mono ?_
  rintro e w16 ⟨rfl, hb⟩
  have E16 := B3.trans ((E15.trans (hb.mono E15.size)).mono B3.size)
  clear hb j15
  go_wp2_with fail
  go_ret
  exact ⟨rfl, E16⟩
end fnExactBlanksOf
end Go.Proofs.Ytcchbhjppbbdpaa
