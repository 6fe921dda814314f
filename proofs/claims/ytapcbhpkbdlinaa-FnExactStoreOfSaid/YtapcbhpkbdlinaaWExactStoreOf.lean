/- The walk of FnExactStoreOf. -/
import Derived.Test.YtapcbhpkbdlinaaFrame
import Derived.Test.YtapcbhpkbdlinaaStoL
import Derived.Test.YtapcbhpkbdlinaaExactT
import Derived.Test.YtapcbhpkbdlinaaTri2
namespace Go.Proofs.Ytapcbhpkbdlinaa
open Go.RowKit Go.WideShapes
namespace fnExactStoreOf
set_option maxRecDepth 100000 in
set_option maxHeartbeats 3200000 in
theorem walk (a : Option Addr) (la ca : Nat) (ts : List Tri3) (w : World) (h : IsTris w a la ca ts) :
    Calls Try.prog 8 #[.slice a la ca] w fun e w' => e = .returned (.bool true) ∧ Below w.heap.size w w' := by
  have hla : la ≤ 9223372036854775807 := by
    rcases h with ⟨_, rfl, _, _⟩ | ⟨_, _, h1, h2, _⟩
    · omega
    · unfold maxLen at h2; omega
  have HM := Lib.hid h.small
  have HL := Lib.hid h.len
  have H := Lib.hid h
  clear h
  go_enter Try.func8, Try.ntmps8
  go_wp2_with fail
  refine (szTriS a la ca ts _ H.out 1048576 (by omega) (by omega) hla).mono ?_
  rintro e w1 ⟨n, rfl, hn, B1⟩
  rcases hn with rfl | ⟨hn0, hn1, hsm⟩
  · go_wp2_with fail
    go_ret
    exact ⟨rfl, B1⟩
  have hS : Sm ts := fun t ht => by have := hsm.2 t ht; omega
  have hl1 : la ≤ 1048576 := hsm.1
  have hn2 : ¬ n < 0 := by omega
  clear hsm
  have C1 := fun x y w hi => specStoreOf x la y ts w hi hS hl1
  have C2 := fun x y w hi => implStoreOf x la y ts w hi hS hl1
  unfold StorePost at C1 C2
  have hR0 : (st0 ts).length ≤ 80 ∧ (st1 ts).length ≤ 80 ∧ (st2 ts).length ≤ 80 := by
    unfold st0 st1 st2
    split
    · rename_i hq
      have := (graphOk_iff.1 hq).1
      rw [sortH_len, sortH_len]; omega
    · simp
  have hR1 : SmV (st0 ts) ∧ SmV (st1 ts) ∧ SmV (st2 ts) := by
    unfold st0 st1 st2
    split
    · exact ⟨HM.out, fun t ht => HM.out t (sortH_mem.1 ht), fun t ht => HM.out t (sortH_mem.1 ht)⟩
    · exact ⟨fun t ht => by simp at ht, fun t ht => by simp at ht, fun t ht => by simp at ht⟩
  generalize st0 ts = R1 at C1 C2 hR0 hR1
  generalize st1 ts = R2 at C1 C2 hR0 hR1
  generalize st2 ts = R3 at C1 C2 hR0 hR1
  generalize graphOk ts = bb at C1 C2
  obtain ⟨N1, hN1⟩ : ∃ N, R1.length = N := ⟨_, rfl⟩
  obtain ⟨N2, hN2⟩ : ∃ N, R2.length = N := ⟨_, rfl⟩
  obtain ⟨N3, hN3⟩ : ∃ N, R3.length = N := ⟨_, rfl⟩
  rw [hN1, hN2, hN3] at hR0
  obtain ⟨r1, r2, r3⟩ := hR0
  have HN := Lib.hid (And.intro hN1 (And.intro hN2 hN3))
  have HRM := Lib.hid hR1
  have HC1 := Lib.hid C1
  have HC2 := Lib.hid C2
  clear C1 C2 hR1 hN1 hN2 hN3 hS hn0 hn1
  go_wp2_with fail
  refine (toTriS a la ca ts _ (H.out.next B1) hl1).mono ?_
  rintro e w2 ⟨v, rfl, o2, hb2⟩
  obtain ⟨x2, y2, rfl, i2⟩ := o2.is HM.out
  rw [HL.out] at i2 ⊢
  have B2 := B1.trans (hb2.mono B1.size)
  clear hb2 B1 o2
  go_wp2_with fail
  refine (HC1.out x2 y2 _ i2).mono ?_
  rintro e w3 ⟨v1, v2, v3, rfl, o3, hb3⟩
  obtain ⟨s1, d1, s2, d2, s3, d3, rfl, rfl, rfl, i3⟩ := o3.is HRM.out.1 HRM.out.2.1 HRM.out.2.2
  rw [HN.out.1, HN.out.2.1, HN.out.2.2] at i3 ⊢
  have B3 := B2.trans (hb3.mono B2.size)
  have X4 := Box.new w3 (.slice s1 N1 d1) (.slice s2 N2 d2) (.slice s3 N3 d3) 56
  have B4 := B3.alloc B3.size (.cells #[.slice s1 N1 d1, .slice s2 N2 d2, .slice s3 N3 d3] 56)
  have i4 := i3.next ((Below.refl _ _).alloc (Nat.le_refl _) (.cells #[.slice s1 N1 d1, .slice s2 N2 d2, .slice s3 N3 d3] 56))
  have hz4 : w3.heap.size < (w3.alloc (.cells #[.slice s1 N1 d1, .slice s2 N2 d2, .slice s3 N3 d3] 56)).heap.size := by simp
  clear hb3 B2 o3 i2 B3 i3
  go_wp2_with fail
  generalize w3.alloc (.cells #[.slice s1 N1 d1, .slice s2 N2 d2, .slice s3 N3 d3] 56) = w4 at X4 B4 i4 hz4 ⊢
  have hz04 := B4.size
  refine (toTriS a la ca ts _ (H.out.next B4) hl1).mono ?_
  rintro e w5 ⟨v, rfl, o5, hb5⟩
  have hlt5 := fun j hj => (World.ownsRow.lt o5 j hj)
  obtain ⟨x5, y5, rfl, i5⟩ := o5.is HM.out
  rw [HL.out] at i5 hlt5 ⊢
  have O5 := Lib.hid o5
  have B5 := B4.trans (hb5.mono B4.size)
  have E5 : Below w4.heap.size w4 w5 := hb5
  have hz5 := hb5.size
  clear hb5 o5 B4
  go_wp2_with fail
  refine (HC2.out x5 y5 _ i5).mono ?_
  rintro e w6 ⟨v1, v2, v3, rfl, o6, hb6⟩
  have hlt6 := o6.lt
  obtain ⟨g1, c1, g2, c2, g3, c3, rfl, rfl, rfl, i6⟩ := o6.is HRM.out.1 HRM.out.2.1 HRM.out.2.2
  rw [HN.out.1, HN.out.2.1, HN.out.2.2] at i6 hlt6 o6 ⊢
  have B6 := B5.trans (hb6.mono B5.size)
  have E6 := E5.trans (hb6.mono E5.size)
  have F6 : Below w5.heap.size w5 w6 := hb6
  have hz6 := hb6.size
  have X7 := Box.new w6 (.slice g1 N1 c1) (.slice g2 N2 c2) (.slice g3 N3 c3) 56
  have A7 := (Below.refl w6.heap.size w6).alloc (Nat.le_refl _) (.cells #[.slice g1 N1 c1, .slice g2 N2 c2, .slice g3 N3 c3] 56)
  have B7 := B6.trans (A7.mono B6.size)
  have E7 := E6.trans (A7.mono E6.size)
  have F7 := F6.trans (A7.mono F6.size)
  have i7 := i6.next A7
  have O7 := Lib.hid (o6.alloc (.cells #[.slice g1 N1 c1, .slice g2 N2 c2, .slice g3 N3 c3] 56))
  have hz7 : w6.heap.size < (w6.alloc (.cells #[.slice g1 N1 c1, .slice g2 N2 c2, .slice g3 N3 c3] 56)).heap.size := by simp
  clear hb6 B5 E5 i6 o6 A7 B6 E6 F6
  have Y7 := X4.next E7
  obtain ⟨p0, p1, p2⟩ := Y7.cells
  obtain ⟨q0, q1, q2⟩ := X7.cells
  go_wp2_with fail
  generalize w6.alloc (.cells #[.slice g1 N1 c1, .slice g2 N2 c2, .slice g3 N3 c3] 56) = w7 at X7 B7 E7 F7 i7 O7 hz7 Y7 p0 p1 p2 q0 q1 q2 ⊢
  have j7 := i4.next E7
  refine (eqStore3 g1 g2 g3 s1 s2 s3 N1 N2 N3 c1 c2 c3 N1 N2 N3 d1 d2 d3 R1 R2 R3 _ i7.1 i7.2.1 i7.2.2 j7.1 j7.2.1 j7.2.2 (by omega) (by omega) (by omega)).mono ?_
  rintro e w8 ⟨rfl, hb8⟩
  have B8 := B7.trans (hb8.mono B7.size)
  have E8 := E7.trans (hb8.mono E7.size)
  have F8 := F7.trans (hb8.mono F7.size)
  have X8 := X7.next hb8
  have O8 := Lib.hid (O7.out.next (grown_of_below hb8))
  have hz8 := hb8.size
  clear hb8 B7 E7 F7 X7 Y7 O7 p0 p1 p2 q0 q1 q2 i7 j7
  cases bb
  all_goals
    go_wp2_with fail
    refine (toTriS a la ca ts _ (H.out.next B8) hl1).mono ?_
    rintro e w9 ⟨v, rfl, o9, hb9⟩
    obtain ⟨x9, y9, rfl, i9⟩ := o9.is HM.out
    rw [HL.out] at i9 ⊢
    have B9 := B8.trans (hb9.mono B8.size)
    have E9 := E8.trans (hb9.mono E8.size)
    have F9 := F8.trans (hb9.mono F8.size)
    have X9 := X8.next hb9
    have O9 := Lib.hid (O8.out.next (grown_of_below hb9))
    have hz9 := hb9.size
    clear hb9 B8 E8 F8 X8 O8 o9
    go_wp2_with fail
    refine (eqTriS x5 x9 la y5 la y9 ts _ (i5.next F9) i9 hl1).mono ?_
    rintro e w10 ⟨rfl, hb10⟩
    have B10 := B9.trans (hb10.mono B9.size)
    have E10 := E9.trans (hb10.mono E9.size)
    have F10 := F9.trans (hb10.mono F9.size)
    have X10 := X9.next hb10
    have O10 := Lib.hid (O9.out.next (grown_of_below hb10))
    have hz10 := hb10.size
    have MK := markAny w4.heap.size _ ts w10 (own_next O5.out (grown_of_below F10)) (by rw [HL.out]; exact hl1) 1 (by omega) (by omega)
    rw [HL.out] at MK
    obtain ⟨M, hM⟩ : ∃ M : Nat, 1 + 3 * la = M := ⟨_, rfl⟩
    have hM0 : ¬ (M : Int) < 0 := by omega
    rw [hM] at MK
    have HMK := Lib.hid MK
    clear hb10 B9 E9 F9 X9 O9 i9 MK hM F10 O5
    go_wp2_with fail
    refine HMK.out.mono ?_
    rintro e w11 ⟨rfl, hg11⟩
    have B11 := B10.grown hg11 B10.size (fun j hj => by have := (hlt5 j hj).1; omega)
    have E11 := E10.grown hg11 E10.size (fun j hj => (hlt5 j hj).1)
    have X11 := X10.grown hg11 (fun e => by have := (hlt5 _ e.symm).2; omega)
    have O11 := Lib.hid (O10.out.kept hg11 (fun j hj => (hlt5 j hj).2))
    have hz11 := hg11.size
    have Y11 := X4.next E11
    obtain ⟨p0, p1, p2⟩ := Y11.cells
    obtain ⟨q0, q1, q2⟩ := X11.cells
    obtain ⟨u1, k1, u2, k2, u3, k3, e1, e2, e3, i11⟩ := O11.out.is HRM.out.1 HRM.out.2.1 HRM.out.2.2
    rw [HN.out.1] at e1
    rw [HN.out.2.1] at e2
    rw [HN.out.2.2] at e3
    rw [HN.out.1, HN.out.2.1, HN.out.2.2] at i11
    simp only [Value.slice.injEq, true_and] at e1 e2 e3
    obtain ⟨rfl, rfl⟩ := e1
    obtain ⟨rfl, rfl⟩ := e2
    obtain ⟨rfl, rfl⟩ := e3
    have j11 := i4.next E11
    clear hg11 B10 E10 X10 O10 HMK
    go_wp2_with fail
    refine (eqStore3 g1 g2 g3 s1 s2 s3 N1 N2 N3 c1 c2 c3 N1 N2 N3 d1 d2 d3 R1 R2 R3 _ i11.1 i11.2.1 i11.2.2 j11.1 j11.2.1 j11.2.2 (by omega) (by omega) (by omega)).mono ?_
    rintro e w12 ⟨rfl, hb12⟩
    have B12 := B11.trans (hb12.mono B11.size)
    have E12 := E11.trans (hb12.mono E11.size)
    have X12 := X11.next hb12
    have O12 := O11.out.next (grown_of_below hb12)
    have hz12 := hb12.size
    have MK := markStore3 w5.heap.size _ _ _ R1 R2 R3 w12 O12 (by omega) (by rw [HN.out.1]; exact r1) (by rw [HN.out.2.1]; exact r2) (by rw [HN.out.2.2]; exact r3) 1 (by omega) (by omega)
    rw [HN.out.1, HN.out.2.1, HN.out.2.2] at MK
    obtain ⟨K, hK⟩ : ∃ K : Nat, 1 + 3 * N1 + 3 * N2 + 3 * N3 = K := ⟨_, rfl⟩
    have hK0 : ¬ (K : Int) < 0 := by omega
    rw [hK] at MK
    have HMK := Lib.hid MK
    clear p0 p1 p2 q0 q1 q2
    obtain ⟨q0, q1, q2⟩ := X12.cells
    clear hb12 B11 E11 X11 O11 O12 MK Y11 i11 j11
    go_wp2_with fail
    refine HMK.out.mono ?_
    rintro e w13 ⟨rfl, o13, hb13, he13⟩
    have hle : w5.heap.size ≤ w12.heap.size := by omega
    have B13 : Below w.heap.size w w13 := B12.trans (hb13.mono (by omega))
    have E13 : Below w4.heap.size w4 w13 := E12.trans (hb13.mono hz5)
    have X13 : Box w13 w6.heap.size (.slice g1 N1 c1) (.slice g2 N2 c2) (.slice g3 N3 c3) 56 :=
      (he13 w6.heap.size X12.lt (fun e => by have := (hlt6 _ (.inl e)).2; omega) (fun e => by have := (hlt6 _ (.inr (.inl e))).2; omega) (fun e => by have := (hlt6 _ (.inr (.inr e))).2; omega)).trans X12
    obtain ⟨u1, k1, u2, k2, u3, k3, e1, e2, e3, i13⟩ := o13.is (marksK_small _ _ (by omega) (by omega)) (marksK_small _ _ (by omega) (by omega)) (marksK_small _ _ (by omega) (by omega))
    simp only [marksK_len] at e1 e2 e3 i13
    simp only [Value.slice.injEq, true_and] at e1 e2 e3
    obtain ⟨rfl, rfl⟩ := e1
    obtain ⟨rfl, rfl⟩ := e2
    obtain ⟨rfl, rfl⟩ := e3
    have HD := heldStore3 g1 g2 g3 N1 N2 N3 c1 c2 c3
    have HLD : Hid (∀ w, Is3 w g1 g2 g3 N1 N2 N3 c1 c2 c3 (marksK 1 N1) (marksK (1 + 3 * N1) N2) (marksK (1 + 3 * N1 + 3 * N2) N3) → Calls Try.prog 45 #[.agg #[.slice g1 N1 c1, .slice g2 N2 c2, .slice g3 N3 c3], .int .i64 1] w fun e w' => e = .returned (.int .i64 K) ∧ Below w.heap.size w w') := Lib.hid (fun w hi => by
      have := HD w 1 hi.1 hi.2.1 hi.2.2 r1 r2 r3 (by omega) (by omega)
      rw [hK] at this; exact this)
    clear q0 q1 q2
    obtain ⟨q0, q1, q2⟩ := X13.cells
    clear hb13 he13 HMK B12 E12 X12 o13 HD hK
    have I13 := Lib.hid i13
    clear i13
    go_wp2_with fail
    refine (HLD.out _ I13.out).mono ?_
    rintro e w14 ⟨rfl, hb14⟩
    have B14 := B13.trans (hb14.mono B13.size)
    have E14 := E13.trans (hb14.mono E13.size)
    have X14 := X13.next hb14
    have I14 := Lib.hid (I13.out.next hb14)
    clear hb14 B13 E13 X13 I13 q0 q1 q2
    go_wp2_with fail
    refine (toTriS a la ca ts _ (H.out.next B14) hl1).mono ?_
    rintro e w15 ⟨v, rfl, o15, hb15⟩
    obtain ⟨x15, y15, rfl, i15⟩ := o15.is HM.out
    rw [HL.out] at i15 ⊢
    have B15 := B14.trans (hb15.mono B14.size)
    have E15 := E14.trans (hb15.mono E14.size)
    have X15 := X14.next hb15
    have I15 := Lib.hid (I14.out.next hb15)
    clear hb15 B14 E14 X14 I14 o15
    go_wp2_with fail
    refine (HC2.out x15 y15 _ i15).mono ?_
    rintro e w16 ⟨v1, v2, v3, rfl, o16, hb16⟩
    obtain ⟨h1, l1, h2, l2, h3, l3, rfl, rfl, rfl, i16⟩ := o16.is HRM.out.1 HRM.out.2.1 HRM.out.2.2
    rw [HN.out.1, HN.out.2.1, HN.out.2.2] at i16 ⊢
    have A17 := hb16.trans (((Below.refl w16.heap.size w16).alloc (Nat.le_refl _) (.cells #[.slice h1 N1 l1, .slice h2 N2 l2, .slice h3 N3 l3] 56)).mono hb16.size)
    have B17 := B15.trans (A17.mono B15.size)
    have E17 := E15.trans (A17.mono E15.size)
    have X17 := X15.next A17
    have I17 := Lib.hid (I15.out.next A17)
    have Z17 := Box.new w16 (.slice h1 N1 l1) (.slice h2 N2 l2) (.slice h3 N3 l3) 56
    have i17 := i16.next ((Below.refl _ _).alloc (Nat.le_refl _) (.cells #[.slice h1 N1 l1, .slice h2 N2 l2, .slice h3 N3 l3] 56))
    clear hb16 B15 E15 X15 I15 i15 o16 i16 A17
    have Y17 := X4.next E17
    obtain ⟨p0, p1, p2⟩ := Y17.cells
    obtain ⟨z0, z1, z2⟩ := Z17.cells
    go_wp2_with fail
    generalize w16.alloc (.cells #[.slice h1 N1 l1, .slice h2 N2 l2, .slice h3 N3 l3] 56) = w17 at B17 E17 X17 I17 Z17 i17 Y17 p0 p1 p2 z0 z1 z2 ⊢
    have j17 := i4.next E17
    refine (eqStore3 h1 h2 h3 s1 s2 s3 N1 N2 N3 l1 l2 l3 N1 N2 N3 d1 d2 d3 R1 R2 R3 _ i17.1 i17.2.1 i17.2.2 j17.1 j17.2.1 j17.2.2 (by omega) (by omega) (by omega)).mono ?_
    rintro e w18 ⟨rfl, hb18⟩
    have B18 := B17.trans (hb18.mono B17.size)
    have X18 := X17.next hb18
    have I18 := Lib.hid (I17.out.next hb18)
    clear hb18 B17 E17 X17 I17 Z17 i17 Y17 j17 p0 p1 p2 z0 z1 z2
    obtain ⟨q0, q1, q2⟩ := X18.cells
    go_wp2_with fail
    refine (HLD.out _ I18.out).mono ?_
    rintro e w19 ⟨rfl, hb19⟩
    have B19 := B18.trans (hb19.mono B18.size)
    clear hb19 X18 I18 q0 q1 q2 B18
    go_wp2_with fail
    go_ret
    exact ⟨rfl, B19⟩
end fnExactStoreOf
end Go.Proofs.Ytapcbhpkbdlinaa
