/- The walk of FnExactFound. -/
import Derived.Test.YtapcbhpkbdlinaaFrame
import Derived.Test.YtapcbhpkbdlinaaStoF
import Derived.Test.YtapcbhpkbdlinaaExactT
import Derived.Deep.RegionHeld3
namespace Go.Proofs.Ytapcbhpkbdlinaa
open Go.RowKit Go.WideShapes
namespace fnExactFound
theorem own_else {B : Nat} {w w' : World} {v v1 v2 v3 : Value} {ts : List Tri3} (h : OwnT B w v ts) (he : Else3 w w' v1 v2 v3) (hne : ∀ j, v.ownBlock = some j → v1.ownBlock ≠ some j ∧ v2.ownBlock ≠ some j ∧ v3.ownBlock ≠ some j) : OwnT B w' v ts := by
  obtain ⟨h1, h2⟩ := h
  refine ⟨h1, ?_⟩
  rcases h2 with h2 | ⟨g, cap, cur, rfl, hB, hb, r⟩
  · exact .inl h2
  · obtain ⟨n1, n2, n3⟩ := hne g (by simp [Value.ownBlock])
    exact .inr ⟨g, cap, cur, rfl, hB, (he g (Array.getElem?_eq_some_iff.1 hb).1 n1 n2 n3).trans hb, r⟩
theorem own_isN {B : Nat} {w : World} {v : Value} {ts : List Tri3} {n : Nat} (h : OwnT B w v ts) (m : SmV ts) (l : ts.length = n) : ∃ a c, v = .slice a n c ∧ IsTris w a n c ts := by
  subst l; exact h.is m
set_option maxRecDepth 100000 in
set_option maxHeartbeats 6400000 in
theorem walk (a1 : Option Addr) (n1 c1 : Nat) (t1 : List Tri3) (a2 : Option Addr) (n2 c2 : Nat) (t2 : List Tri3) (a3 : Option Addr) (n3 c3 : Nat) (t3 : List Tri3) (s p o : ByteArray) (w : World) (h1 : IsTris w a1 n1 c1 t1) (h2 : IsTris w a2 n2 c2 t2) (h3 : IsTris w a3 n3 c3 t3) (hs : s.size ≤ maxLen) (hp : p.size ≤ maxLen) (ho : o.size ≤ maxLen) :
    Calls Try.prog 10 #[.agg #[.slice a1 n1 c1, .slice a2 n2 c2, .slice a3 n3 c3], .agg #[.string s, .string p, .string o]] w fun e w' => e = .returned (.bool true) ∧ Below w.heap.size w w' := by
  unfold maxLen at hs hp ho
  have h : Is3 w a1 a2 a3 n1 n2 n3 c1 c2 c3 t1 t2 t3 := ⟨h1, h2, h3⟩
  have HM := Lib.hid (And.intro h1.small (And.intro h2.small h3.small))
  have HL := Lib.hid (And.intro h1.len (And.intro h2.len h3.len))
  obtain ⟨W1, hW1⟩ : ∃ W, (w.alloc (.cells #[.slice a1 n1 c1, .slice a2 n2 c2, .slice a3 n3 c3] 64)).alloc (.cells #[.string s, .string p, .string o] 69) = W := ⟨_, rfl⟩
  have B0 : Below w.heap.size w W1 := by rw [← hW1]; exact ((Below.refl w.heap.size w).alloc (Nat.le_refl _) _).alloc (by simp) _
  have X0 : Box W1 w.heap.size (.slice a1 n1 c1) (.slice a2 n2 c2) (.slice a3 n3 c3) 64 := by rw [← hW1]; exact (Box.new w _ _ _ _).alloc _
  have P0 : Box W1 (w.heap.size + 1) (.string s) (.string p) (.string o) 69 := by
    rw [← hW1]; have := Box.new (w.alloc (.cells #[.slice a1 n1 c1, .slice a2 n2 c2, .slice a3 n3 c3] 64)) (.string s) (.string p) (.string o) 69
    rwa [World.size_alloc] at this
  have HW := Lib.hid hW1
  have H := Lib.hid h
  have HZ : Hid (W1.heap.size = w.heap.size + 2) := Lib.hid (by rw [← hW1]; simp)
  obtain ⟨x0, x1, x2⟩ := X0.cells
  clear h h1 h2 h3 hW1
  go_enter Try.func10, Try.ntmps10
  go_wp2_with fail
  rw [HW.out]
  refine (szStore3 a1 a2 a3 n1 n2 n3 c1 c2 c3 t1 t2 t3 _ (H.out.next B0) 1048576 (by omega) (by omega)).mono ?_
  rintro e w1 ⟨n, rfl, hn, hb⟩
  have B1 := B0.trans (hb.mono B0.size)
  have X1 := X0.next hb
  have P1 := P0.next hb
  have hz1 : w.heap.size + 2 ≤ w1.heap.size := by have := hb.size; rw [HZ.out] at this; exact this
  clear hb B0 X0 P0 x0 x1 x2
  rcases hn with rfl | ⟨hn0, hn1, k1, k2, k3⟩
  · go_wp2_with fail
    go_ret
    exact ⟨rfl, B1⟩
  have hS : Sm t1 := fun t ht => by have := k1.2 t ht; omega
  have l1 : n1 ≤ 1048576 := k1.1
  have l2 : n2 ≤ 1048576 := k2.1
  have l3 : n3 ≤ 1048576 := k3.1
  have hn2 : ¬ n < 0 := by omega
  have C1 := fun b1 b2 b3 d1 d2 d3 W hi => specFound b1 b2 b3 n1 n2 n3 d1 d2 d3 t1 t2 t3 s p o W hi hS l1 l2 l3
  have C2 := fun b1 b2 b3 d1 d2 d3 W hi => implFound b1 b2 b3 n1 n2 n3 d1 d2 d3 t1 t2 t3 s p o W hi hS l1 l2 l3
  have hR : (foundT t1 t2 t3 (s, p, o)).length ≤ 80 ∧ SmV (foundT t1 t2 t3 (s, p, o)) := by
    unfold foundT
    split
    · rename_i hq
      unfold storeOk at hq
      simp only [Bool.and_eq_true] at hq
      have := (graphOk_iff.1 hq.1).1
      exact ⟨Nat.le_trans (List.length_filter_le _ _) this, fun t ht => HM.out.1 t (List.mem_filter.1 ht).1⟩
    · exact ⟨by simp, fun t ht => by simp at ht⟩
  generalize foundT t1 t2 t3 (s, p, o) = R at C1 C2 hR
  obtain ⟨N, hN⟩ : ∃ N, R.length = N := ⟨_, rfl⟩
  rw [hN] at hR
  obtain ⟨r1, hRM⟩ := hR
  have HN := Lib.hid hN
  have HRM := Lib.hid hRM
  have HC1 := Lib.hid C1
  have HC2 := Lib.hid C2
  have HT := Lib.hid (fun W hi => toStore3 a1 a2 a3 n1 n2 n3 c1 c2 c3 t1 t2 t3 W hi l1 l2 l3)
  have HP := Lib.hid (fun W => toTri s p o W)
  have SZ := szTri s p o n hn0 (by omega) hs hp ho
  clear C1 C2 k1 k2 k3 hS hN hRM
  obtain ⟨p0, p1, p2⟩ := P1.cells
  by_cases hbt : (s.size : Int) + p.size + o.size ≤ n
  rotate_left
  · rw [szT_no hbt] at SZ
    have D := Lib.hid SZ
    clear SZ
    go_wp2_with fail
    refine (D.out _).mono ?_
    rintro e w2 ⟨rfl, hb⟩
    go_wp2_with fail
    go_ret
    exact ⟨rfl, B1.trans (hb.mono B1.size)⟩
  rw [szT_yes hbt] at SZ
  have D := Lib.hid SZ
  have hbt2 : ¬ n - s.size - p.size - o.size < 0 := by omega
  clear SZ hbt hn0 hn1
  go_wp2_with fail
  refine (D.out _).mono ?_
  rintro e w2 ⟨rfl, hb⟩
  have B2 := Lib.hid (B1.trans (hb.mono B1.size))
  have X2 := Lib.hid (X1.next hb)
  have P2 := Lib.hid (P1.next hb)
  have hz2 : w.heap.size + 2 ≤ w2.heap.size := by have := hb.size; omega
  clear hb B1 X1 P1 p0 p1 p2 D
  obtain ⟨x0, x1, x2⟩ := X2.out.drew.cells
  obtain ⟨p0, p1, p2⟩ := P2.out.drew.cells
  go_wp2_with fail
  go_region_held3 (fun w' => w'.cell? ⟨w.heap.size, 0, none⟩ = some (.slice a1 n1 c1) ∧ w'.cell? ⟨w.heap.size, 1, none⟩ = some (.slice a2 n2 c2) ∧ w'.cell? ⟨w.heap.size, 2, none⟩ = some (.slice a3 n3 c3) ∧ w'.cell? ⟨w.heap.size + 1, 0, none⟩ = some (.string s) ∧ w'.cell? ⟨w.heap.size + 1, 1, none⟩ = some (.string p) ∧ w'.cell? ⟨w.heap.size + 1, 2, none⟩ = some (.string o))
    (first | go_keep | (have QX := X3.out.cells; have QP := P3.out.cells; with_reducible exact ⟨QX.1, QX.2.1, QX.2.2, QP.1, QP.2.1, QP.2.2⟩) | (have QX := X4.out.cells; have QP := P4.out.cells; with_reducible exact ⟨QX.1, QX.2.1, QX.2.2, QP.1, QP.2.1, QP.2.2⟩) | (have QX := X5.out.cells; have QP := P5.out.cells; with_reducible exact ⟨QX.1, QX.2.1, QX.2.2, QP.1, QP.2.1, QP.2.2⟩))
    (first
      | (go_at_call 48; refine (HT.out _ (H.out.next B2.out.drew)).mono ?_; rintro e w3 ⟨v1, v2, v3, rfl, oo, hb⟩; obtain ⟨u1, q1, u2, q2, u3, q3, rfl, rfl, rfl, ii⟩ := oo.isN HM.out HL.out
         have B3 := Lib.hid (B2.out.drew.trans (hb.mono B2.out.size)); have I3 := Lib.hid ii; have X3 := Lib.hid (X2.out.drew.next hb); have P3 := Lib.hid (P2.out.drew.next hb); have Q3 := Lib.hid ((Below.refl w2.heap.size w2).drew.trans (hb.mono (Nat.le_refl _))); clear hb oo ii)
      | (go_at_call 52; refine (HP.out _).mono ?_; rintro e w4 ⟨rfl, hb⟩; have B4 := Lib.hid (B3.out.trans (hb.mono B3.out.size)); have I4 := Lib.hid (I3.out.next hb); have X4 := Lib.hid (X3.out.next hb); have P4 := Lib.hid (P3.out.next hb); have Q4 := Lib.hid (Q3.out.trans (hb.mono Q3.out.size)); clear hb)
      | (go_at_call 51; refine (HC1.out u1 u2 u3 q1 q2 q3 _ I4.out).mono ?_; rintro e w5 ⟨v, rfl, oo, hb⟩; obtain ⟨sa, sc, rfl, ii⟩ := own_isN oo HRM.out HN.out
         have B5 := Lib.hid (B4.out.trans (hb.mono B4.out.size)); have I5 := Lib.hid ii; have X5 := Lib.hid (X4.out.next hb); have P5 := Lib.hid (P4.out.next hb); have Q5 := Lib.hid (Q4.out.trans (hb.mono Q4.out.size)); have OO5 := Lib.hid oo; have Z5 := Lib.hid hb; clear hb oo ii))
  clear x0 x1 x2 p0 p1 p2 X3 X4 P3 P4 I3 I4 B3 B4 Q3 Q4 Q5 Z5 OO5 B2 X2 P2
  have hz5 : w.heap.size + 2 ≤ w5.heap.size := P5.out.lt
  obtain ⟨x0, x1, x2⟩ := X5.out.cells
  go_wp2_with fail
  refine (HT.out _ (H.out.next B5.out)).mono ?_
  rintro e w6 ⟨v1, v2, v3, rfl, o6, hb⟩
  have hlt6 := o6.lt
  obtain ⟨g1, e1, g2, e2, g3, e3, rfl, rfl, rfl, i6⟩ := o6.isN HM.out HL.out
  have E6 : Below w5.heap.size w5 w6 := hb
  have O7 := Lib.hid (o6.alloc (.cells #[.slice g1 n1 e1, .slice g2 n2 e2, .slice g3 n3 e3] 56))
  have A7 := E6.trans (((Below.refl w6.heap.size w6).alloc (Nat.le_refl _) (.cells #[.slice g1 n1 e1, .slice g2 n2 e2, .slice g3 n3 e3] 56)).mono E6.size)
  have Y7 := Lib.hid (Box.new w6 (.slice g1 n1 e1) (.slice g2 n2 e2) (.slice g3 n3 e3) 56)
  have I7 := Lib.hid (i6.next ((Below.refl w6.heap.size w6).alloc (Nat.le_refl _) (.cells #[.slice g1 n1 e1, .slice g2 n2 e2, .slice g3 n3 e3] 56)))
  have hz7 : w6.heap.size < (w6.alloc (.cells #[.slice g1 n1 e1, .slice g2 n2 e2, .slice g3 n3 e3] 56)).heap.size := by simp
  have hz6 := E6.size
  have E7 := Lib.hid A7
  clear hb o6 i6 E6 A7 x0 x1 x2
  go_wp2_with fail
  generalize w6.alloc (.cells #[.slice g1 n1 e1, .slice g2 n2 e2, .slice g3 n3 e3] 56) = w7 at O7 Y7 I7 hz7 E7 ⊢
  obtain ⟨y0, y1, y2⟩ := Y7.out.drew.cells
  obtain ⟨p0, p1, p2⟩ := (P5.out.next E7.out).drew.cells
  go_region_held3 (fun w' => w'.cell? ⟨w6.heap.size, 0, none⟩ = some (.slice g1 n1 e1) ∧ w'.cell? ⟨w6.heap.size, 1, none⟩ = some (.slice g2 n2 e2) ∧ w'.cell? ⟨w6.heap.size, 2, none⟩ = some (.slice g3 n3 e3) ∧ w'.cell? ⟨w.heap.size + 1, 0, none⟩ = some (.string s) ∧ w'.cell? ⟨w.heap.size + 1, 1, none⟩ = some (.string p) ∧ w'.cell? ⟨w.heap.size + 1, 2, none⟩ = some (.string o))
    (first | go_keep | (have QX := Y8.out.cells; have QP := (P5.out.next E8.out).cells; with_reducible exact ⟨QX.1, QX.2.1, QX.2.2, QP.1, QP.2.1, QP.2.2⟩) | (have QX := Y9.out.cells; have QP := (P5.out.next E9.out).cells; with_reducible exact ⟨QX.1, QX.2.1, QX.2.2, QP.1, QP.2.1, QP.2.2⟩))
    (first
      | (go_at_call 52; refine (HP.out _).mono ?_; rintro e w8 ⟨rfl, hb⟩; have E8 := Lib.hid (E7.out.drew.trans (hb.mono E7.out.size)); have Y8 := Lib.hid (Y7.out.drew.next hb); have A8 := Lib.hid ((Below.refl w7.heap.size w7).drew.trans (hb.mono (Nat.le_refl _))); clear hb)
      | (go_at_call 53; refine (HC2.out g1 g2 g3 e1 e2 e3 _ (I7.out.next A8.out)).mono ?_; rintro e w9 ⟨v, rfl, oo, hb⟩; have hlt9 := fun j hj => World.ownsRow.lt oo j hj; obtain ⟨ga, gc, rfl, ii⟩ := own_isN oo HRM.out HN.out
         have E9 := Lib.hid (E8.out.trans (hb.mono E8.out.size)); have Y9 := Lib.hid (Y8.out.next hb); have OO9 := Lib.hid oo; have I9 := Lib.hid ii; have A9 := Lib.hid (A8.out.trans (hb.mono A8.out.size)); clear hb oo ii))
  clear y0 y1 y2 p0 p1 p2
  have hz8 := A8.out.size
  go_wp2_with fail
  refine (eqTriS ga sa N gc N sc R _ I9.out (I5.out.next E9.out) (by omega)).mono ?_
  rintro e w10 ⟨rfl, hb⟩
  have E10 := Lib.hid (E9.out.trans (hb.mono E9.out.size))
  have A10 := Lib.hid (A9.out.trans (hb.mono A9.out.size))
  have Y10 := Lib.hid (Y9.out.next hb)
  have OO10 := Lib.hid (own_next OO9.out (grown_of_below hb))

  clear hb I9 E7 E8 E9 Y7 Y8 Y9 A8 A9 OO9
  obtain ⟨y0, y1, y2⟩ := Y10.out.drew.cells
  obtain ⟨x0, x1, x2⟩ := (X5.out.next E10.out).drew.cells
  go_wp2_with fail
  go_region_held3 (fun w' => w'.cell? ⟨w6.heap.size, 0, none⟩ = some (.slice g1 n1 e1) ∧ w'.cell? ⟨w6.heap.size, 1, none⟩ = some (.slice g2 n2 e2) ∧ w'.cell? ⟨w6.heap.size, 2, none⟩ = some (.slice g3 n3 e3) ∧ w'.cell? ⟨w.heap.size, 0, none⟩ = some (.slice a1 n1 c1) ∧ w'.cell? ⟨w.heap.size, 1, none⟩ = some (.slice a2 n2 c2) ∧ w'.cell? ⟨w.heap.size, 2, none⟩ = some (.slice a3 n3 c3))
    (first | go_keep | (have QX := Y11.out.cells; have QP := (X5.out.next E11.out).cells; with_reducible exact ⟨QX.1, QX.2.1, QX.2.2, QP.1, QP.2.1, QP.2.2⟩) | (have QX := Y12.out.cells; have QP := (X5.out.next E12.out).cells; with_reducible exact ⟨QX.1, QX.2.1, QX.2.2, QP.1, QP.2.1, QP.2.2⟩))
    (first
      | (go_at_call 48; refine (HT.out _ (H.out.next (B5.out.trans (E10.out.drew.mono B5.out.size)))).mono ?_; rintro e w11 ⟨v1, v2, v3, rfl, oo, hb⟩; obtain ⟨u1, q1, u2, q2, u3, q3, rfl, rfl, rfl, ii⟩ := oo.isN HM.out HL.out
         have E11 := Lib.hid (E10.out.drew.trans (hb.mono E10.out.size)); have A11 := Lib.hid (A10.out.drew.trans (hb.mono A10.out.size)); have I11 := Lib.hid ii; have Y11 := Lib.hid (Y10.out.drew.next hb); have OO11 := Lib.hid (own_next (World.ownsRow.drew OO10.out) (grown_of_below hb)); clear hb oo ii)
      | (go_at_call 43; refine (eqStore3 g1 g2 g3 u1 u2 u3 n1 n2 n3 e1 e2 e3 n1 n2 n3 q1 q2 q3 t1 t2 t3 _ (I7.out.next A11.out).1 (I7.out.next A11.out).2.1 (I7.out.next A11.out).2.2 I11.out.1 I11.out.2.1 I11.out.2.2 l1 l2 l3).mono ?_; rintro e w12 ⟨rfl, hb⟩
         have E12 := Lib.hid (E11.out.trans (hb.mono E11.out.size)); have A12 := Lib.hid (A11.out.trans (hb.mono A11.out.size)); have Y12 := Lib.hid (Y11.out.next hb); have OO12 := Lib.hid (own_next OO11.out (grown_of_below hb)); clear hb))
  clear x0 x1 x2 y0 y1 y2 I11 E10 E11 A10 A11 Y10 Y11 OO10 OO11 I7
  have MK := markStore3 w5.heap.size _ _ _ t1 t2 t3 w12 (O7.out.next (grown_of_below A12.out)) E12.out.size (by rw [HL.out.1]; exact l1) (by rw [HL.out.2.1]; exact l2) (by rw [HL.out.2.2]; exact l3) 1 (by omega) (by omega)
  rw [HL.out.1, HL.out.2.1, HL.out.2.2] at MK
  obtain ⟨M, hM⟩ : ∃ M : Nat, 1 + 3 * n1 + 3 * n2 + 3 * n3 = M := ⟨_, rfl⟩
  rw [hM] at MK
  have hM0 : ¬ (M : Int) < 0 := by omega
  have HMK := Lib.hid MK
  obtain ⟨y0, y1, y2⟩ := Y12.out.cells
  clear MK hM
  go_wp2_with fail
  refine HMK.out.mono ?_
  rintro e w13 ⟨rfl, _, hb, he⟩
  have E13 := Lib.hid (E12.out.trans (hb.mono (Nat.le_refl _)))
  have o13 := own_else OO12.out he (fun j hj => by
    have q1 := hlt9 j hj
    refine ⟨fun e => ?_, fun e => ?_, fun e => ?_⟩
    · have := hlt6 j (.inl e); omega
    · have := hlt6 j (.inr (.inl e)); omega
    · have := hlt6 j (.inr (.inr e)); omega)
  clear hb he HMK E12 A12 Y12 OO12 O7 y0 y1 y2
  obtain ⟨ua, uc, e13, i13⟩ := own_isN o13 HRM.out HN.out
  simp only [Value.slice.injEq, true_and] at e13
  obtain ⟨rfl, rfl⟩ := e13
  have OO13 := Lib.hid o13
  clear o13
  go_wp2_with fail
  refine (eqTriS ga sa N gc N sc R _ i13 (I5.out.next E13.out) (by omega)).mono ?_
  rintro e w14 ⟨rfl, hb⟩
  have E14 := Lib.hid (E13.out.trans (hb.mono E13.out.size))
  have OO14 := own_next OO13.out (grown_of_below hb)
  have MK := markTriK w8.heap.size _ R w14 OO14 (by rw [HN.out]; omega) 1 (by omega) (by omega)
  rw [HN.out] at MK
  obtain ⟨K, hK⟩ : ∃ K : Nat, 1 + 3 * N = K := ⟨_, rfl⟩
  rw [hK] at MK
  have hK0 : ¬ (K : Int) < 0 := by omega
  have HLD : Hid (∀ W, IsTris W ga N gc (marksK 1 N) → Calls Try.prog 22 #[.slice ga N gc, .int .i64 1] W fun e w' => e = .returned (.int .i64 K) ∧ Below W.heap.size W w') := Lib.hid (fun W hi => by
    have := heldTriK ga N gc W 1 hi (by omega) (by omega) (by omega)
    rw [hK] at this; exact this)
  have HMK := Lib.hid MK
  have HL9 : Hid (∀ j, (Value.slice ga N gc).ownBlock = some j → w5.heap.size ≤ j) := Lib.hid (fun j hj => by have := hlt9 j hj; omega)
  clear hb MK hK OO13 i13 E13 OO14
  go_wp2_with fail
  refine HMK.out.mono ?_
  rintro e w15 ⟨rfl, o15, hg⟩
  have E15 := Lib.hid (E14.out.grown hg E14.out.size (fun j hj => by have := HL9.out j hj; omega))
  obtain ⟨ua, uc, e15, i15⟩ := own_isN o15 (marksK_small _ _ (by omega) (by omega)) (marksK_len _ _)
  simp only [Value.slice.injEq, true_and] at e15
  obtain ⟨rfl, rfl⟩ := e15
  have J15 := Lib.hid i15
  clear hg o15 i15 HMK E14
  go_wp2_with fail
  refine (HLD.out _ J15.out).mono ?_
  rintro e w16 ⟨rfl, hb⟩
  have E16 := Lib.hid (E15.out.trans (hb.mono E15.out.size))
  have J16 := Lib.hid (J15.out.next hb)
  clear hb J15 E15
  obtain ⟨x0, x1, x2⟩ := (X5.out.next E16.out).drew.cells
  obtain ⟨p0, p1, p2⟩ := (P5.out.next E16.out).drew.cells
  go_wp2_with fail
  go_region_held3 (fun w' => w'.cell? ⟨w.heap.size, 0, none⟩ = some (.slice a1 n1 c1) ∧ w'.cell? ⟨w.heap.size, 1, none⟩ = some (.slice a2 n2 c2) ∧ w'.cell? ⟨w.heap.size, 2, none⟩ = some (.slice a3 n3 c3) ∧ w'.cell? ⟨w.heap.size + 1, 0, none⟩ = some (.string s) ∧ w'.cell? ⟨w.heap.size + 1, 1, none⟩ = some (.string p) ∧ w'.cell? ⟨w.heap.size + 1, 2, none⟩ = some (.string o))
    (first | go_keep | (have QX := (X5.out.next E17.out).cells; have QP := (P5.out.next E17.out).cells; with_reducible exact ⟨QX.1, QX.2.1, QX.2.2, QP.1, QP.2.1, QP.2.2⟩) | (have QX := (X5.out.next E18.out).cells; have QP := (P5.out.next E18.out).cells; with_reducible exact ⟨QX.1, QX.2.1, QX.2.2, QP.1, QP.2.1, QP.2.2⟩) | (have QX := (X5.out.next E19.out).cells; have QP := (P5.out.next E19.out).cells; with_reducible exact ⟨QX.1, QX.2.1, QX.2.2, QP.1, QP.2.1, QP.2.2⟩))
    (first
      | (go_at_call 48; refine (HT.out _ (H.out.next (B5.out.trans (E16.out.drew.mono B5.out.size)))).mono ?_; rintro e w17 ⟨v1, v2, v3, rfl, oo, hb⟩; obtain ⟨u1, q1, u2, q2, u3, q3, rfl, rfl, rfl, ii⟩ := oo.isN HM.out HL.out
         have E17 := Lib.hid (E16.out.drew.trans (hb.mono E16.out.size)); have I17 := Lib.hid ii; have J17 := Lib.hid (J16.out.next ((Below.refl w16.heap.size w16).drew.trans (hb.mono (Nat.le_refl _)))); clear hb oo ii)
      | (go_at_call 52; refine (HP.out _).mono ?_; rintro e w18 ⟨rfl, hb⟩; have E18 := Lib.hid (E17.out.trans (hb.mono E17.out.size)); have I18 := Lib.hid (I17.out.next hb); have J18 := Lib.hid (J17.out.next hb); clear hb)
      | (go_at_call 53; refine (HC2.out u1 u2 u3 q1 q2 q3 _ I18.out).mono ?_; rintro e w19 ⟨v, rfl, oo, hb⟩; obtain ⟨ha, hc, rfl, ii⟩ := own_isN oo HRM.out HN.out
         have E19 := Lib.hid (E18.out.trans (hb.mono E18.out.size)); have I19 := Lib.hid ii; have J19 := Lib.hid (J18.out.next hb); clear hb oo ii))
  clear x0 x1 x2 p0 p1 p2
  go_wp2_with fail
  refine (eqTriS ha sa N hc N sc R _ I19.out (I5.out.next E19.out) (by omega)).mono ?_
  rintro e w20 ⟨rfl, hb⟩
  have E20 := Lib.hid (E19.out.trans (hb.mono E19.out.size))
  have J20 := Lib.hid (J19.out.next hb)
  clear hb
  go_wp2_with fail
  refine (HLD.out _ J20.out).mono ?_
  rintro e w21 ⟨rfl, hb⟩
  have E21 := B5.out.trans ((E20.out.trans (hb.mono E20.out.size)).mono B5.out.size)
  clear hb
  go_wp2_with fail
  go_ret
  exact ⟨rfl, E21⟩
end fnExactFound
end Go.Proofs.Ytapcbhpkbdlinaa
