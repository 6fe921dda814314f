/- The walk of FnExactStoreOk. -/
import Derived.Test.YtapcbhpkbdlinaaFrame
import Derived.Test.YtapcbhpkbdlinaaStoK
import Derived.Test.YtapcbhpkbdlinaaStoT
namespace Go.Proofs.Ytapcbhpkbdlinaa
open Go.RowKit Go.WideShapes
namespace fnExactStoreOk
set_option maxRecDepth 100000 in
set_option maxHeartbeats 3200000 in
theorem walk (a1 : Option Addr) (n1 c1 : Nat) (t1 : List Tri3) (a2 : Option Addr) (n2 c2 : Nat) (t2 : List Tri3) (a3 : Option Addr) (n3 c3 : Nat) (t3 : List Tri3) (w : World) (h1 : IsTris w a1 n1 c1 t1) (h2 : IsTris w a2 n2 c2 t2) (h3 : IsTris w a3 n3 c3 t3) :
    Calls Try.prog 9 #[.agg #[.slice a1 n1 c1, .slice a2 n2 c2, .slice a3 n3 c3]] w fun e w' => e = .returned (.bool true) ∧ Below w.heap.size w w' := by
  have h : Is3 w a1 a2 a3 n1 n2 n3 c1 c2 c3 t1 t2 t3 := ⟨h1, h2, h3⟩
  have HM := Lib.hid (And.intro h1.small (And.intro h2.small h3.small))
  have HL := Lib.hid (And.intro h1.len (And.intro h2.len h3.len))
  have B0 := (Below.refl w.heap.size w).alloc (Nat.le_refl _) (.cells #[.slice a1 n1 c1, .slice a2 n2 c2, .slice a3 n3 c3] 64)
  have X0 := Box.new w (.slice a1 n1 c1) (.slice a2 n2 c2) (.slice a3 n3 c3) 64
  have H := Lib.hid h
  obtain ⟨x0, x1, x2⟩ := X0.cells
  clear h h1 h2 h3
  go_enter Try.func9, Try.ntmps9
  go_wp2_with fail
  refine (szStore3 a1 a2 a3 n1 n2 n3 c1 c2 c3 t1 t2 t3 _ (H.out.next B0) 1048576 (by omega) (by omega)).mono ?_
  rintro e w1 ⟨n, rfl, hn, hb⟩
  have B1 := B0.trans (hb.mono B0.size)
  have X1 := X0.next hb
  clear hb B0 X0 x0 x1 x2
  rcases hn with rfl | ⟨hn0, hn1, k1, k2, k3⟩
  · go_wp2_with fail
    go_ret
    exact ⟨rfl, B1⟩
  have hS : Sm t1 := fun t ht => by have := k1.2 t ht; omega
  have l1 : n1 ≤ 1048576 := k1.1
  have l2 : n2 ≤ 1048576 := k2.1
  have l3 : n3 ≤ 1048576 := k3.1
  have hn2 : ¬ n < 0 := by omega
  have C1 := fun b1 b2 b3 d1 d2 d3 W hi => specStoreOk b1 b2 b3 n1 n2 n3 d1 d2 d3 t1 t2 t3 W hi hS l1 l2 l3
  have C2 := fun b1 b2 b3 d1 d2 d3 W hi => implStoreOk b1 b2 b3 n1 n2 n3 d1 d2 d3 t1 t2 t3 W hi hS l1 l2 l3
  generalize storeOk t1 t2 t3 = bb at C1 C2
  have HC1 := Lib.hid C1
  have HC2 := Lib.hid C2
  have HT := Lib.hid (fun W hi => toStore3 a1 a2 a3 n1 n2 n3 c1 c2 c3 t1 t2 t3 W hi l1 l2 l3)
  clear C1 C2 k1 k2 k3 hS hn0 hn1
  obtain ⟨x0, x1, x2⟩ := X1.cells
  go_wp2_with fail
  refine (HT.out _ (H.out.next B1)).mono ?_
  rintro e w2 ⟨v1, v2, v3, rfl, o2, hb⟩
  obtain ⟨s1, d1, s2, d2, s3, d3, rfl, rfl, rfl, i2⟩ := o2.is HM.out.1 HM.out.2.1 HM.out.2.2
  rw [HL.out.1, HL.out.2.1, HL.out.2.2] at i2 ⊢
  have B2 := B1.trans (hb.mono B1.size)
  have X2 := X1.next hb
  clear hb B1 X1 x0 x1 x2 o2
  go_wp2_with fail
  refine (HC1.out s1 s2 s3 d1 d2 d3 _ i2).mono ?_
  rintro e w3 ⟨rfl, hb⟩
  have B3 := B2.trans (hb.mono B2.size)
  have X3 := X2.next hb
  clear hb B2 X2 i2
  obtain ⟨x0, x1, x2⟩ := X3.cells
  go_wp2_with fail
  refine (HT.out _ (H.out.next B3)).mono ?_
  rintro e w4 ⟨v1, v2, v3, rfl, o4, hb⟩
  obtain ⟨g1, e1, g2, e2, g3, e3, rfl, rfl, rfl, i4⟩ := o4.is HM.out.1 HM.out.2.1 HM.out.2.2
  rw [HL.out.1, HL.out.2.1, HL.out.2.2] at i4 ⊢
  have A5 := hb.trans (((Below.refl w4.heap.size w4).alloc (Nat.le_refl _) (.cells #[.slice g1 n1 e1, .slice g2 n2 e2, .slice g3 n3 e3] 56)).mono hb.size)
  have B5 := B3.trans (A5.mono B3.size)
  have X5 := X3.next A5
  have Y5 := Box.new w4 (.slice g1 n1 e1) (.slice g2 n2 e2) (.slice g3 n3 e3) 56
  have i5 := i4.next ((Below.refl w4.heap.size w4).alloc (Nat.le_refl _) (.cells #[.slice g1 n1 e1, .slice g2 n2 e2, .slice g3 n3 e3] 56))
  clear hb B3 X3 x0 x1 x2 o4 i4 A5
  obtain ⟨y0, y1, y2⟩ := Y5.cells
  go_wp2_with fail
  generalize w4.alloc (.cells #[.slice g1 n1 e1, .slice g2 n2 e2, .slice g3 n3 e3] 56) = w5 at B5 X5 Y5 i5 y0 y1 y2 ⊢
  refine (HC2.out g1 g2 g3 e1 e2 e3 _ i5).mono ?_
  rintro e w6 ⟨rfl, hb⟩
  have B6 := Lib.hid (B5.trans (hb.mono B5.size))
  have X6 := Lib.hid (X5.next hb)
  have Y6 := Lib.hid (Y5.next hb)
  have I6 := Lib.hid (i5.next hb)
  clear hb B5 X5 Y5 i5 y0 y1 y2
  obtain ⟨x0, x1, x2⟩ := X6.out.drew.cells
  obtain ⟨y0, y1, y2⟩ := Y6.out.drew.cells
  cases bb
  all_goals
    go_wp2_with fail
    go_region_held3 (fun w' => w'.cell? ⟨w.heap.size, 0, none⟩ = some (.slice a1 n1 c1) ∧ w'.cell? ⟨w.heap.size, 1, none⟩ = some (.slice a2 n2 c2) ∧ w'.cell? ⟨w.heap.size, 2, none⟩ = some (.slice a3 n3 c3) ∧ w'.cell? ⟨w4.heap.size, 0, none⟩ = some (.slice g1 n1 e1) ∧ w'.cell? ⟨w4.heap.size, 1, none⟩ = some (.slice g2 n2 e2) ∧ w'.cell? ⟨w4.heap.size, 2, none⟩ = some (.slice g3 n3 e3))
      (first | go_keep | (have QX := (X6.out.drew.next hb8).cells; have QY := (Y6.out.drew.next hb8).cells; with_reducible exact ⟨QX.1, QX.2.1, QX.2.2, QY.1, QY.2.1, QY.2.2⟩) | (have QX := (X7.out.next hb9).cells; have QY := (Y7.out.next hb9).cells; with_reducible exact ⟨QX.1, QX.2.1, QX.2.2, QY.1, QY.2.1, QY.2.2⟩))
      (first
        | (go_at_call 48; refine (HT.out _ (H.out.next B6.out.drew)).mono ?_; rintro e w8 ⟨v1, v2, v3, rfl, o8, hb8⟩; obtain ⟨u1, r1, u2, r2, u3, r3, rfl, rfl, rfl, i8⟩ := o8.isN HM.out HL.out
           have B7 := Lib.hid (B6.out.drew.trans (hb8.mono B6.out.size)); have I7 := Lib.hid (And.intro (I6.out.next ((Below.refl w6.heap.size w6).drew.trans (hb8.mono (Nat.le_refl _)))) i8); have X7 := Lib.hid (X6.out.drew.next hb8); have Y7 := Lib.hid (Y6.out.drew.next hb8))
        | (go_at_call 43; refine (eqStore3 g1 g2 g3 u1 u2 u3 n1 n2 n3 e1 e2 e3 n1 n2 n3 r1 r2 r3 t1 t2 t3 _ I7.out.1.1 I7.out.1.2.1 I7.out.1.2.2 I7.out.2.1 I7.out.2.2.1 I7.out.2.2.2 l1 l2 l3).mono ?_; rintro e w9 ⟨rfl, hb9⟩; have B9 := Lib.hid (B7.out.trans (hb9.mono B7.out.size))))
    all_goals
      go_wp2_with fail
      go_ret
      exact ⟨rfl, B9.out⟩
end fnExactStoreOk
end Go.Proofs.Ytapcbhpkbdlinaa
