/- The walk of FnExactRuleText. -/
import Derived.Test.YtapcbhpkbdlinabFrame
import Derived.Test.YtapcbhpkbdlinabRTx
namespace Go.Proofs.Ytapcbhpkbdlinab
open Go.RowKit Go.WideShapes
namespace fnExactRuleText
set_option maxRecDepth 100000 in
set_option maxHeartbeats 3200000 in
theorem walk (a : Option Addr) (n c : Nat) (ts : List Tri3) (s p o : ByteArray) (w : World) (h : IsTris w a n c ts) (hs : s.size ≤ maxLen) (hp : p.size ≤ maxLen) (ho : o.size ≤ maxLen) :
    Calls Try.prog 3 #[.agg #[.slice a n c, .string s, .string p, .string o]] w fun e w' => e = .returned (.bool true) ∧ Below w.heap.size w w' := by
  have HM := Lib.hid h.small
  have HL := Lib.hid h.len
  have B0 := (Below.refl w.heap.size w).alloc (Nat.le_refl _) (.cells #[.slice a n c, .string s, .string p, .string o] 26)
  have X0 := Box4.new w (.slice a n c) (.string s) (.string p) (.string o) 26
  have H := Lib.hid h
  obtain ⟨x0, x1, x2, x3⟩ := X0.cells
  clear h
  go_enter Try.func3, Try.ntmps3
  go_wp2_with fail
  refine (szRule a n c ts s p o _ (H.out.next B0) hs hp ho 1048576 (by omega) (by omega)).mono ?_
  rintro e w1 ⟨k, rfl, hk, hb⟩
  have B1 := B0.trans (hb.mono B0.size)
  have X1 := X0.next hb
  clear hb B0 X0 x0 x1 x2 x3
  rcases hk with rfl | ⟨hn0, k1, k2⟩
  · go_wp2_with fail
    go_ret
    exact ⟨rfl, B1⟩
  have hS : Sm ts := fun t ht => by have := k1.2 t ht; omega
  have l1 : n ≤ 1048576 := k1.1
  have hn2 : ¬ k < 0 := by omega
  have C1 := fun b d W hi => specRuleText b n d ts s p o W hi hS l1 (by omega) (by omega) (by omega)
  have C2 := fun b d W hi => implRuleText b n d ts s p o W hi hS l1 (by omega) (by omega) (by omega)
  generalize bs (ruleL ts (s, p, o)) = bb at C1 C2
  have HC1 := Lib.hid C1
  have HC2 := Lib.hid C2
  have HT := Lib.hid (fun W hi => toRule a n c ts s p o W hi l1)
  clear C1 C2 k1 k2 hS hn0 hs hp ho
  obtain ⟨x0, x1, x2, x3⟩ := X1.cells
  go_wp2_with fail
  refine (HT.out _ (H.out.next B1)).mono ?_
  rintro e w2 ⟨v1, rfl, o2, hb⟩
  obtain ⟨s1, d1, rfl, i2⟩ := ownT_isN o2 HM.out HL.out
  have B2 := B1.trans (hb.mono B1.size)
  have X2 := X1.next hb
  clear hb B1 X1 x0 x1 x2 x3 o2
  go_wp2_with fail
  refine (HC1.out s1 d1 _ i2).mono ?_
  rintro e w3 ⟨rfl, hb⟩
  have B3 := B2.trans (hb.mono B2.size)
  have X3 := X2.next hb
  clear hb B2 X2 i2
  obtain ⟨x0, x1, x2, x3⟩ := X3.cells
  go_wp2_with fail
  refine (HT.out _ (H.out.next B3)).mono ?_
  rintro e w4 ⟨v1, rfl, o4, hb⟩
  obtain ⟨g1, e1, rfl, i4⟩ := ownT_isN o4 HM.out HL.out
  have A5 := hb.trans (((Below.refl w4.heap.size w4).alloc (Nat.le_refl _) (.cells #[.slice g1 n e1, .string s, .string p, .string o] 32)).mono hb.size)
  have B5 := B3.trans (A5.mono B3.size)
  have X5 := X3.next A5
  have Y5 := Box4.new w4 (.slice g1 n e1) (.string s) (.string p) (.string o) 32
  have i5 := i4.next ((Below.refl w4.heap.size w4).alloc (Nat.le_refl _) (.cells #[.slice g1 n e1, .string s, .string p, .string o] 32))
  clear hb B3 X3 x0 x1 x2 x3 o4 i4 A5
  obtain ⟨y0, y1, y2, y3⟩ := Y5.cells
  go_wp2_with fail
  generalize w4.alloc (.cells #[.slice g1 n e1, .string s, .string p, .string o] 32) = w5 at B5 X5 Y5 i5 y0 y1 y2 y3 ⊢
  refine (HC2.out g1 e1 _ i5).mono ?_
  rintro e w6 ⟨rfl, hb⟩
  have B6 := Lib.hid (B5.trans (hb.mono B5.size))
  have X6 := Lib.hid (X5.next hb)
  have Y6 := Lib.hid (Y5.next hb)
  have I6 := Lib.hid (i5.next hb)
  clear hb B5 X5 Y5 i5 y0 y1 y2 y3
  obtain ⟨x0, x1, x2, x3⟩ := X6.out.drew.cells
  obtain ⟨y0, y1, y2, y3⟩ := Y6.out.drew.cells
  all_goals
    go_wp2_with fail
    go_region_held3 (fun w' => w'.cell? ⟨w.heap.size, 0, none⟩ = some (.slice a n c) ∧ w'.cell? ⟨w.heap.size, 1, none⟩ = some (.string s) ∧ w'.cell? ⟨w.heap.size, 2, none⟩ = some (.string p) ∧ w'.cell? ⟨w.heap.size, 3, none⟩ = some (.string o) ∧ w'.cell? ⟨w4.heap.size, 0, none⟩ = some (.slice g1 n e1) ∧ w'.cell? ⟨w4.heap.size, 1, none⟩ = some (.string s) ∧ w'.cell? ⟨w4.heap.size, 2, none⟩ = some (.string p) ∧ w'.cell? ⟨w4.heap.size, 3, none⟩ = some (.string o))
      (first | go_keep | (have QX := (X6.out.drew.next hb8).cells; have QY := (Y6.out.drew.next hb8).cells; with_reducible exact ⟨QX.1, QX.2.1, QX.2.2.1, QX.2.2.2, QY.1, QY.2.1, QY.2.2.1, QY.2.2.2⟩) | (have QX := (X7.out.next hb9).cells; have QY := (Y7.out.next hb9).cells; with_reducible exact ⟨QX.1, QX.2.1, QX.2.2.1, QX.2.2.2, QY.1, QY.2.1, QY.2.2.1, QY.2.2.2⟩))
      (first
        | (go_at_call 9; refine (HT.out _ (H.out.next B6.out.drew)).mono ?_; rintro e w8 ⟨v1, rfl, o8, hb8⟩; obtain ⟨u1, r1, rfl, i8⟩ := ownT_isN o8 HM.out HL.out
           have B7 := Lib.hid (B6.out.drew.trans (hb8.mono B6.out.size)); have I7 := Lib.hid (And.intro (I6.out.next ((Below.refl w6.heap.size w6).drew.trans (hb8.mono (Nat.le_refl _)))) i8); have X7 := Lib.hid (X6.out.drew.next hb8); have Y7 := Lib.hid (Y6.out.drew.next hb8))
        | (go_at_call 11; refine (eqRule g1 u1 n e1 r1 ts s p o _ I7.out.1 I7.out.2 l1).mono ?_; rintro e w9 ⟨rfl, hb9⟩; have B9 := Lib.hid (B7.out.trans (hb9.mono B7.out.size))))
    all_goals
      go_wp2_with fail
      go_ret
      exact ⟨rfl, B9.out⟩
end fnExactRuleText
end Go.Proofs.Ytapcbhpkbdlinab
