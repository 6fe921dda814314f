/- The laws' comparison of two stores; what a store of a right graph is. -/
import Derived.Test.YteejpceliodcfaaGotS
namespace Go.Proofs.Yteejpceliodcfaa
open Go.RowKit Go.WideShapes
theorem store_right {ts : List Tri3} (h : graphOk ts = true) : storeOk (st0 ts) (st1 ts) (st2 ts) = true := by
  unfold st0 st1 st2 storeOk
  rw [if_pos h, if_pos h, if_pos h, h]; simp
theorem sameT {v u : Value} {ts : List Tri3} {w : World} (h : GotG w v ts) (k : GotG w u ts) : Calls Try.prog 29 #[v, u] w fun e w' => e = .returned (.bool true) ∧ Below w.heap.size w w' := by
  have := sameG h k; rwa [decide_eq_true rfl] at this
theorem got_sl {w : World} {v : Value} {ts : List Tri3} (h : GotG w v ts) : ∃ a n c, v = .slice a n c := by
  obtain ⟨x, c, rfl, _⟩ := h; exact ⟨x, _, c, rfl⟩
set_option maxRecDepth 100000 in
set_option maxHeartbeats 1600000 in
theorem sameStoreG {u1 u2 u3 v1 v2 v3 : Value} {t1 t2 t3 : List Tri3} {w : World} (h : Got3 w u1 u2 u3 t1 t2 t3) (k : Got3 w v1 v2 v3 t1 t2 t3) :
    Calls Try.prog 25 #[.agg #[u1, u2, u3], .agg #[v1, v2, v3]] w fun e w' => e = .returned (.bool true) ∧ Below w.heap.size w w' := by
  obtain ⟨a1, n1, c1, rfl⟩ := got_sl h.1
  obtain ⟨a2, n2, c2, rfl⟩ := got_sl h.2.1
  obtain ⟨a3, n3, c3, rfl⟩ := got_sl h.2.2
  obtain ⟨b1, m1, d1, rfl⟩ := got_sl k.1
  obtain ⟨b2, m2, d2, rfl⟩ := got_sl k.2.1
  obtain ⟨b3, m3, d3, rfl⟩ := got_sl k.2.2
  obtain ⟨W, hW⟩ : ∃ W, (w.alloc (.cells #[.slice a1 n1 c1, .slice a2 n2 c2, .slice a3 n3 c3] 39)).alloc (.cells #[.slice b1 m1 d1, .slice b2 m2 d2, .slice b3 m3 d3] 39) = W := ⟨_, rfl⟩
  have B0 : Below w.heap.size w W := by rw [← hW]; exact ((Below.refl w.heap.size w).alloc (Nat.le_refl _) _).alloc (by simp) _
  have X : Box W w.heap.size (.slice a1 n1 c1) (.slice a2 n2 c2) (.slice a3 n3 c3) 39 := by rw [← hW]; exact (Box.new w _ _ _ _).alloc _
  have Y : Box W (w.heap.size + 1) (.slice b1 m1 d1) (.slice b2 m2 d2) (.slice b3 m3 d3) 39 := by
    rw [← hW]; have := Box.new (w.alloc (.cells #[.slice a1 n1 c1, .slice a2 n2 c2, .slice a3 n3 c3] 39)) (.slice b1 m1 d1) (.slice b2 m2 d2) (.slice b3 m3 d3) 39
    rwa [World.size_alloc] at this
  have H := Lib.hid (h.next B0)
  have K := Lib.hid (k.next B0)
  have HX := Lib.hid X
  have HY := Lib.hid Y
  obtain ⟨x0, x1, x2⟩ := X.cells
  obtain ⟨y0, y1, y2⟩ := Y.cells
  clear h k X Y
  go_enter Try.func25, Try.ntmps25
  go_wp2_with fail
  clear hW x0 x1 x2 y0 y1 y2
  refine (sameT H.out.1 K.out.1).mono ?_
  rintro e w1 ⟨rfl, hb⟩
  have E1 := Lib.hid hb
  clear hb
  obtain ⟨x0, x1, x2⟩ := (HX.out.next E1.out).cells
  obtain ⟨y0, y1, y2⟩ := (HY.out.next E1.out).cells
  go_wp2_with fail
  clear x0 x1 x2 y0 y1 y2
  refine (sameT (H.out.next E1.out).2.1 (K.out.next E1.out).2.1).mono ?_
  rintro e w2 ⟨rfl, hb⟩
  have E2 := Lib.hid (E1.out.trans (hb.mono E1.out.size))
  clear hb E1
  obtain ⟨x0, x1, x2⟩ := (HX.out.next E2.out).cells
  obtain ⟨y0, y1, y2⟩ := (HY.out.next E2.out).cells
  go_wp2_with fail
  clear x0 x1 x2 y0 y1 y2
  refine (sameT (H.out.next E2.out).2.2 (K.out.next E2.out).2.2).mono ?_
  rintro e w3 ⟨rfl, hb⟩
  have B3 := B0.trans ((E2.out.trans (hb.mono E2.out.size)).mono B0.size)
  clear hb E2
  go_wp2_with fail
  go_ret
  exact ⟨rfl, B3⟩
end Go.Proofs.Yteejpceliodcfaa
