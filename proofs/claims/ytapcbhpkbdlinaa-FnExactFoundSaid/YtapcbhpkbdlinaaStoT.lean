/- A store that came in: what it holds; its size; a copy of it. -/
import Derived.Test.YtapcbhpkbdlinaaStoL
import Derived.Test.YtapcbhpkbdlinaaExactS
namespace Go.Proofs.Ytapcbhpkbdlinaa
open Go.ChangeShapes Go.WideShapes Go.ChangeAt Go.RowKit
theorem open_tris_one {H : Type} {enc : TypeId × Value → H} {P : Program} {w : World} {base : Nat} {spare : Nat → Bool} {held : Bool} {t e : TypeId} {f0 f1 f2 : Field} {fuel : Nat} {c : Value} {x : DataW H × List MemPlace}
    (ht : P.underlying t = some (.slice e)) (he : P.underlying e = some (.struct #[f0, f1, f2])) (hC : P.cellsOf e = 3)
    (h0 : P.underlying f0.type = some .string ∧ f0.offset = 0 ∧ P.cellsOf f0.type = 1) (h1 : P.underlying f1.type = some .string ∧ f1.offset = 1 ∧ P.cellsOf f1.type = 1) (h2 : P.underlying f2.type = some .string ∧ f2.offset = 2 ∧ P.cellsOf f2.type = 1)
    (h : DataW.trod enc P w base spare held fuel t [c] = some x) : ∃ a len cap ts, c = .slice a len cap ∧ IsTris w a len cap ts := by
  have h' := h
  rcases Deep.open_slice ht h with ⟨hcs, _⟩ | ⟨x, len', cap', m, n, D, Pl, hcs, _⟩
  · obtain rfl : c = .slice none 0 0 := by simpa using hcs
    obtain ⟨ts, hts⟩ := open_tris ht he hC h0 h1 h2 h'
    exact ⟨_, _, _, ts, rfl, hts⟩
  · obtain rfl : c = .slice (some x) len' cap' := by simpa using hcs
    obtain ⟨ts, hts⟩ := open_tris ht he hC h0 h1 h2 h'
    exact ⟨_, _, _, ts, rfl, hts⟩
theorem IsTris.maxl {w : World} {a : Option Addr} {len cap : Nat} {ts : List Tri3} (h : IsTris w a len cap ts) : len ≤ 9223372036854775807 := by
  rcases h with ⟨_, rfl, _, _⟩ | ⟨_, _, h1, h2, _⟩
  · omega
  · unfold maxLen at h2; omega
theorem Box.setc {w : World} {g : Nat} {x y z : Value} {T : TypeId} (h : Box w g x y z T) (u : Value) : Box (w.setCell ⟨g, 2, none⟩ u) g x y u T := by
  unfold Box at h ⊢; simp [World.setCell, Array.getElem?_modify, h]
theorem Own3.isN {B : Nat} {w : World} {v1 v2 v3 : Value} {t1 t2 t3 : List Tri3} {n1 n2 n3 : Nat} (h : Own3 B w v1 v2 v3 t1 t2 t3) (m : SmV t1 ∧ SmV t2 ∧ SmV t3) (l : t1.length = n1 ∧ t2.length = n2 ∧ t3.length = n3) :
    ∃ a1 c1 a2 c2 a3 c3, v1 = .slice a1 n1 c1 ∧ v2 = .slice a2 n2 c2 ∧ v3 = .slice a3 n3 c3 ∧ Is3 w a1 a2 a3 n1 n2 n3 c1 c2 c3 t1 t2 t3 := by
  obtain ⟨rfl, rfl, rfl⟩ := l
  exact h.is m.1 m.2.1 m.2.2
def SzPost3 (left : Int) (n1 n2 n3 : Nat) (t1 t2 t3 : List Tri3) (w : World) (e : Ending) (w' : World) : Prop :=
  ∃ n : Int, e = .returned (.int .i64 n) ∧ (n = -1 ∨ (0 ≤ n ∧ n ≤ left ∧ Small n1 t1 ∧ Small n2 t2 ∧ Small n3 t3)) ∧ Below w.heap.size w w'
set_option maxRecDepth 100000 in
set_option maxHeartbeats 1600000 in
theorem szStore3 (a1 a2 a3 : Option Addr) (n1 n2 n3 c1 c2 c3 : Nat) (t1 t2 t3 : List Tri3) (w : World) (h : Is3 w a1 a2 a3 n1 n2 n3 c1 c2 c3 t1 t2 t3) (left : Int) (h0 : 0 ≤ left) (h1 : left ≤ 1048576) :
    Calls Try.prog 46 #[.agg #[.slice a1 n1 c1, .slice a2 n2 c2, .slice a3 n3 c3], .int .i64 left] w (SzPost3 left n1 n2 n3 t1 t2 t3 w) := by
  have B0 := (Below.refl w.heap.size w).alloc (Nat.le_refl _) (.cells #[.slice a1 n1 c1, .slice a2 n2 c2, .slice a3 n3 c3] 64)
  have X0 := Box.new w (.slice a1 n1 c1) (.slice a2 n2 c2) (.slice a3 n3 c3) 64
  have HH := Lib.hid h
  have m1 := h.1.maxl
  have m2 := h.2.1.maxl
  have m3 := h.2.2.maxl
  clear h
  go_enter Try.func46, Try.ntmps46
  go_wp2_with fail
  refine (szTriS a1 n1 c1 t1 _ (HH.out.1.next B0) left h0 h1 m1).mono ?_
  rintro e w1 ⟨n, rfl, hn, hb⟩
  have B1 := B0.trans (hb.mono B0.size)
  have X1 := X0.next hb
  clear hb B0 X0
  rcases hn with rfl | ⟨p0, p1, ps⟩
  · go_wp2_with fail
    go_ret
    exact ⟨-1, rfl, .inl rfl, B1⟩
  have PS := Lib.hid ps
  have p2 : ¬ n < 0 := by omega
  clear ps
  obtain ⟨y0, y1, y2⟩ := X1.cells
  go_wp2_with fail
  refine (szTriS a2 n2 c2 t2 _ (HH.out.2.1.next B1) n p0 (by omega) m2).mono ?_
  rintro e w2 ⟨m, rfl, hm, hb⟩
  have B2 := B1.trans (hb.mono B1.size)
  have X2 := X1.next hb
  clear hb B1 X1 y0 y1 y2
  rcases hm with rfl | ⟨q0, q1, qs⟩
  · go_wp2_with fail
    go_ret
    exact ⟨-1, rfl, .inl rfl, B2⟩
  have QS := Lib.hid qs
  have q2 : ¬ m < 0 := by omega
  clear qs
  obtain ⟨y0, y1, y2⟩ := X2.cells
  go_wp2_with fail
  refine (szTriS a3 n3 c3 t3 _ (HH.out.2.2.next B2) m q0 (by omega) m3).mono ?_
  rintro e w3 ⟨o, rfl, ho, hb⟩
  have B3 := B2.trans (hb.mono B2.size)
  clear hb B2 X2 y0 y1 y2
  rcases ho with rfl | ⟨r0, r1, rs⟩
  · go_wp2_with fail
    go_ret
    exact ⟨-1, rfl, .inl rfl, B3⟩
  have RS := Lib.hid rs
  have r2 : ¬ o < 0 := by omega
  clear rs
  go_wp2_with fail
  go_ret
  exact ⟨o, rfl, .inr ⟨r0, by omega, PS.out, QS.out, RS.out⟩, B3⟩
set_option maxRecDepth 100000 in
set_option maxHeartbeats 1600000 in
theorem toStore3 (a1 a2 a3 : Option Addr) (n1 n2 n3 c1 c2 c3 : Nat) (t1 t2 t3 : List Tri3) (w : World) (h : Is3 w a1 a2 a3 n1 n2 n3 c1 c2 c3 t1 t2 t3) (l1 : n1 ≤ 1048576) (l2 : n2 ≤ 1048576) (l3 : n3 ≤ 1048576) :
    Calls Try.prog 48 #[.agg #[.slice a1 n1 c1, .slice a2 n2 c2, .slice a3 n3 c3]] w fun e w' => ∃ v1 v2 v3, e = .returned (.agg #[v1, v2, v3]) ∧ Own3 w.heap.size w' v1 v2 v3 t1 t2 t3 ∧ Below w.heap.size w w' := by
  obtain ⟨W1, hW1⟩ : ∃ W, w.alloc (.cells #[.slice a1 n1 c1, .slice a2 n2 c2, .slice a3 n3 c3] 64) = W := ⟨_, rfl⟩
  obtain ⟨W2, hW2⟩ : ∃ W, W1.alloc (.cells #[.slice none 0 0, .slice none 0 0, .slice none 0 0] 56) = W := ⟨_, rfl⟩
  obtain ⟨W3, hW3⟩ : ∃ W, W2.alloc (.cells #[.slice none 0 0, .slice none 0 0, .slice none 0 0] 56) = W := ⟨_, rfl⟩
  have z1 : W1.heap.size = w.heap.size + 1 := by rw [← hW1]; simp
  have z2 : W2.heap.size = w.heap.size + 2 := by rw [← hW2]; simp [z1]
  have z3 : W3.heap.size = w.heap.size + 3 := by rw [← hW3]; simp [z2]
  have B0 : Below w.heap.size w W3 := by
    rw [← hW3, ← hW2, ← hW1]; exact (((Below.refl w.heap.size w).alloc (Nat.le_refl _) _).alloc (by simp) _).alloc (by simp; omega) _
  have X0 : Box W3 w.heap.size (.slice a1 n1 c1) (.slice a2 n2 c2) (.slice a3 n3 c3) 64 := by
    rw [← hW3, ← hW2, ← hW1]; exact ((Box.new w _ _ _ _).alloc _).alloc _
  have Y0 : Box W3 (w.heap.size + 1) (.slice none 0 0) (.slice none 0 0) (.slice none 0 0) 56 := by
    rw [← hW3, ← hW2, ← z1]; exact (Box.new W1 _ _ _ _).alloc _
  have Z0 : Box W3 (w.heap.size + 2) (.slice none 0 0) (.slice none 0 0) (.slice none 0 0) 56 := by
    rw [← hW3, ← z2]; exact Box.new W2 _ _ _ _
  have HH := Lib.hid h
  have HZ3 := Lib.hid z3
  have HW := Lib.hid (And.intro hW1 (And.intro hW2 hW3))
  obtain ⟨x0, x1, x2⟩ := X0.cells
  clear h z1 z2 z3 hW1 hW2 hW3
  go_enter Try.func48, Try.ntmps48
  go_wp2_with fail
  rw [HW.out.1, HW.out.2.1, HW.out.2.2]
  refine (toTriS a1 n1 c1 t1 _ (HH.out.1.next B0) l1).mono ?_
  rintro e w1 ⟨v, rfl, o1, hb⟩
  rw [HZ3.out] at o1
  obtain ⟨p1, k1, r1, rfl⟩ := own_slice o1
  have B1 := B0.trans (hb.mono B0.size)
  have X1 := X0.next hb
  have Y1 := Y0.next hb
  have Z1 := Z0.next hb
  have hwz : w.heap.size + 3 ≤ w1.heap.size := by have := hb.size; rw [HZ3.out] at this; exact this
  clear hb x0 x1 x2 B0 X0 Y0 Z0
  obtain ⟨z0, z1, z2⟩ := Z1.cells
  obtain ⟨f0, f1, f2⟩ := Z1.free
  have V : Value := .slice p1 k1 r1
  have B0 := B1.setCell (p := ⟨w.heap.size + 2, 0, none⟩) (by show w.heap.size ≤ w.heap.size + 2; omega) (.slice p1 k1 r1)
  have X0 := X1.far (a := ⟨w.heap.size + 2, 0, none⟩) (by show w.heap.size ≠ w.heap.size + 2; omega) (.slice p1 k1 r1)
  have Y0 := Y1.far (a := ⟨w.heap.size + 2, 0, none⟩) (by show w.heap.size + 1 ≠ w.heap.size + 2; omega) (.slice p1 k1 r1)
  have Z0 := Z1.set0 (.slice p1 k1 r1)
  have s1 : ∀ j, (Value.slice p1 k1 r1).ownBlock = some j → j < (w1.setCell ⟨w.heap.size + 2, 0, none⟩ (.slice p1 k1 r1)).heap.size := fun j hj => by
    have := (World.ownsRow.lt o1 j hj).2
    simpa [World.setCell] using this
  have hu1 : w.heap.size + 3 ≤ (w1.setCell ⟨w.heap.size + 2, 0, none⟩ (.slice p1 k1 r1)).heap.size := by simpa [World.setCell] using hwz
  have o1 := own_set o1 (g := w.heap.size + 2) (by omega) 0 (.slice p1 k1 r1)
  clear B1 X1 Y1 Z1 hwz V
  obtain ⟨x0, x1, x2⟩ := X0.cells
  go_wp2_with fail
  generalize w1.setCell ⟨w.heap.size + 2, 0, none⟩ (.slice p1 k1 r1) = u1 at B0 X0 Y0 Z0 s1 hu1 o1 x0 x1 x2 ⊢
  clear z0 z1 z2 f0 f1 f2
  refine (toTriS a2 n2 c2 t2 _ (HH.out.2.1.next B0) l2).mono ?_
  rintro e w2 ⟨v, rfl, o2, hb⟩
  obtain ⟨p2, k2, r2, rfl⟩ := own_slice o2
  have B1 := B0.trans (hb.mono B0.size)
  have X1 := X0.next hb
  have Y1 := Y0.next hb
  have Z1 := Z0.next hb
  have hwz : w.heap.size + 3 ≤ w2.heap.size := by have := hb.size; omega
  have o1 := own_next o1 (grown_of_below hb)
  have hle2 := hb.size
  clear hb x0 x1 x2 B0 X0 Y0 Z0
  obtain ⟨z0, z1, z2⟩ := Z1.cells
  obtain ⟨f0, f1, f2⟩ := Z1.free
  have V : Value := .slice p2 k2 r2
  have B0 := B1.setCell (p := ⟨w.heap.size + 2, 1, none⟩) (by show w.heap.size ≤ w.heap.size + 2; omega) (.slice p2 k2 r2)
  have X0 := X1.far (a := ⟨w.heap.size + 2, 1, none⟩) (by show w.heap.size ≠ w.heap.size + 2; omega) (.slice p2 k2 r2)
  have Y0 := Y1.far (a := ⟨w.heap.size + 2, 1, none⟩) (by show w.heap.size + 1 ≠ w.heap.size + 2; omega) (.slice p2 k2 r2)
  have Z0 := Z1.set1 (.slice p2 k2 r2)
  have s2 : ∀ j, (Value.slice p2 k2 r2).ownBlock = some j → j < (w2.setCell ⟨w.heap.size + 2, 1, none⟩ (.slice p2 k2 r2)).heap.size := fun j hj => by
    have := (World.ownsRow.lt o2 j hj).2
    simpa [World.setCell] using this
  have hu2 : w.heap.size + 3 ≤ (w2.setCell ⟨w.heap.size + 2, 1, none⟩ (.slice p2 k2 r2)).heap.size := by simpa [World.setCell] using hwz
  have o2 := own_set o2 (g := w.heap.size + 2) (by omega) 1 (.slice p2 k2 r2)
  have o1 := own_set o1 (g := w.heap.size + 2) (by omega) 1 (.slice p2 k2 r2)
  have hv2 : u1.heap.size ≤ (w2.setCell ⟨w.heap.size + 2, 1, none⟩ (.slice p2 k2 r2)).heap.size := by simpa [World.setCell] using hle2
  clear B1 X1 Y1 Z1 hwz V hle2
  obtain ⟨x0, x1, x2⟩ := X0.cells
  go_wp2_with fail
  generalize w2.setCell ⟨w.heap.size + 2, 1, none⟩ (.slice p2 k2 r2) = u2 at B0 X0 Y0 Z0 s2 hu2 o1 o2 hv2 x0 x1 x2 ⊢
  clear z0 z1 z2 f0 f1 f2
  refine (toTriS a3 n3 c3 t3 _ (HH.out.2.2.next B0) l3).mono ?_
  rintro e w3 ⟨v, rfl, o3, hb⟩
  obtain ⟨p3, k3, r3, rfl⟩ := own_slice o3
  have B1 := B0.trans (hb.mono B0.size)
  have X1 := X0.next hb
  have Y1 := Y0.next hb
  have Z1 := Z0.next hb
  have hwz : w.heap.size + 3 ≤ w3.heap.size := by have := hb.size; omega
  have o1 := own_next o1 (grown_of_below hb)
  have o2 := own_next o2 (grown_of_below hb)
  have hle3 := hb.size
  clear hb x0 x1 x2 B0 X0 Y0 Z0
  obtain ⟨z0, z1, z2⟩ := Z1.cells
  obtain ⟨f0, f1, f2⟩ := Z1.free
  have V : Value := .slice p3 k3 r3
  have B0 := B1.setCell (p := ⟨w.heap.size + 2, 2, none⟩) (by show w.heap.size ≤ w.heap.size + 2; omega) (.slice p3 k3 r3)
  have X0 := X1.far (a := ⟨w.heap.size + 2, 2, none⟩) (by show w.heap.size ≠ w.heap.size + 2; omega) (.slice p3 k3 r3)
  have Y0 := Y1.far (a := ⟨w.heap.size + 2, 2, none⟩) (by show w.heap.size + 1 ≠ w.heap.size + 2; omega) (.slice p3 k3 r3)
  have Z0 := Z1.setc (.slice p3 k3 r3)
  have s3 : ∀ j, (Value.slice p3 k3 r3).ownBlock = some j → j < (w3.setCell ⟨w.heap.size + 2, 2, none⟩ (.slice p3 k3 r3)).heap.size := fun j hj => by
    have := (World.ownsRow.lt o3 j hj).2
    simpa [World.setCell] using this
  have hu3 : w.heap.size + 3 ≤ (w3.setCell ⟨w.heap.size + 2, 2, none⟩ (.slice p3 k3 r3)).heap.size := by simpa [World.setCell] using hwz
  have o3 := own_set o3 (g := w.heap.size + 2) (by omega) 2 (.slice p3 k3 r3)
  have o1 := own_set o1 (g := w.heap.size + 2) (by omega) 2 (.slice p3 k3 r3)
  have o2 := own_set o2 (g := w.heap.size + 2) (by omega) 2 (.slice p3 k3 r3)
  have hv3 : u2.heap.size ≤ (w3.setCell ⟨w.heap.size + 2, 2, none⟩ (.slice p3 k3 r3)).heap.size := by simpa [World.setCell] using hle3
  clear B1 X1 Y1 Z1 hwz V hle3
  have HO : Hid (Own3 (w.heap.size + 3) (w3.setCell ⟨w.heap.size + 2, 2, none⟩ (.slice p3 k3 r3)) (.slice p1 k1 r1) (.slice p2 k2 r2) (.slice p3 k3 r3) t1 t2 t3) := Lib.hid ⟨u1.heap.size, u2.heap.size, hu1, hv2, o1, o2, o3, s1, s2⟩
  obtain ⟨g0, g1, g2⟩ := Z0.cells
  obtain ⟨y0, y1, y2⟩ := Y0.cells
  obtain ⟨q0, q1, q2⟩ := Y0.free
  clear o1 o2 o3 s1 s2 s3 hv3
  go_wp2_with fail
  refine bodyPost_ret (v := .agg #[.slice p1 k1 r1, .slice p2 k2 r2, .slice p3 k3 r3]) (by simp [results, Try.results48, go_sem, *]) rfl ⟨_, _, _, rfl, ?_, below_s3 B0 _ (Nat.le_succ _) _ _ _⟩
  exact Own3.base (Own3.set3 HO.out (by omega) _ _ _) (by omega)
end Go.Proofs.Ytapcbhpkbdlinaa
