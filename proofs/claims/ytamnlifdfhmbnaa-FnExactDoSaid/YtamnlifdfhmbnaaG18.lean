/- A disk (two slices of files and one of ops): what it holds; its size; a copy; two alike. -/
import Derived.Test.YtamnlifdfhmbnaaG12
import Derived.Test.YtamnlifdfhmbnaaG10
import Derived.Test.YtamnlifdfhmbnaaG17
import Derived.Test.YtamnlifdfhmbnaaG14
namespace Go.Proofs.Ytamnlifdfhmbnaa
open Go.ChangeShapes Go.WideShapes Go.ChangeAt Go.RowKit
theorem turn_setDk (w : World) (g i : Nat) (v : Value) : Turn g (g + 1) w (w.setCell ⟨g, i, none⟩ v) := ⟨rfl, rfl, rfl, by simp [World.setCell], fun k _ hd => Below.heap_setCell _ _ _ _ (by show k ≠ g; omega)⟩
def IsDk (w : World) (a0 a1 a2 : Option Addr) (n0 n1 n2 c0 c1 c2 : Nat) (t0 : List Pre2) (t1 : List Pre2) (t2 : List OpV) : Prop := IsPres w a0 n0 c0 t0 ∧ IsPres w a1 n1 c1 t1 ∧ IsOps w a2 n2 c2 t2
theorem IsDk.next {w w' : World} {a0 a1 a2 : Option Addr} {n0 n1 n2 c0 c1 c2 : Nat} {t0 : List Pre2} {t1 : List Pre2} {t2 : List OpV} (h : IsDk w a0 a1 a2 n0 n1 n2 c0 c1 c2 t0 t1 t2) (hb : Below w.heap.size w w') : IsDk w' a0 a1 a2 n0 n1 n2 c0 c1 c2 t0 t1 t2 := ⟨h.1.nextFi hb, h.2.1.nextFi hb, h.2.2.next hb⟩
/-- The call owns these slices, apart from one another, between B and C. -/
def OwnDk (B C : Nat) (v0 v1 v2 : Value) (t0 : List Pre2) (t1 : List Pre2) (t2 : List OpV) (w : World) : Prop := OwnPCFi B C v0 t0 w ∧ OwnPCFi B C v1 t1 w ∧ OwnOpC B C v2 t2 w ∧ (∀ j, v0.ownBlock = some j → v1.ownBlock ≠ some j) ∧ (∀ j, v0.ownBlock = some j → v2.ownBlock ≠ some j) ∧ (∀ j, v1.ownBlock = some j → v2.ownBlock ≠ some j)
theorem ownDk_lives {B C : Nat} {v0 v1 v2 : Value} {t0 : List Pre2} {t1 : List Pre2} {t2 : List OpV} : Lives B C (OwnDk B C v0 v1 v2 t0 t1 t2) := fun w w2 he h => ⟨ownPC_livesFi w w2 he h.1, ownPC_livesFi w w2 he h.2.1, ownOpC_lives w w2 he h.2.2.1, h.2.2.2.1, h.2.2.2.2.1, h.2.2.2.2.2⟩
def SzPostDk (left : Int) (n0 n1 n2 : Nat) (t0 : List Pre2) (t1 : List Pre2) (t2 : List OpV) (w : World) (e : Ending) (w' : World) : Prop :=
  ∃ n : Int, e = .returned (.int .i64 n) ∧ (n = -1 ∨ (0 ≤ n ∧ n ≤ left ∧ SmallPFi n0 t0 ∧ SmallPFi n1 t1 ∧ SmallOp n2 t2)) ∧ Below w.heap.size w w'
set_option maxRecDepth 100000 in
set_option maxHeartbeats 1600000 in
theorem szDk (a0 a1 a2 : Option Addr) (n0 n1 n2 c0 c1 c2 : Nat) (t0 : List Pre2) (t1 : List Pre2) (t2 : List OpV) (w : World) (h : IsDk w a0 a1 a2 n0 n1 n2 c0 c1 c2 t0 t1 t2) (left : Int) (h0 : 0 ≤ left) (h1 : left ≤ 1048576) :
    Calls Try.prog 25 #[.agg #[.slice a0 n0 c0, .slice a1 n1 c1, .slice a2 n2 c2], .int .i64 left] w (SzPostDk left n0 n1 n2 t0 t1 t2 w) := by
  have B0 := Lib.hid ((Below.refl w.heap.size w).alloc (Nat.le_refl _) (.cells #[.slice a0 n0 c0, .slice a1 n1 c1, .slice a2 n2 c2] 50))
  have X0 := Lib.hid (cells_new w #[.slice a0 n0 c0, .slice a1 n1 c1, .slice a2 n2 c2] 50)
  have HH := Lib.hid h
  have m0 := pres_mostFi h.1
  have m1 := pres_mostFi h.2.1
  have m2 := IsOps.maxl h.2.2
  clear h
  go_enter Try.func25, Try.ntmps25
  have y0 := X0.out.now.at 0
  go_wp2_with fail
  refine (szPairSFi a0 n0 c0 t0 _ ((HH.out.next B0.out).1) left h0 h1 m0).mono ?_
  rintro e w1 ⟨q0, rfl, hn, hb⟩
  have B1 := Lib.hid (B0.out.trans (hb.mono B0.out.size))
  have X1 := Lib.hid (X0.out.next hb)
  clear hb B0 X0 y0
  rcases hn with rfl | ⟨p0, r0, ps⟩
  · go_wp2_with fail
    go_ret
    exact ⟨-1, rfl, .inl rfl, B1.out⟩
  have P0 := Lib.hid ps
  have s0 : ¬ q0 < 0 := by omega
  clear ps
  have y1 := X1.out.now.at 1
  go_wp2_with fail
  refine (szPairSFi a1 n1 c1 t1 _ ((HH.out.next B1.out).2.1) q0 p0 (by omega) m1).mono ?_
  rintro e w2 ⟨q1, rfl, hn, hb⟩
  have B2 := Lib.hid (B1.out.trans (hb.mono B1.out.size))
  have X2 := Lib.hid (X1.out.next hb)
  clear hb B1 X1 y1
  rcases hn with rfl | ⟨p1, r1, ps⟩
  · go_wp2_with fail
    go_ret
    exact ⟨-1, rfl, .inl rfl, B2.out⟩
  have P1 := Lib.hid ps
  have s1 : ¬ q1 < 0 := by omega
  clear ps
  have y2 := X2.out.now.at 2
  go_wp2_with fail
  refine (szDops a2 n2 c2 t2 _ ((HH.out.next B2.out).2.2) q1 p1 (by omega) m2).mono ?_
  rintro e w3 ⟨q2, rfl, hn, hb⟩
  have B3 := Lib.hid (B2.out.trans (hb.mono B2.out.size))
  have X3 := Lib.hid (X2.out.next hb)
  clear hb B2 X2 y2
  rcases hn with rfl | ⟨p2, r2, ps⟩
  · go_wp2_with fail
    go_ret
    exact ⟨-1, rfl, .inl rfl, B3.out⟩
  have P2 := Lib.hid ps
  have s2 : ¬ q2 < 0 := by omega
  clear ps
  go_wp2_with fail
  go_ret
  exact ⟨q2, rfl, .inr ⟨p2, by omega, P0.out, P1.out, P2.out⟩, B3.out⟩
set_option maxRecDepth 100000 in
set_option maxHeartbeats 1600000 in
theorem eqDk (a0 a1 a2 b0 b1 b2 : Option Addr) (n0 n1 n2 c0 c1 c2 d0 d1 d2 : Nat) (t0 : List Pre2) (t1 : List Pre2) (t2 : List OpV) (w : World) (i : IsDk w a0 a1 a2 n0 n1 n2 c0 c1 c2 t0 t1 t2) (j : IsDk w b0 b1 b2 n0 n1 n2 d0 d1 d2 t0 t1 t2) (l : n0 ≤ 1048576 ∧ n1 ≤ 1048576 ∧ n2 ≤ 1048576) :
    Calls Try.prog 27 #[.agg #[.slice a0 n0 c0, .slice a1 n1 c1, .slice a2 n2 c2], .agg #[.slice b0 n0 d0, .slice b1 n1 d1, .slice b2 n2 d2]] w fun e w' => e = .returned (.bool true) ∧ Below w.heap.size w w' := by
  have B0 := Lib.hid (((Below.refl w.heap.size w).alloc (Nat.le_refl _) (.cells #[.slice a0 n0 c0, .slice a1 n1 c1, .slice a2 n2 c2] 27)).alloc (by simp) (.cells #[.slice b0 n0 d0, .slice b1 n1 d1, .slice b2 n2 d2] 27))
  have X0 := Lib.hid ((cells_new w #[.slice a0 n0 c0, .slice a1 n1 c1, .slice a2 n2 c2] 27).alloc (.cells #[.slice b0 n0 d0, .slice b1 n1 d1, .slice b2 n2 d2] 27))
  have Y00 := cells_new (w.alloc (.cells #[.slice a0 n0 c0, .slice a1 n1 c1, .slice a2 n2 c2] 27)) #[.slice b0 n0 d0, .slice b1 n1 d1, .slice b2 n2 d2] 27
  rw [World.size_alloc] at Y00
  have Y0 := Lib.hid Y00
  have I := Lib.hid i
  have J := Lib.hid j
  clear i j Y00
  go_enter Try.func27, Try.ntmps27
  have x := X0.out.now.at 0
  have y := Y0.out.now.at 0
  go_wp2_with fail
  refine (eqPairSFi a0 b0 n0 c0 n0 d0 t0 _ ((I.out.next B0.out).1) ((J.out.next B0.out).1) l.1).mono ?_
  rintro e w1 ⟨rfl, hb⟩
  have B1 := Lib.hid (B0.out.trans (hb.mono B0.out.size))
  have X1 := Lib.hid (X0.out.next hb)
  have Y1 := Lib.hid (Y0.out.next hb)
  clear hb B0 X0 Y0 x y
  have x := X1.out.now.at 1
  have y := Y1.out.now.at 1
  go_wp2_with fail
  refine (eqPairSFi a1 b1 n1 c1 n1 d1 t1 _ ((I.out.next B1.out).2.1) ((J.out.next B1.out).2.1) l.2.1).mono ?_
  rintro e w2 ⟨rfl, hb⟩
  have B2 := Lib.hid (B1.out.trans (hb.mono B1.out.size))
  have X2 := Lib.hid (X1.out.next hb)
  have Y2 := Lib.hid (Y1.out.next hb)
  clear hb B1 X1 Y1 x y
  have x := X2.out.now.at 2
  have y := Y2.out.now.at 2
  go_wp2_with fail
  refine (eqDops a2 b2 n2 c2 n2 d2 t2 _ ((I.out.next B2.out).2.2) ((J.out.next B2.out).2.2) l.2.2).mono ?_
  rintro e w3 ⟨rfl, hb⟩
  have B3 := Lib.hid (B2.out.trans (hb.mono B2.out.size))
  have X3 := Lib.hid (X2.out.next hb)
  have Y3 := Lib.hid (Y2.out.next hb)
  clear hb B2 X2 Y2 x y
  go_wp2_with fail
  go_ret
  exact ⟨rfl, B3.out⟩
set_option maxRecDepth 100000 in
set_option maxHeartbeats 3200000 in
theorem exToDk (a0 a1 a2 : Option Addr) (n0 n1 n2 c0 c1 c2 : Nat) (t0 : List Pre2) (t1 : List Pre2) (t2 : List OpV) (w : World) (h : IsDk w a0 a1 a2 n0 n1 n2 c0 c1 c2 t0 t1 t2) (s : n0 ≤ 1048576 ∧ n1 ≤ 1048576 ∧ n2 ≤ 1048576) (l : t0.length = n0 ∧ t1.length = n1 ∧ t2.length = n2) :
    Calls Try.prog 26 #[.agg #[.slice a0 n0 c0, .slice a1 n1 c1, .slice a2 n2 c2]] w fun e w' => ∃ x0 y0 x1 y1 x2 y2, e = .returned (.agg #[.slice x0 n0 y0, .slice x1 n1 y1, .slice x2 n2 y2]) ∧ Holds w.heap.size w'.heap.size w' (OwnDk w.heap.size w'.heap.size (.slice x0 n0 y0) (.slice x1 n1 y1) (.slice x2 n2 y2) t0 t1 t2) ∧ Below w.heap.size w w' := by
  obtain ⟨W1, hW1⟩ : ∃ W, w.alloc (.cells #[.slice a0 n0 c0, .slice a1 n1 c1, .slice a2 n2 c2] 50) = W := ⟨_, rfl⟩
  obtain ⟨W2, hW2⟩ : ∃ W, W1.alloc (.cells #[.slice none 0 0, .slice none 0 0, .slice none 0 0] 27) = W := ⟨_, rfl⟩
  obtain ⟨W3, hW3⟩ : ∃ W, W2.alloc (.cells #[.slice none 0 0, .slice none 0 0, .slice none 0 0] 27) = W := ⟨_, rfl⟩
  have z1 : W1.heap.size = w.heap.size + 1 := by rw [← hW1]; simp
  have z2 : W2.heap.size = w.heap.size + 2 := by rw [← hW2]; simp [z1]
  have z3 : W3.heap.size = w.heap.size + 3 := by rw [← hW3]; simp [z2]
  have B0 : Hid (Below w.heap.size w W3) := Lib.hid (by
    rw [← hW3, ← hW2, ← hW1]; exact (((Below.refl w.heap.size w).alloc (Nat.le_refl _) _).alloc (by simp) _).alloc (by simp; omega) _)
  have X0 : Hid (Cells w.heap.size #[.slice a0 n0 c0, .slice a1 n1 c1, .slice a2 n2 c2] 50 W3) := Lib.hid (by
    rw [← hW3, ← hW2, ← hW1]; exact (((cells_new w _ _).alloc _).alloc _).now)
  have Y0 : Hid (Cells (w.heap.size + 1) #[.slice none 0 0, .slice none 0 0, .slice none 0 0] 27 W3) := Lib.hid (by
    rw [← hW3, ← hW2, ← z1]; exact ((cells_new W1 _ _).alloc _).now)
  have Z0 : Hid (Cells (w.heap.size + 2) #[.slice none 0 0, .slice none 0 0, .slice none 0 0] 27 W3) := Lib.hid (by
    rw [← hW3, ← z2]; exact (cells_new W2 _ _).now)
  have HH := Lib.hid h
  have HW := Lib.hid (And.intro hW1 (And.intro hW2 hW3))
  have u0 : w.heap.size + 3 ≤ W3.heap.size := by omega
  clear h z1 z2 z3 hW1 hW2 hW3
  go_enter Try.func26, Try.ntmps26
  have xx := X0.out.at 0
  go_wp2_with fail
  rw [HW.out.1, HW.out.2.1, HW.out.2.2]
  refine (exToPrFi a0 n0 c0 t0 _ ((HH.out.next B0.out).1) s.1 l.1).mono ?_
  rintro e w1 ⟨x0, y0, rfl, hh, hb⟩
  have B1 := Lib.hid (B0.out.trans (hb.mono B0.out.size))
  have X1 : Hid (Cells (w.heap.size) #[.slice a0 n0 c0, .slice a1 n1 c1, .slice a2 n2 c2] 50 w1) := Lib.hid ((hb.block _ (by omega)).trans X0.out)
  have Y1 : Hid (Cells (w.heap.size + 1) #[.slice none 0 0, .slice none 0 0, .slice none 0 0] 27 w1) := Lib.hid ((hb.block _ (by omega)).trans Y0.out)
  have Z1 : Hid (Cells (w.heap.size + 2) #[.slice none 0 0, .slice none 0 0, .slice none 0 0] 27 w1) := Lib.hid ((hb.block _ (by omega)).trans Z0.out)
  have V0_1 := Lib.hid hh
  have le0 : W3.heap.size ≤ w1.heap.size := hb.size
  have u1 : w.heap.size + 3 ≤ w1.heap.size := by omega
  clear hb hh xx B0 X0 Y0 Z0 
  have z0 := Z1.out.at 0
  have f0 := Z1.out.free 0
  have T : Turn (w.heap.size + 2) (w.heap.size + 3) w1 (w1.setCell ⟨w.heap.size + 2, 0, none⟩ (.slice x0 n0 y0)) := turn_setDk _ _ _ _
  have B2 := Lib.hid (B1.out.setCell (p := ⟨w.heap.size + 2, 0, none⟩) (by show w.heap.size ≤ w.heap.size + 2; omega) (.slice x0 n0 y0))
  have X2 : Hid (Cells w.heap.size #[.slice a0 n0 c0, .slice a1 n1 c1, .slice a2 n2 c2] 50 (w1.setCell ⟨w.heap.size + 2, 0, none⟩ (.slice x0 n0 y0))) := Lib.hid ((Below.heap_setCell _ _ _ _ (by show w.heap.size ≠ w.heap.size + 2; omega)).trans X1.out)
  have Y2 : Hid (Cells (w.heap.size + 1) #[.slice none 0 0, .slice none 0 0, .slice none 0 0] 27 (w1.setCell ⟨w.heap.size + 2, 0, none⟩ (.slice x0 n0 y0))) := Lib.hid ((Below.heap_setCell _ _ _ _ (by show w.heap.size + 1 ≠ w.heap.size + 2; omega)).trans Y1.out)
  have Z2 : Hid (Cells (w.heap.size + 2) #[.slice x0 n0 y0, .slice none 0 0, .slice none 0 0] 27 (w1.setCell ⟨w.heap.size + 2, 0, none⟩ (.slice x0 n0 y0))) := Lib.hid (by
    have hz := Z1.out
    unfold Cells at hz ⊢; simp [World.setCell, Array.getElem?_modify, hz])
  have V0_2 := Lib.hid (V0_1.out.step T (.inr (by omega)))
  have e0 : (w1.setCell ⟨w.heap.size + 2, 0, none⟩ (.slice x0 n0 y0)).heap.size = w1.heap.size := by simp [World.setCell]
  clear T B1 X1 Y1 Z1 V0_1
  have xx := X2.out.at 1
  go_wp2_with fail
  generalize w1.setCell ⟨w.heap.size + 2, 0, none⟩ (.slice x0 n0 y0) = u0W at B2 X2 Y2 Z2 V0_2 e0 xx ⊢
  clear z0 f0 xx
  have u2 : w.heap.size + 3 ≤ u0W.heap.size := by omega
  have xx := X2.out.at 1
  go_wp2_with fail
  refine (exToPrFi a1 n1 c1 t1 _ ((HH.out.next B2.out).2.1) s.2.1 l.2.1).mono ?_
  rintro e w2 ⟨x1, y1, rfl, hh, hb⟩
  have B3 := Lib.hid (B2.out.trans (hb.mono B2.out.size))
  have X3 : Hid (Cells (w.heap.size) #[.slice a0 n0 c0, .slice a1 n1 c1, .slice a2 n2 c2] 50 w2) := Lib.hid ((hb.block _ (by omega)).trans X2.out)
  have Y3 : Hid (Cells (w.heap.size + 1) #[.slice none 0 0, .slice none 0 0, .slice none 0 0] 27 w2) := Lib.hid ((hb.block _ (by omega)).trans Y2.out)
  have Z3 : Hid (Cells (w.heap.size + 2) #[.slice x0 n0 y0, .slice none 0 0, .slice none 0 0] 27 w2) := Lib.hid ((hb.block _ (by omega)).trans Z2.out)
  have V0_3 := Lib.hid (V0_2.out.next hb)
  have V1_3 := Lib.hid hh
  have le1 : u0W.heap.size ≤ w2.heap.size := hb.size
  have u3 : w.heap.size + 3 ≤ w2.heap.size := by omega
  clear hb hh xx B2 X2 Y2 Z2 V0_2
  have z0 := Z3.out.at 1
  have f0 := Z3.out.free 1
  have T : Turn (w.heap.size + 2) (w.heap.size + 3) w2 (w2.setCell ⟨w.heap.size + 2, 1, none⟩ (.slice x1 n1 y1)) := turn_setDk _ _ _ _
  have B4 := Lib.hid (B3.out.setCell (p := ⟨w.heap.size + 2, 1, none⟩) (by show w.heap.size ≤ w.heap.size + 2; omega) (.slice x1 n1 y1))
  have X4 : Hid (Cells w.heap.size #[.slice a0 n0 c0, .slice a1 n1 c1, .slice a2 n2 c2] 50 (w2.setCell ⟨w.heap.size + 2, 1, none⟩ (.slice x1 n1 y1))) := Lib.hid ((Below.heap_setCell _ _ _ _ (by show w.heap.size ≠ w.heap.size + 2; omega)).trans X3.out)
  have Y4 : Hid (Cells (w.heap.size + 1) #[.slice none 0 0, .slice none 0 0, .slice none 0 0] 27 (w2.setCell ⟨w.heap.size + 2, 1, none⟩ (.slice x1 n1 y1))) := Lib.hid ((Below.heap_setCell _ _ _ _ (by show w.heap.size + 1 ≠ w.heap.size + 2; omega)).trans Y3.out)
  have Z4 : Hid (Cells (w.heap.size + 2) #[.slice x0 n0 y0, .slice x1 n1 y1, .slice none 0 0] 27 (w2.setCell ⟨w.heap.size + 2, 1, none⟩ (.slice x1 n1 y1))) := Lib.hid (by
    have hz := Z3.out
    unfold Cells at hz ⊢; simp [World.setCell, Array.getElem?_modify, hz])
  have V0_4 := Lib.hid (V0_3.out.step T (.inr (by omega)))
  have V1_4 := Lib.hid (V1_3.out.step T (.inr (by omega)))
  have e1 : (w2.setCell ⟨w.heap.size + 2, 1, none⟩ (.slice x1 n1 y1)).heap.size = w2.heap.size := by simp [World.setCell]
  clear T B3 X3 Y3 Z3 V0_3 V1_3
  have xx := X4.out.at 2
  go_wp2_with fail
  generalize w2.setCell ⟨w.heap.size + 2, 1, none⟩ (.slice x1 n1 y1) = u1W at B4 X4 Y4 Z4 V0_4 V1_4 e1 xx ⊢
  clear z0 f0 xx
  have u4 : w.heap.size + 3 ≤ u1W.heap.size := by omega
  have xx := X4.out.at 2
  go_wp2_with fail
  refine (exToOp a2 n2 c2 t2 _ ((HH.out.next B4.out).2.2) s.2.2 l.2.2).mono ?_
  rintro e w3 ⟨x2, y2, rfl, hh, hb⟩
  have B5 := Lib.hid (B4.out.trans (hb.mono B4.out.size))
  have X5 : Hid (Cells (w.heap.size) #[.slice a0 n0 c0, .slice a1 n1 c1, .slice a2 n2 c2] 50 w3) := Lib.hid ((hb.block _ (by omega)).trans X4.out)
  have Y5 : Hid (Cells (w.heap.size + 1) #[.slice none 0 0, .slice none 0 0, .slice none 0 0] 27 w3) := Lib.hid ((hb.block _ (by omega)).trans Y4.out)
  have Z5 : Hid (Cells (w.heap.size + 2) #[.slice x0 n0 y0, .slice x1 n1 y1, .slice none 0 0] 27 w3) := Lib.hid ((hb.block _ (by omega)).trans Z4.out)
  have V0_5 := Lib.hid (V0_4.out.next hb)
  have V1_5 := Lib.hid (V1_4.out.next hb)
  have V2_5 := Lib.hid hh
  have le2 : u1W.heap.size ≤ w3.heap.size := hb.size
  have u5 : w.heap.size + 3 ≤ w3.heap.size := by omega
  clear hb hh xx B4 X4 Y4 Z4 V0_4 V1_4
  have z0 := Z5.out.at 2
  have f0 := Z5.out.free 2
  have T : Turn (w.heap.size + 2) (w.heap.size + 3) w3 (w3.setCell ⟨w.heap.size + 2, 2, none⟩ (.slice x2 n2 y2)) := turn_setDk _ _ _ _
  have B6 := Lib.hid (B5.out.setCell (p := ⟨w.heap.size + 2, 2, none⟩) (by show w.heap.size ≤ w.heap.size + 2; omega) (.slice x2 n2 y2))
  have X6 : Hid (Cells w.heap.size #[.slice a0 n0 c0, .slice a1 n1 c1, .slice a2 n2 c2] 50 (w3.setCell ⟨w.heap.size + 2, 2, none⟩ (.slice x2 n2 y2))) := Lib.hid ((Below.heap_setCell _ _ _ _ (by show w.heap.size ≠ w.heap.size + 2; omega)).trans X5.out)
  have Y6 : Hid (Cells (w.heap.size + 1) #[.slice none 0 0, .slice none 0 0, .slice none 0 0] 27 (w3.setCell ⟨w.heap.size + 2, 2, none⟩ (.slice x2 n2 y2))) := Lib.hid ((Below.heap_setCell _ _ _ _ (by show w.heap.size + 1 ≠ w.heap.size + 2; omega)).trans Y5.out)
  have Z6 : Hid (Cells (w.heap.size + 2) #[.slice x0 n0 y0, .slice x1 n1 y1, .slice x2 n2 y2] 27 (w3.setCell ⟨w.heap.size + 2, 2, none⟩ (.slice x2 n2 y2))) := Lib.hid (by
    have hz := Z5.out
    unfold Cells at hz ⊢; simp [World.setCell, Array.getElem?_modify, hz])
  have V0_6 := Lib.hid (V0_5.out.step T (.inr (by omega)))
  have V1_6 := Lib.hid (V1_5.out.step T (.inr (by omega)))
  have V2_6 := Lib.hid (V2_5.out.step T (.inr (by omega)))
  have e2 : (w3.setCell ⟨w.heap.size + 2, 2, none⟩ (.slice x2 n2 y2)).heap.size = w3.heap.size := by simp [World.setCell]
  clear T B5 X5 Y5 Z5 V0_5 V1_5 V2_5
  have g0 := Z6.out.at 0
  have y0' := Y6.out.at 0
  have q0' := Y6.out.free 0
  have g1 := Z6.out.at 1
  have y1' := Y6.out.at 1
  have q1' := Y6.out.free 1
  have g2 := Z6.out.at 2
  have y2' := Y6.out.at 2
  have q2' := Y6.out.free 2
  have hfin : Hid (∀ W : World, W.heap.size = w3.heap.size → (∀ k, w.heap.size + 3 ≤ k → W.heap[k]? = (w3.setCell ⟨w.heap.size + 2, 2, none⟩ (.slice x2 n2 y2)).heap[k]?) → Holds w.heap.size W.heap.size W (OwnDk w.heap.size W.heap.size (.slice x0 n0 y0) (.slice x1 n1 y1) (.slice x2 n2 y2) t0 t1 t2)) := Lib.hid (fun W hs he => by
    have q0 := V0_6.out.lives _ W (fun k h1 _ => he k (by omega)) V0_6.out.now
    have q1 := V1_6.out.lives _ W (fun k h1 _ => he k (by omega)) V1_6.out.now
    have q2 := V2_6.out.lives _ W (fun k h1 _ => he k (by omega)) V2_6.out.now
    refine ⟨ownDk_lives, Nat.le_refl _, ⟨ownP_baseFi q0.1 (by omega), fun j hj => by have := q0.2 j hj; omega⟩, ⟨ownP_baseFi q1.1 (by omega), fun j hj => by have := q1.2 j hj; omega⟩, ⟨ownOp_base q2.1 (by omega), fun j hj => by have := q2.2 j hj; omega⟩, fun j h1 h2 => by have := q0.2 j h1; have := (World.ownsRow.lt q1.1 j h2).1; omega, fun j h1 h2 => by have := q0.2 j h1; have := (World.ownsRow.lt q2.1 j h2).1; omega, fun j h1 h2 => by have := q1.2 j h1; have := (World.ownsRow.lt q2.1 j h2).1; omega⟩)
  have HB := B6
  clear B6 X6 Y6 Z6 V0_6 V1_6 V2_6
  go_wp2_with fail
  refine bodyPost_ret (v := .agg #[.slice x0 n0 y0, .slice x1 n1 y1, .slice x2 n2 y2]) (by simp [results, Try.results26, go_sem, *]) rfl ⟨_, _, _, _, _, _, rfl, hfin.out _ (by simp [World.setCell]) ?_, ?_⟩
  · intro k hk
    repeat rw [Below.heap_setCell _ _ _ _ (by show k ≠ w.heap.size + 1; omega)]
  · exact (((HB.out.setCell (p := ⟨w.heap.size + 1, 0, none⟩) (by show w.heap.size ≤ w.heap.size + 1; omega) _).setCell (p := ⟨w.heap.size + 1, 1, none⟩) (by show w.heap.size ≤ w.heap.size + 1; omega) _).setCell (p := ⟨w.heap.size + 1, 2, none⟩) (by show w.heap.size ≤ w.heap.size + 1; omega) _)
theorem open_fils_one {H : Type} {enc : TypeId × Value → H} {P : Program} {w : World} {base : Nat} {spare : Nat → Bool} {held : Bool} {t e : TypeId} {f0 f1 : Field} {fuel : Nat} {c : Value} {x : DataW H × List MemPlace}
    (ht : P.underlying t = some (.slice e)) (he : P.underlying e = some (.struct #[f0, f1])) (hC : P.cellsOf e = 2)
    (h0 : P.underlying f0.type = some .string ∧ f0.offset = 0 ∧ P.cellsOf f0.type = 1) (h1 : P.underlying f1.type = some .string ∧ f1.offset = 1 ∧ P.cellsOf f1.type = 1)
    (h : DataW.trod enc P w base spare held fuel t [c] = some x) : ∃ a len cap ts, c = .slice a len cap ∧ IsPres w a len cap ts := by
  have h' := h
  rcases Deep.open_slice ht h with ⟨hcs, _⟩ | ⟨x, len', cap', m, n, D, Pl, hcs, _⟩
  · obtain rfl : c = .slice none 0 0 := by simpa using hcs
    obtain ⟨ts, hts⟩ := open_pres ht he hC h0 h1 h'
    exact ⟨_, _, _, ts, rfl, hts⟩
  · obtain rfl : c = .slice (some x) len' cap' := by simpa using hcs
    obtain ⟨ts, hts⟩ := open_pres ht he hC h0 h1 h'
    exact ⟨_, _, _, ts, rfl, hts⟩
theorem Cells.treDk {g : Nat} {x y z : Value} {T : TypeId} {w : World} (h : Cells g #[x, y, z] T w) : w.cell? ⟨g, 0, none⟩ = some x ∧ w.cell? ⟨g, 1, none⟩ = some y ∧ w.cell? ⟨g, 2, none⟩ = some z := ⟨h.at 0, h.at 1, h.at 2⟩
theorem OwnDk.readDk {B C : Nat} {w : World} {a0 a1 a2 : Option Addr} {c0 c1 c2 : Nat} {t0 t1 : List Pre2} {t2 : List OpV} {n0 n1 n2 : Nat} (h : OwnDk B C (.slice a0 n0 c0) (.slice a1 n1 c1) (.slice a2 n2 c2) t0 t1 t2 w) (m : SmAllPrFi t0 ∧ SmAllPrFi t1 ∧ SmAllOp t2) (l : t0.length = n0 ∧ t1.length = n1 ∧ t2.length = n2) : IsDk w a0 a1 a2 n0 n1 n2 c0 c1 c2 t0 t1 t2 :=
  ⟨h.1.read m.1 l.1, h.2.1.read m.2.1 l.2.1, h.2.2.1.read m.2.2 l.2.2⟩
end Go.Proofs.Ytamnlifdfhmbnaa
/- A right disk: the program. -/
namespace Go.Proofs.Ytamnlifdfhmbnaa
open Go.RowKit Go.WideShapes Go.Maps
theorem putFo_len (x : Pre2) : ∀ (ts : List Pre2) (d : Bool), (putFo x d ts).length ≤ ts.length + (if d then 0 else 1)
  | [], d => by cases d <;> simp [putFo]
  | r :: rs, d => by
    have h := putFo_len x rs (d || !lessP r x)
    unfold putFo
    rw [List.length_append, List.length_append, List.length_cons]
    cases d <;> cases hl : lessP r x <;> by_cases e : r.1 = x.1 <;> simp [hl, e] at h ⊢ <;> omega
theorem totF_append (a b : List Pre2) : totF (a ++ b) = totF a + totF b := by unfold totF; rw [List.map_append, List.sum_append]
theorem totF_cons (a : Pre2) (b : List Pre2) : totF (a :: b) = a.2.size + totF b := rfl
theorem putFo_tot (x : Pre2) : ∀ (ts : List Pre2) (d : Bool), totF (putFo x d ts) ≤ totF ts + (if d then 0 else x.2.size)
  | [], d => by cases d <;> simp [putFo, totF]
  | r :: rs, d => by
    have h := putFo_tot x rs (d || !lessP r x)
    unfold putFo
    rw [totF_append, totF_append, totF_cons]
    have h0 : totF ([] : List Pre2) = 0 := rfl
    have h1 : totF [x] = x.2.size := by simp [totF]
    have h2 : totF [r] = r.2.size := by simp [totF]
    cases d <;> cases hl : lessP r x <;> by_cases e : r.1 = x.1 <;> simp only [hl, e, h0, h1, h2, Bool.not_true, Bool.not_false, Bool.and_true, Bool.and_false, Bool.or_true, Bool.or_false, if_true, if_false, Bool.false_eq_true, Nat.zero_add] at h ⊢ <;> omega
theorem cutF_len (ts : List Pre2) (s : ByteArray) : (cutF ts s).length ≤ ts.length := List.length_filter_le _ _
theorem cutF_tot (ts : List Pre2) (s : ByteArray) : totF (cutF ts s) ≤ totF ts := by
  unfold cutF totF
  induction ts with
  | nil => simp
  | cons t ts ih =>
    rw [List.filter_cons]
    split
    · simp only [List.map_cons, List.sum_cons]; omega
    · simp only [List.map_cons, List.sum_cons]; omega
theorem dataAt_tot (ts : List Pre2) (s : ByteArray) : (dataAt ts s).size ≤ totF ts := by
  unfold dataAt
  rcases e : atF ts s with _ | d
  · exact Nat.zero_le _
  · exact totF_mem (atF_mem e)
theorem doF_len (ts : List Pre2) (op : OpV) : (doF ts op).1.length ≤ ts.length + 1 := by
  unfold doF
  split
  · have := putFo_len (op.2.1, dataAt ts op.2.1 ++ op.2.2.2) ts false
    exact this
  · split
    · exact Nat.le_succ _
    · rename_i e he
      simp only
      split
      · have h1 := putFo_len (op.2.2.1, e) (cutF ts op.2.1) false
        have h2 := cutF_len ts op.2.1
        exact Nat.le_trans h1 (by simp only [Bool.false_eq_true, if_false]; omega)
      · have h2 := cutF_len ts op.2.1
        omega
theorem doF_tot (ts : List Pre2) (op : OpV) : totF (doF ts op).1 ≤ totF ts + totF ts + op.2.2.2.size := by
  unfold doF
  split
  · have h1 := putFo_tot (op.2.1, dataAt ts op.2.1 ++ op.2.2.2) ts false
    have h2 := dataAt_tot ts op.2.1
    have h3 : (dataAt ts op.2.1 ++ op.2.2.2).size = (dataAt ts op.2.1).size + op.2.2.2.size := ByteArray.size_append
    simp only [Bool.false_eq_true, if_false] at h1
    show totF (putFo _ false ts) ≤ _
    omega
  · split
    · show totF ts ≤ _
      omega
    · rename_i e he
      have h0 := totF_mem (atF_mem he)
      simp only at h0 ⊢
      split
      · have h1 := putFo_tot (op.2.2.1, e) (cutF ts op.2.1) false
        have h2 := cutF_tot ts op.2.1
        simp only [Bool.false_eq_true, if_false] at h1
        show totF (putFo _ false _) ≤ _
        omega
      · have h2 := cutF_tot ts op.2.1
        omega
theorem codeF_zero {P : List Pre2} {op : OpV} : codeF P op = 0 ↔ (formOk op && ((doF P op).2 && fitsF (doF P op).1)) = true := by
  unfold codeF
  cases h1 : formOk op <;> cases h2 : (doF P op).2 <;> cases h3 : fitsF (doF P op).1 <;> simp
theorem codeF_neq {P : List Pre2} {op : OpV} (h : codeF P op = 0) : playF P [op] = some (doF P op).1 := by rw [playF_one, if_pos (codeF_zero.1 h)]
theorem codeF_none {P : List Pre2} {op : OpV} (h : ¬ codeF P op = 0) : playF P [op] = none := by rw [playF_one, if_neg (fun e => h (codeF_zero.2 e))]
def SmDk (l s : List Pre2) (o : List OpV) : Prop := (∀ t ∈ l, t.1.size + t.2.size ≤ 1048576) ∧ (∀ t ∈ s, t.1.size + t.2.size ≤ 1048576) ∧ (∀ t ∈ o, t.2.1.size + t.2.2.1.size + t.2.2.2.size ≤ 1048576)
set_option maxRecDepth 100000 in
set_option maxHeartbeats 3200000 in
theorem implDiskOk (a0 a1 a2 : Option Addr) (n0 n1 n2 c0 c1 c2 : Nat) (l s : List Pre2) (o : List OpV) (w : World) (h : IsDk w a0 a1 a2 n0 n1 n2 c0 c1 c2 l s o) (hz : SmDk l s o) (hn : n0 ≤ 1048576 ∧ n1 ≤ 1048576 ∧ n2 ≤ 1048576) :
    Calls Try.prog 13 #[.agg #[.slice a0 n0 c0, .slice a1 n1 c1, .slice a2 n2 c2]] w fun e w' => e = .returned (.bool (diskOk l s o)) ∧ Below w.heap.size w w' := by
  have B0 := (Below.refl w.heap.size w).alloc (Nat.le_refl _) (.cells #[.slice a0 n0 c0, .slice a1 n1 c1, .slice a2 n2 c2] 27)
  have X := (cells_new w #[.slice a0 n0 c0, .slice a1 n1 c1, .slice a2 n2 c2] 27)
  have HO := Lib.hid h.2.2.len
  have H := Lib.hid h
  have HZ := Lib.hid hz
  obtain ⟨hn0, hn1, hn2⟩ := hn
  have FK := implFilesOk a1 n1 c1 s _ (h.next B0).2.1 hn1 (fun t ht => by have := hz.2.1 t ht; omega)
  have x1 := X.now.at 1
  have x2 := X.now.at 2
  have HX := Lib.hid X
  have HB := Lib.hid B0
  clear h hz X B0
  cases q : filesOk s
  · rw [q] at FK
    have FK1 := Lib.hid FK
    have HR : Hid (diskOk l s o = false) := Lib.hid (by unfold diskOk; rw [q]; rfl)
    clear FK q
    go_enter Try.func13, Try.ntmps13
    go_wp2_with fail
    refine FK1.out.mono ?_
    rintro e w1 ⟨rfl, hb1⟩
    have B1 := HB.out.trans (hb1.mono HB.out.size)
    clear hb1
    go_wp2_with fail
    go_ret
    exact ⟨by rw [HR.out]; rfl, B1⟩
  rw [q] at FK
  have FK1 := Lib.hid FK
  have HQ := Lib.hid q
  clear FK q
  by_cases g : 200 < n2
  · have g1 : (200 : Int) < (n2 : Int) := by omega
    have HR : Hid (diskOk l s o = false) := Lib.hid (by unfold diskOk; rw [decide_eq_false (p := o.length ≤ 200) (by rw [HO.out]; omega), Bool.false_and, Bool.and_false])
    go_enter Try.func13, Try.ntmps13
    go_wp2_with fail
    refine FK1.out.mono ?_
    rintro e w1 ⟨rfl, hb1⟩
    have B1 := HB.out.trans (hb1.mono HB.out.size)
    have X1 := HX.out.next hb1
    have y2 := X1.now.at 2
    clear hb1 HX X1 x1 x2
    go_wp2_with fail
    go_ret
    exact ⟨by rw [HR.out]; rfl, B1⟩
  have g1 : ¬ (200 : Int) < (n2 : Int) := by omega
  obtain ⟨hs1, hs2, hs3⟩ := filesOk_iff.1 HQ.out
  have HRI := Lib.hid hs1
  have HL60 := Lib.hid (fitsF_iff.1 hs3).1
  clear hs1 hs2 hs3
  go_enter Try.func13, Try.ntmps13
  go_wp2_with fail
  refine FK1.out.mono ?_
  rintro e w1 ⟨rfl, hb1⟩
  have B1 := Lib.hid (HB.out.trans (hb1.mono HB.out.size))
  have X1 := HX.out.next hb1
  have y1 := X1.now.at 1
  have y2 := X1.now.at 2
  have FO := Lib.hid (implFolderOf a1 n1 c1 s w1 (H.out.next B1.out).2.1 HRI.out hn1)
  have X1H := Lib.hid X1
  have hwb : w.heap.size < w1.heap.size := X1.le
  clear hb1 HX X1 HB x1 x2
  go_wp2_with fail
  refine FO.out.mono ?_
  rintro e w2 ⟨b, nn, kvs0, rfl, ⟨M2, F2⟩, hnn, hbb, nb2⟩
  have B2 := Lib.hid (B1.out.trans (nb2.mono B1.out.size))
  have X2 := Lib.hid (X1H.out.next nb2).now
  have z2 := X2.out.at 2
  have hnn2 : nn ≤ 60 := by have := HL60.out; omega
  have HS : Hid (∃ kvs P, (OwnMapD w2 b (nn + 0) kvs ∧ FolIs w1.heap.size (1 + 0) w2 kvs P) ∧ playF s (o.take 0) = some P ∧ filesOk P = true) := Lib.hid ⟨kvs0, s, ⟨M2, F2⟩, rfl, HQ.out⟩
  have hB1 := B1.out.size
  clear nb2 FO X1H M2 F2 B1 hnn y1 y2
  go_wp2_with fail
  go_loopw [22] (fun i wr => ∃ k : Nat, k ≤ n2 ∧ i = .int .i64 k ∧ Hid (∃ kvs P, (OwnMapD wr b (nn + k) kvs ∧ FolIs w1.heap.size (1 + k) wr kvs P) ∧ playF s (o.take k) = some P ∧ filesOk P = true) ∧ Hid (Cells w.heap.size #[.slice a0 n0 c0, .slice a1 n1 c1, .slice a2 n2 c2] 27 wr) ∧ Below w.heap.size w wr) (fun i _ => n2 - (intOf i).toNat)
  case atStart => exact ⟨0, Nat.zero_le _, rfl, HS, X2, B2.out⟩
  case round =>
    obtain ⟨k, hk, rfl, HK, HC, hnx⟩ := hrel
    clear HS X2 B2 z2
    have hk6 : (0 : Int) ≤ (k : Int) := by omega
    have y0 := HC.out.at 0
    obtain ⟨kvs, P, ⟨M, Fl⟩, hpl, hpo⟩ := HK.out
    by_cases hlt : k < n2
    · have hk7 : (k : Int) < (n2 : Int) := by omega
      obtain ⟨g, off, rfl, hgb, _, _, hts, hc⟩ := (H.out.next hnx).2.2.cells (by omega)
      have ht : o[k]? = some (o[k]'(by omega)) := List.getElem?_eq_getElem _
      have HT : Hid (o.take (k + 1) = o.take k ++ [o[k]'(by omega)]) := Lib.hid (List.take_succ_eq_append_getElem (by omega))
      have hzo := HZ.out.2.2 _ (List.mem_of_getElem? ht)
      obtain ⟨d0, d1, d2, d3, m1, m2, m3⟩ := hc k _ ht
      generalize o[k]'(by omega) = op at ht HT d0 d1 d2 d3 m1 m2 hzo
      obtain ⟨r, s', t, d⟩ := op
      simp only at d0 d1 d2 d3 m1 m2 hzo
      clear hts hc m3 ht
      have hPo := filesOk_iff.1 hpo
      have hPf := fitsF_iff.1 hPo.2.2
      have hl2 := doF_len P (r, s', t, d)
      have hz2 := doF_tot P (r, s', t, d)
      simp only at hz2
      have BW := (Below.refl wr.heap.size wr).alloc (Nat.le_refl _) (.cells #[.int .i64 r, .string s', .string t, .string d] 36)
      have XO := cells_new wr #[.int .i64 r, .string s', .string t, .string d] 36
      have v0 := XO.now.at 0
      have v1 := XO.now.at 1
      have v2 := XO.now.at 2
      have v3 := XO.now.at 3
      have HB1 : w1.heap.size ≤ wr.heap.size := by
        have := M.lt; omega
      have DO := Lib.hid (implDo (r, s', t, d) m1 m2 w1.heap.size (1 + k) b (nn + k) kvs P _ (M.next BW) (Fl.next BW) hPo.1 hbb (by omega) (by omega) (by omega) (by omega))
      have HCL : Hid (codeF P (r, s', t, d) = 0 → playF s (o.take (k + 1)) = some (doF P (r, s', t, d)).1 ∧ filesOk (doF P (r, s', t, d)).1 = true) := Lib.hid (fun h => by
        have e := codeF_zero.1 h
        rw [Bool.and_eq_true, Bool.and_eq_true] at e
        exact ⟨by rw [HT.out, playF_snoc, hpl]; exact codeF_neq h, by rw [filesOk_do hpo e.1]; exact e.2.2⟩)
      have HCN : Hid (¬ codeF P (r, s', t, d) = 0 → diskOk l s o = false) := Lib.hid (fun h => by
        have e : playF s o = none := playF_none (k := k + 1) (by rw [HT.out, playF_snoc, hpl]; exact codeF_none h)
        unfold diskOk
        rw [e, decide_eq_false (p := (none : Option (List Pre2)) = some l) (by simp), Bool.and_false, Bool.and_false])
      have NB := Lib.hid (hnx.trans (BW.mono hnx.size))
      have CB := Lib.hid ((BW.block _ (by omega)).trans HC.out)
      clear HK HC hpl hpo M Fl hPo hPf hl2 hz2 XO BW hnx HT hzo
      go_wp2_with fail
      refine DO.out.mono ?_
      rintro e w3 ⟨rfl, hb3, hgo⟩
      have N3 := NB.out.trans (hb3.mono hB1)
      have C3 := Lib.hid ((hb3.block _ hwb).trans CB.out)
      have HG := Lib.hid hgo
      obtain ⟨cd, hcd⟩ : ∃ cd, codeF P (r, s', t, d) = cd := ⟨_, rfl⟩
      rw [hcd] at HG HCL HCN ⊢
      clear hgo hb3 DO NB CB hcd v0 v1 v2 v3
      by_cases gc : cd = 0
      · subst gc
        obtain ⟨kvs3, M3, F3⟩ := HG.out rfl
        obtain ⟨p1, p2⟩ := HCL.out rfl
        have HK3 : Hid (∃ kvs P, (OwnMapD w3 b (nn + (k + 1)) kvs ∧ FolIs w1.heap.size (1 + (k + 1)) w3 kvs P) ∧ playF s (o.take (k + 1)) = some P ∧ filesOk P = true) := Lib.hid ⟨kvs3, _, ⟨M3, F3⟩, p1, p2⟩
        clear HG HCL HCN M3 F3 p1 p2
        go_wp2_with fail
        go_roundw
        case rel => exact ⟨k + 1, by omega, by go_num, HK3, C3, N3⟩
        case measure => simp [intOf]; omega
      · have HR := Lib.hid (HCN.out gc)
        have gb : (cd == 0) = false := by rw [beq_eq_false_iff_ne]; exact gc
        have gn : (cd != 0) = true := by rw [bne_iff_ne]; exact gc
        clear HG HCL HCN
        go_wp2_with fail
        go_ret
        exact ⟨by rw [HR.out]; rfl, N3⟩
    · obtain rfl : k = n2 := by omega
      have hPo := filesOk_iff.1 hpo
      have hpl2 : playF s o = some P := by rw [List.take_of_length_le (by rw [HO.out]; exact Nat.le_refl _)] at hpl; exact hpl
      have HR : Hid (diskOk l s o = decide (P = l)) := Lib.hid (by
        unfold diskOk
        rw [HQ.out, decide_eq_true (p := o.length ≤ 200) (by rw [HO.out]; omega), hpl2, Bool.true_and, Bool.true_and]
        simp)
      have FS := Lib.hid (fun W (hW : Below wr.heap.size wr W) => implFiles w1.heap.size (1 + k) b (nn + k) kvs P W (M.next hW) (Fl.next hW) hPo.1 hPo.2.2 (by omega) (fun r hr => by have := hPo.2.1 r hr; unfold nmOk at this; simp only [Bool.and_eq_true, decide_eq_true_eq] at this; unfold maxLen; omega))
      have hPl := (fitsF_iff.1 hPo.2.2).1
      have HSM : Hid (SmAllPrFi P) := Lib.hid (fun r hr => by
        have h1 := hPo.2.1 r hr
        have h2 := totF_mem hr
        have h3 := (fitsF_iff.1 hPo.2.2).2
        unfold nmOk at h1
        simp only [Bool.and_eq_true, decide_eq_true_eq] at h1
        unfold maxLen
        omega)
      have HH := Lib.hid (H.out.next hnx).1
      clear HK hpl hpo M Fl hPo hpl2
      go_wp2_with fail
      go_region_held3 (fun w' => w'.cell? ⟨w.heap.size, 0, none⟩ = some (.slice a0 n0 c0))
        (first | go_keep | (rw [hbf.cell (by first | (simp; done) | exact World.block_lt_of_cell? _ _ (by assumption))]; assumption) | (rw [hbe.cell (by first | (simp; done) | exact World.block_lt_of_cell? _ _ (by assumption))]; assumption))
        (first
          | (go_at_call 44; refine (FS.out _ ((Below.refl _ _).drew)).mono ?_; rintro e wf ⟨v, rfl, ov, hbf⟩; obtain ⟨va, vc, rfl, iv⟩ := ov.is HSM.out)
          | (go_at_call 43; refine (implEqF _ _ _ _ _ _ P l _ iv (IsPres.nextFi HH.out ((Below.refl wr.heap.size wr).drew.trans (hbf.mono (by first | exact Nat.le_refl _ | simp)))) (by omega) (by omega)).mono ?_; rintro e we ⟨rfl, hbe⟩))
      have N4 := (hnx.drew.trans (hbf.mono (by have := hnx.size; first | exact this | (simp; omega))))
      have N5 := N4.trans (hbe.mono N4.size)
      clear hbf hbe N4 ov iv
      go_wp2_with fail
      go_ret
      exact ⟨by rw [HR.out]; rfl, N5⟩
end Go.Proofs.Ytamnlifdfhmbnaa
/- A right disk: the specification. -/
namespace Go.Proofs.Ytamnlifdfhmbnaa
open Go.RowKit Go.WideShapes
theorem doF_from {P : List Pre2} {op : OpV} {q : Pre2} (h : q ∈ (doF P op).1) : q.1 = op.2.1 ∨ q.1 = op.2.2.1 ∨ ∃ r ∈ P, r.1 = q.1 := by
  unfold doF at h
  split at h
  · rcases putF_mem.1 h with rfl | ⟨h, _⟩
    · exact .inl rfl
    · exact .inr (.inr ⟨q, h, rfl⟩)
  · split at h
    · exact .inr (.inr ⟨q, h, rfl⟩)
    · simp only at h
      split at h
      · rcases putF_mem.1 h with rfl | ⟨h, _⟩
        · exact .inr (.inl rfl)
        · exact .inr (.inr ⟨q, (cutF_mem.1 h).1, rfl⟩)
      · exact .inr (.inr ⟨q, (cutF_mem.1 h).1, rfl⟩)
theorem doF_small {P : List Pre2} {op : OpV} (hP : ∀ r ∈ P, r.1.size ≤ maxLen) (h1 : op.2.1.size ≤ maxLen) (h2 : op.2.2.1.size ≤ maxLen) (hT : totF (doF P op).1 ≤ maxLen) : SmAllPrFi (doF P op).1 := fun q hq => by
  refine ⟨?_, Nat.le_trans (totF_mem hq) hT⟩
  rcases doF_from hq with e | e | ⟨r, hr, e⟩
  · rw [e]; exact h1
  · rw [e]; exact h2
  · rw [← e]; exact hP r hr
theorem filesOk_name {P : List Pre2} (h : filesOk P = true) : ∀ r ∈ P, r.1.size ≤ 100 := fun r hr => by
  have := (filesOk_iff.1 h).2.1 r hr
  unfold nmOk at this
  simp only [Bool.and_eq_true, decide_eq_true_eq] at this
  exact this.2
theorem play_step {s P : List Pre2} {o : List OpV} {op : OpV} {k : Nat} (hT : o.take (k + 1) = o.take k ++ [op]) (hp : playF s (o.take k) = some P) (hf : filesOk P = true) :
    ((doF P op).2 = true → formOk op = true → filesOk (doF P op).1 = true → playF s (o.take (k + 1)) = some (doF P op).1) ∧ (¬ ((doF P op).2 = true ∧ formOk op = true ∧ filesOk (doF P op).1 = true) → ∀ l, diskOk l s o = false) := by
  have e1 : playF s (o.take (k + 1)) = playF P [op] := by rw [hT, playF_snoc, hp]; rfl
  refine ⟨fun h1 h2 h3 => ?_, fun h l => ?_⟩
  · rw [e1, playF_one, if_pos (by rw [h2, h1, ← filesOk_do hf h2, h3]; rfl)]
  · have e2 : playF P [op] = none := by
      rw [playF_one, if_neg]
      intro g
      rw [Bool.and_eq_true, Bool.and_eq_true] at g
      exact h ⟨g.2.1, g.1, by rw [filesOk_do hf g.1]; exact g.2.2⟩
    have e3 : playF s o = none := playF_none (k := k + 1) (e1.trans e2)
    unfold diskOk
    rw [e3, decide_eq_false (p := (none : Option (List Pre2)) = some l) (by simp), Bool.and_false, Bool.and_false]
set_option maxRecDepth 100000 in
set_option maxHeartbeats 3200000 in
theorem specDiskOk (a0 a1 a2 : Option Addr) (n0 n1 n2 c0 c1 c2 : Nat) (l s : List Pre2) (o : List OpV) (w : World) (h : IsDk w a0 a1 a2 n0 n1 n2 c0 c1 c2 l s o) (hz : SmDk l s o) (hn : n0 ≤ 1048576 ∧ n1 ≤ 1048576 ∧ n2 ≤ 1048576) :
    Calls Try.prog 14 #[.agg #[.slice a0 n0 c0, .slice a1 n1 c1, .slice a2 n2 c2]] w fun e w' => e = .returned (.bool (diskOk l s o)) ∧ Below w.heap.size w w' := by
  obtain ⟨bv, hbv⟩ : ∃ x, diskOk l s o = x := ⟨_, rfl⟩
  rw [hbv]
  have HBV := Lib.hid hbv
  have B0 := (Below.refl w.heap.size w).alloc (Nat.le_refl _) (.cells #[.slice a0 n0 c0, .slice a1 n1 c1, .slice a2 n2 c2] 27)
  have X := (cells_new w #[.slice a0 n0 c0, .slice a1 n1 c1, .slice a2 n2 c2] 27)
  have HO := Lib.hid h.2.2.len
  have H := Lib.hid h
  have HZ := Lib.hid hz
  obtain ⟨hn0, hn1, hn2⟩ := hn
  have FL := specFiles a0 n0 c0 l _ (h.next B0).1 (fun t ht => by have := hz.1 t ht; omega)
  have FS := Lib.hid (fun W (hW : Below w.heap.size w W) => specFiles a1 n1 c1 s W (h.next hW).2.1 (fun t ht => by have := hz.2.1 t ht; omega))
  have x0 := X.now.at 0
  have x1 := X.now.at 1
  have x2 := X.now.at 2
  have HX := Lib.hid X
  have HB := Lib.hid B0
  clear h hz X B0 hbv
  cases ql : filesOk l
  · rw [ql] at FL
    have FL1 := Lib.hid FL
    have HR : Hid (bv = false) := Lib.hid (by
      rw [← HBV.out]
      cases e : diskOk l s o
      · rfl
      · rw [(diskOk_parts e).2.2.2] at ql; cases ql)
    clear FL ql FS
    go_enter Try.func14, Try.ntmps14
    go_wp2_with fail
    refine FL1.out.mono ?_
    rintro e w1 ⟨rfl, hb1⟩
    have B1 := HB.out.trans (hb1.mono HB.out.size)
    clear hb1
    go_wp2_with fail
    go_ret
    exact ⟨by rw [HR.out]; rfl, B1⟩
  rw [ql] at FL
  have FL1 := Lib.hid FL
  clear FL ql
  cases qs : filesOk s
  · have HR : Hid (bv = false) := Lib.hid (by rw [← HBV.out]; unfold diskOk; rw [qs]; rfl)
    rw [qs] at FS
    clear qs
    go_enter Try.func14, Try.ntmps14
    go_wp2_with fail
    refine FL1.out.mono ?_
    rintro e w1 ⟨rfl, hb1⟩
    have B1 := HB.out.trans (hb1.mono HB.out.size)
    have y1 := (HX.out.next hb1).now.at 1
    clear hb1
    go_wp2_with fail
    refine (FS.out _ B1).mono ?_
    rintro e w2 ⟨rfl, hb2⟩
    have B2 := B1.trans (hb2.mono B1.size)
    clear hb2
    go_wp2_with fail
    go_ret
    exact ⟨by rw [HR.out]; rfl, B2⟩
  have HQ := Lib.hid qs
  rw [qs] at FS
  clear qs
  by_cases g : 200 < n2
  · have g1 : (200 : Int) < (n2 : Int) := by omega
    have HR : Hid (bv = false) := Lib.hid (by rw [← HBV.out]; unfold diskOk; rw [decide_eq_false (p := o.length ≤ 200) (by rw [HO.out]; omega), Bool.false_and, Bool.and_false])
    go_enter Try.func14, Try.ntmps14
    go_wp2_with fail
    refine FL1.out.mono ?_
    rintro e w1 ⟨rfl, hb1⟩
    have B1 := HB.out.trans (hb1.mono HB.out.size)
    have X1 := HX.out.next hb1
    have y1 := X1.now.at 1
    clear hb1
    go_wp2_with fail
    refine (FS.out _ B1).mono ?_
    rintro e w2 ⟨rfl, hb2⟩
    have B2 := B1.trans (hb2.mono B1.size)
    have X2 := X1.next hb2
    have y2 := X2.now.at 2
    clear hb2 X1 X2 HX x0 x1 x2 y1
    go_wp2_with fail
    go_ret
    exact ⟨by rw [HR.out]; rfl, B2⟩
  have g1 : ¬ (200 : Int) < (n2 : Int) := by omega
  go_enter Try.func14, Try.ntmps14
  go_wp2_with fail
  refine FL1.out.mono ?_
  rintro e w1 ⟨rfl, hb1⟩
  have B1 := HB.out.trans (hb1.mono HB.out.size)
  have X1 := HX.out.next hb1
  have y1 := X1.now.at 1
  clear hb1
  go_wp2_with fail
  refine (FS.out _ B1).mono ?_
  rintro e w2 ⟨rfl, hb2⟩
  have B2 := B1.trans (hb2.mono B1.size)
  have X2 := X1.next hb2
  have z1 := X2.now.at 1
  have z2 := X2.now.at 2
  have XC := Lib.hid X2.now
  have HS : Hid (∃ P, IsPres w2 a1 n1 c1 P ∧ playF s (o.take 0) = some P ∧ filesOk P = true) := Lib.hid ⟨s, (H.out.next B2).2.1, rfl, HQ.out⟩
  clear hb2 X1 X2 HX x0 x1 x2 y1 B1 FL1 FS HB
  go_wp2_with fail
  go_loopw [3, 4] (fun nv i wr => ∃ (k : Nat) (na : Option Addr) (nn nc : Nat), k ≤ n2 ∧ i = .int .i64 k ∧ nv = .slice na nn nc ∧ Hid (∃ P, IsPres wr na nn nc P ∧ playF s (o.take k) = some P ∧ filesOk P = true) ∧ Hid (Cells w.heap.size #[.slice a0 n0 c0, .slice a1 n1 c1, .slice a2 n2 c2] 27 wr) ∧ Below w.heap.size w wr) (fun _ i _ => n2 - (intOf i).toNat)
  case atStart => exact ⟨0, _, _, _, Nat.zero_le _, rfl, rfl, HS, XC, B2⟩
  case round =>
    clear HS XC B2 z1 z2
    obtain ⟨k, na, nn, nc, hk, rfl, rfl, HK, HC, hnx⟩ := hrel
    have hk6 : (0 : Int) ≤ (k : Int) := by omega
    have y0 := HC.out.at 0
    have y2 := HC.out.at 2
    obtain ⟨P, iP, hpl, hpo⟩ := HK.out
    have hPo := filesOk_iff.1 hpo
    have hPf := fitsF_iff.1 hPo.2.2
    have hnn := iP.len
    have hwlt : w.heap.size < wr.heap.size := by
      have hcc := HC.out
      rcases Nat.lt_or_ge w.heap.size wr.heap.size with z | z
      · exact z
      · unfold Cells at hcc; rw [Array.getElem?_eq_none z] at hcc; cases hcc
    by_cases hlt : k < n2
    · have hk7 : (k : Int) < (n2 : Int) := by omega
      obtain ⟨g, off, rfl, hgb, _, _, hts, hc⟩ := H.out.2.2.cells (by omega)
      have ht : o[k]? = some (o[k]'(by omega)) := List.getElem?_eq_getElem _
      have hTT : o.take (k + 1) = o.take k ++ [o[k]'(by omega)] := List.take_succ_eq_append_getElem (by omega)
      have hzo := HZ.out.2.2 _ (List.mem_of_getElem? ht)
      obtain ⟨d0, d1, d2, d3, m1, m2, m3⟩ := hc k _ ht
      generalize o[k]'(by omega) = op at ht hTT d0 d1 d2 d3 m1 m2 hzo
      have HST := Lib.hid (play_step hTT hpl hpo)
      have hl2 := doF_len P op
      have hz2 := doF_tot P op
      have hda := dataAt_tot P op.2.1
      obtain ⟨r, s', t, d⟩ := op
      simp only at d0 d1 d2 d3 m1 m2 hzo hz2 hda
      have HSM : Hid (SmAllPrFi (doF P (r, s', t, d)).1) := Lib.hid (doF_small (fun q hq => by have := filesOk_name hpo q hq; unfold maxLen; omega) m1 m2 (by unfold maxLen; omega))
      have HTOT : Hid (totF (doF P (r, s', t, d)).1 ≤ 2000000) := Lib.hid (by omega)
      have CO : Hid (∀ W, Below w.heap.size w W → (W.cell? ⟨g, off + k * 4, none⟩ = some (.int .i64 r) ∧ W.cell? ⟨g, off + k * 4 + 1, none⟩ = some (.string s')) ∧ (W.cell? ⟨g, off + k * 4 + 2, none⟩ = some (.string t) ∧ W.cell? ⟨g, off + k * 4 + 3, none⟩ = some (.string d))) := Lib.hid (fun W hW => ⟨⟨(hW.cell (p := ⟨g, _, none⟩) hgb).trans d0, (hW.cell (p := ⟨g, _, none⟩) hgb).trans d1⟩, (hW.cell (p := ⟨g, _, none⟩) hgb).trans d2, (hW.cell (p := ⟨g, _, none⟩) hgb).trans d3⟩)
      obtain ⟨⟨e0, e1⟩, e2, e3⟩ := CO.out wr hnx
      have SD := Lib.hid (specDo na nn nc P (r, s', t, d) wr iP (by omega) hPo.1 (by simp only; omega))
      have FM := Lib.hid (specForm r s' t d m1 m2)
      clear HK hpl hpo iP hPo hPf hts hc ht hTT d0 d1 d2 d3 m1 m2 m3 hzo hl2 hz2 hda hnn
      go_wp2_with fail
      refine SD.out.mono ?_
      rintro e w3 ⟨v, rfl, ov, hb3⟩
      have N3 := hnx.trans (hb3.mono hnx.size)
      have C3 := Lib.hid ((hb3.block _ hwlt).trans HC.out)
      have OV := Lib.hid ov
      clear hb3 ov SD HC hnx e0 e1 e2 e3 y0 y2
      have y2 := Cells.at C3.out 2
      obtain ⟨⟨e0, e1⟩, e2, e3⟩ := CO.out w3 N3
      have hw3 : w.heap.size < w3.heap.size := by
        have hcc := C3.out
        rcases Nat.lt_or_ge w.heap.size w3.heap.size with z | z
        · exact z
        · unfold Cells at hcc; rw [Array.getElem?_eq_none z] at hcc; cases hcc
      cases qd : (doF P (r, s', t, d)).2
      · have HR : Hid (bv = false) := Lib.hid (by rw [← HBV.out]; exact HST.out.2 (fun h => by rw [h.1] at qd; cases qd) l)
        clear qd
        go_wp2_with fail
        go_ret
        exact ⟨by rw [HR.out]; rfl, N3⟩
      cases qf : formOk (r, s', t, d)
      · have HR : Hid (bv = false) := Lib.hid (by rw [← HBV.out]; exact HST.out.2 (fun h => by rw [h.2.1] at qf; cases qf) l)
        rw [qf] at FM
        clear qd qf
        go_wp2_with fail
        refine (FM.out _).mono ?_
        rintro e w4 ⟨rfl, hb4⟩
        have N4 := N3.trans (hb4.mono N3.size)
        clear hb4
        go_wp2_with fail
        go_ret
        exact ⟨by rw [HR.out]; rfl, N4⟩
      rw [qf] at FM
      obtain ⟨va, vc, rfl, iv⟩ := OV.out.is HSM.out
      have FX := Lib.hid (fun W (hW : Below w3.heap.size w3 W) => specFiles va _ vc (doF P (r, s', t, d)).1 W (iv.nextFi hW) (fun q hq => by have := totF_mem hq; have := HTOT.out; omega))
      have IV := Lib.hid iv
      obtain ⟨LL, hLL⟩ : ∃ LL, (doF P (r, s', t, d)).1.length = LL := ⟨_, rfl⟩
      rw [hLL] at FX IV ⊢
      cases qx : filesOk (doF P (r, s', t, d)).1
      · have HR : Hid (bv = false) := Lib.hid (by rw [← HBV.out]; exact HST.out.2 (fun h => by rw [h.2.2] at qx; cases qx) l)
        rw [qx] at FX
        clear qd qf qx iv OV hLL
        go_wp2_with fail
        refine (FM.out _).mono ?_
        rintro e w4 ⟨rfl, hb4⟩
        have N4 := N3.trans (hb4.mono N3.size)
        go_wp2_with fail
        refine (FX.out _ hb4).mono ?_
        rintro e w5 ⟨rfl, hb5⟩
        have N5 := N4.trans (hb5.mono N4.size)
        clear hb4 hb5
        go_wp2_with fail
        go_ret
        exact ⟨by rw [HR.out]; rfl, N5⟩
      · have HPL := Lib.hid (HST.out.1 qd qf qx)
        have HQX := Lib.hid qx
        rw [qx] at FX
        clear qd qf qx iv OV hLL HST
        go_wp2_with fail
        refine (FM.out _).mono ?_
        rintro e w4 ⟨rfl, hb4⟩
        have N4 := N3.trans (hb4.mono N3.size)
        have C4 := Lib.hid ((hb4.block _ hw3).trans C3.out)
        go_wp2_with fail
        refine (FX.out _ hb4).mono ?_
        rintro e w5 ⟨rfl, hb5⟩
        have N5 := N4.trans (hb5.mono N4.size)
        have C5 := Lib.hid ((hb5.block _ (Nat.lt_of_lt_of_le hw3 hb4.size)).trans C4.out)
        have HK5 : Hid (∃ P, IsPres w5 va LL vc P ∧ playF s (o.take (k + 1)) = some P ∧ filesOk P = true) := Lib.hid ⟨_, (IV.out.nextFi hb4).nextFi hb5, HPL.out, HQX.out⟩
        clear hb4 hb5 FX FM HPL HQX IV
        go_wp2_with fail
        go_roundw
        case rel => exact ⟨k + 1, va, LL, vc, by omega, by go_num, rfl, HK5, C5, N5⟩
        case measure => simp [intOf]; omega
    · obtain rfl : k = n2 := by omega
      have hpl2 : playF s o = some P := by rw [List.take_of_length_le (by rw [HO.out]; exact Nat.le_refl _)] at hpl; exact hpl
      have HR : Hid (bv = decide (P = l)) := Lib.hid (by
        rw [← HBV.out]
        unfold diskOk
        rw [HQ.out, decide_eq_true (p := o.length ≤ 200) (by rw [HO.out]; omega), hpl2, Bool.true_and, Bool.true_and]
        simp)
      have SM := Lib.hid (specSameF na a0 nn nc n0 c0 P l wr iP (IsPres.nextFi H.out.1 hnx) (by omega) (by omega))
      clear HK hpl hpo iP hPo hPf hpl2 hnn
      go_wp2_with fail
      refine SM.out.mono ?_
      rintro e w3 ⟨rfl, hb3⟩
      have N3 := hnx.trans (hb3.mono hnx.size)
      clear hb3
      go_wp2_with fail
      go_ret
      exact ⟨by rw [HR.out]; rfl, N3⟩
end Go.Proofs.Ytamnlifdfhmbnaa
