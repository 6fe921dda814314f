/- A slice of texts that came in: what its cells hold. -/
import Derived.Test.YtiajdnhmjdfeeaaGreatG11
import Derived.Test.YtiajdnhmjdfeeaaGreatG12
import Derived.Test.YtiajdnhmjdfeeaaGreatG10
import Derived.Test.YtiajdnhmjdfeeaaGreatG14
namespace Go.Proofs.YtiajdnhmjdfeeaaGreat
open Go.ChangeShapes Go.WideShapes Go.ChangeAt Go.RowKit
def StrAt (w : World) (x : Addr) (i : Nat) (t : ByteArray) : Prop := w.cell? (x.add i) = some (.string t) ∧ t.size ≤ maxLen
theorem open_strs {H : Type} {enc : TypeId × Value → H} {P : Program} {w : World} {base : Nat} {spare : Nat → Bool} {held : Bool} {t e : TypeId} {fuel : Nat} {a : Option Addr} {len cap : Nat} {x : DataW H × List MemPlace}
    (ht : P.underlying t = some (.slice e)) (hC : P.cellsOf e = 1) (he : P.underlying e = some .string)
    (h : DataW.trod enc P w base spare held fuel t [.slice a len cap] = some x) : ∃ ts, IsStrs w a len cap ts ∧ ∀ t ∈ ts, t.size ≤ maxLen := by
  rcases Deep.open_slice ht h with ⟨hcs, _⟩ | ⟨x, len', cap', m, n, D, Pl, hcs, _, hl, hm, hmm, _, hi⟩
  · simp only [List.cons.injEq, Value.slice.injEq, and_true] at hcs
    exact ⟨[], .inl ⟨hcs.1, hcs.2.1, hcs.2.2, rfl⟩, by simp⟩
  · simp only [List.cons.injEq, Value.slice.injEq, and_true] at hcs
    obtain ⟨rfl, rfl, rfl⟩ := hcs
    have hlm : len ≤ m := by rw [hmm]; split <;> omega
    obtain ⟨ts, hts, hq⟩ := list_of (Q := StrAt w x) len fun i hil => by
      obtain ⟨cs, hc, htr⟩ := hi i (by omega)
      rw [hC] at hc
      obtain ⟨_, hcl, hat⟩ := World.cells?_some hc
      match cs, hcl with
      | [v], _ =>
        obtain ⟨s, hs, _, hsz⟩ := DataW.trod_string he htr
        have := hat 0 (by omega)
        rw [Deep.add_add, Nat.mul_one, Nat.add_zero] at this
        simp only [List.cons.injEq, and_true] at hs
        subst hs
        exact ⟨s, this.trans rfl, hsz⟩
    refine ⟨ts, .inr ⟨x, rfl, hl, hm, hts, fun i t hi => (hq i t hi).1⟩, fun t ht => ?_⟩
    obtain ⟨i, hi⟩ := List.mem_iff_getElem?.1 ht
    exact (hq i t hi).2
end Go.Proofs.YtiajdnhmjdfeeaaGreat
/- The exact laws' steps at slices of texts, told by where things lie. -/
namespace Go.Proofs.YtiajdnhmjdfeeaaGreat
open Go.ChangeShapes Go.WideShapes Go.ChangeAt Go.RowKit
theorem turn_set (w : World) (g i : Nat) (v : Value) : Turn g (g + 1) w (w.setCell ⟨g, i, none⟩ v) := ⟨rfl, rfl, rfl, by simp [World.setCell], fun k _ hd => Below.heap_setCell _ _ _ _ (by show k ≠ g; omega)⟩
theorem open_strs_one {H : Type} {enc : TypeId × Value → H} {P : Program} {w : World} {base : Nat} {spare : Nat → Bool} {held : Bool} {t e : TypeId} {fuel : Nat} {c : Value} {x : DataW H × List MemPlace}
    (ht : P.underlying t = some (.slice e)) (hC : P.cellsOf e = 1) (he : P.underlying e = some .string)
    (h : DataW.trod enc P w base spare held fuel t [c] = some x) : ∃ a len cap ts, c = .slice a len cap ∧ IsStrs w a len cap ts ∧ ∀ t ∈ ts, t.size ≤ maxLen := by
  have h' := h
  rcases Deep.open_slice ht h with ⟨hcs, _⟩ | ⟨x, len', cap', m, n, D, Pl, hcs, _⟩
  · obtain rfl : c = .slice none 0 0 := by simpa using hcs
    obtain ⟨ts, hts⟩ := open_strs ht hC he h'
    exact ⟨_, _, _, ts, rfl, hts⟩
  · obtain rfl : c = .slice (some x) len' cap' := by simpa using hcs
    obtain ⟨ts, hts⟩ := open_strs ht hC he h'
    exact ⟨_, _, _, ts, rfl, hts⟩
theorem open_tris_q {H : Type} {enc : TypeId × Value → H} {P : Program} {w : World} {base : Nat} {spare : Nat → Bool} {held : Bool} {t e : TypeId} {f0 f1 f2 : Field} {fuel : Nat} {c : Value} {x : DataW H × List MemPlace}
    (ht : P.underlying t = some (.slice e)) (he : P.underlying e = some (.struct #[f0, f1, f2])) (hC : P.cellsOf e = 3)
    (h0 : P.underlying f0.type = some .string ∧ f0.offset = 0 ∧ P.cellsOf f0.type = 1) (h1 : P.underlying f1.type = some .string ∧ f1.offset = 1 ∧ P.cellsOf f1.type = 1) (h2 : P.underlying f2.type = some .string ∧ f2.offset = 2 ∧ P.cellsOf f2.type = 1)
    (h : DataW.trod enc P w base spare held fuel t [c] = some x) : ∃ a len cap ts, c = .slice a len cap ∧ IsTris w a len cap ts := by
  have h' := h
  rcases Deep.open_slice ht h with ⟨hcs, _⟩ | ⟨x, len', cap', m, n, D, Pl, hcs, _⟩
  · obtain rfl : c = .slice none 0 0 := by simpa using hcs
    obtain ⟨ts, hts⟩ := open_tris ht he hC h0 h1 h2 h'
    exact ⟨_, _, _, ts, rfl, hts⟩
  · obtain rfl : c = .slice (some x) len' cap' := by simpa using hcs
    obtain ⟨ts, hts⟩ := open_tris ht he hC h0 h1 h2 h'
    exact ⟨_, _, _, ts, rfl, hts⟩
/-- The call owns a slice of these texts, between B and C. -/
def OwnSC (B C : Nat) (v : Value) (ts : List ByteArray) (w : World) : Prop := OwnS B w v ts ∧ ∀ j, v.ownBlock = some j → j < C
theorem ownSC_lives {B C : Nat} {v : Value} {ts : List ByteArray} : Lives B C (OwnSC B C v ts) := row_lives
theorem OwnSC.read {B C : Nat} {w : World} {a : Option Addr} {n c : Nat} {ts : List ByteArray} (h : OwnSC B C (.slice a n c) ts w) (hl : ts.length = n) : IsStrs w a n c ts := by
  subst hl
  obtain ⟨x, y, e, i⟩ := h.1.is
  simp only [Value.slice.injEq, true_and] at e
  obtain ⟨rfl, rfl⟩ := e
  exact i
theorem exToS (a : Option Addr) (n c : Nat) (ts : List ByteArray) (w : World) (h : IsStrs w a n c ts) (hs : n ≤ 1048576) (hl : ts.length = n) :
    Calls Tryz.prog 52 #[.slice a n c] w fun e w' => ∃ a' c', e = .returned (.slice a' n c') ∧ Holds w.heap.size w'.heap.size w' (OwnSC w.heap.size w'.heap.size (.slice a' n c') ts) ∧ Below w.heap.size w w' :=
  (toStrs a n c ts w h hs).mono fun e w' ⟨v, he, ho, hb⟩ => by
    subst hl
    have H : Holds w.heap.size w'.heap.size w' (OwnSC w.heap.size w'.heap.size v ts) := ⟨ownSC_lives, Nat.le_refl _, ho, fun j hj => (World.ownsRow.lt ho j hj).2⟩
    rcases ho.2 with ⟨rfl, e0⟩ | ⟨g, c, cur, rfl, _⟩
    · exact ⟨none, 0, by rw [he, e0], by rw [e0]; exact H, hb⟩
    · exact ⟨_, _, he, H, hb⟩
end Go.Proofs.YtiajdnhmjdfeeaaGreat
/- A query (a slice of texts and two of triples): what it holds; its size; a copy; two alike. -/
namespace Go.Proofs.YtiajdnhmjdfeeaaGreat
open Go.ChangeShapes Go.WideShapes Go.ChangeAt Go.RowKit
def IsQry (w : World) (a0 a1 a2 : Option Addr) (n0 n1 n2 c0 c1 c2 : Nat) (t0 : List ByteArray) (t1 : List Tri3) (t2 : List Tri3) : Prop := (IsStrs w a0 n0 c0 t0 ∧ ∀ t ∈ t0, t.size ≤ maxLen) ∧ IsTris w a1 n1 c1 t1 ∧ IsTris w a2 n2 c2 t2
theorem IsQry.next {w w' : World} {a0 a1 a2 : Option Addr} {n0 n1 n2 c0 c1 c2 : Nat} {t0 : List ByteArray} {t1 : List Tri3} {t2 : List Tri3} (h : IsQry w a0 a1 a2 n0 n1 n2 c0 c1 c2 t0 t1 t2) (hb : Below w.heap.size w w') : IsQry w' a0 a1 a2 n0 n1 n2 c0 c1 c2 t0 t1 t2 := ⟨⟨h.1.1.next hb, h.1.2⟩, h.2.1.next hb, h.2.2.next hb⟩
/-- The call owns these slices, apart from one another, between B and C. -/
def OwnQry (B C : Nat) (v0 v1 v2 : Value) (t0 : List ByteArray) (t1 : List Tri3) (t2 : List Tri3) (w : World) : Prop := OwnSC B C v0 t0 w ∧ OwnC B C v1 t1 w ∧ OwnC B C v2 t2 w ∧ (∀ j, v0.ownBlock = some j → v1.ownBlock ≠ some j) ∧ (∀ j, v0.ownBlock = some j → v2.ownBlock ≠ some j) ∧ (∀ j, v1.ownBlock = some j → v2.ownBlock ≠ some j)
theorem ownQry_lives {B C : Nat} {v0 v1 v2 : Value} {t0 : List ByteArray} {t1 : List Tri3} {t2 : List Tri3} : Lives B C (OwnQry B C v0 v1 v2 t0 t1 t2) := fun w w2 he h => ⟨ownSC_lives w w2 he h.1, ownC_lives w w2 he h.2.1, ownC_lives w w2 he h.2.2.1, h.2.2.2.1, h.2.2.2.2.1, h.2.2.2.2.2⟩
def SzPostQry (left : Int) (n0 n1 n2 : Nat) (t0 : List ByteArray) (t1 : List Tri3) (t2 : List Tri3) (w : World) (e : Ending) (w' : World) : Prop :=
  ∃ n : Int, e = .returned (.int .i64 n) ∧ (n = -1 ∨ (0 ≤ n ∧ n ≤ left ∧ SmStrs n0 t0 ∧ Small n1 t1 ∧ Small n2 t2)) ∧ Below w.heap.size w w'
set_option maxRecDepth 100000 in
set_option maxHeartbeats 1600000 in
theorem szQry (a0 a1 a2 : Option Addr) (n0 n1 n2 c0 c1 c2 : Nat) (t0 : List ByteArray) (t1 : List Tri3) (t2 : List Tri3) (w : World) (h : IsQry w a0 a1 a2 n0 n1 n2 c0 c1 c2 t0 t1 t2) (left : Int) (h0 : 0 ≤ left) (h1 : left ≤ 1048576) :
    Calls Tryz.prog 9 #[.agg #[.slice a0 n0 c0, .slice a1 n1 c1, .slice a2 n2 c2], .int .i64 left] w (SzPostQry left n0 n1 n2 t0 t1 t2 w) := by
  have B0 := Lib.hid ((Below.refl w.heap.size w).alloc (Nat.le_refl _) (.cells #[.slice a0 n0 c0, .slice a1 n1 c1, .slice a2 n2 c2] 25))
  have X0 := Lib.hid (cells_new w #[.slice a0 n0 c0, .slice a1 n1 c1, .slice a2 n2 c2] 25)
  have HH := Lib.hid h
  have m0 := h.1.1.maxl
  have HX0 := Lib.hid h.1.2
  have m1 := tris_most (h.2.1)
  have m2 := tris_most (h.2.2)
  clear h
  go_enter Tryz.func9, Tryz.ntmps9
  have y0 := X0.out.now.at 0
  go_wp2_with fail
  refine (szStrs a0 n0 c0 t0 _ ((HH.out.next B0.out).1.1) (HX0.out) left h0 h1 m0).mono ?_
  rintro e w1 ⟨q0, rfl, hn, hb⟩
  have B1 := Lib.hid (B0.out.trans (hb.mono B0.out.size))
  have X1 := Lib.hid (X0.out.next hb)
  clear hb B0 X0 y0
  rcases hn with rfl | ⟨p0, r0, ps⟩
  · go_wp2_with fail
    go_ret
    exact ⟨-1, rfl, .inl rfl, B1.out⟩
  have P0 := Lib.hid ps
  have s0 : ¬ q0 < 0 := by omega
  clear ps
  have y1 := X1.out.now.at 1
  go_wp2_with fail
  refine (szTriS a1 n1 c1 t1 _ ((HH.out.next B1.out).2.1) q0 p0 (by omega) m1).mono ?_
  rintro e w2 ⟨q1, rfl, hn, hb⟩
  have B2 := Lib.hid (B1.out.trans (hb.mono B1.out.size))
  have X2 := Lib.hid (X1.out.next hb)
  clear hb B1 X1 y1
  rcases hn with rfl | ⟨p1, r1, ps⟩
  · go_wp2_with fail
    go_ret
    exact ⟨-1, rfl, .inl rfl, B2.out⟩
  have P1 := Lib.hid ps
  have s1 : ¬ q1 < 0 := by omega
  clear ps
  have y2 := X2.out.now.at 2
  go_wp2_with fail
  refine (szTriS a2 n2 c2 t2 _ ((HH.out.next B2.out).2.2) q1 p1 (by omega) m2).mono ?_
  rintro e w3 ⟨q2, rfl, hn, hb⟩
  have B3 := Lib.hid (B2.out.trans (hb.mono B2.out.size))
  have X3 := Lib.hid (X2.out.next hb)
  clear hb B2 X2 y2
  rcases hn with rfl | ⟨p2, r2, ps⟩
  · go_wp2_with fail
    go_ret
    exact ⟨-1, rfl, .inl rfl, B3.out⟩
  have P2 := Lib.hid ps
  have s2 : ¬ q2 < 0 := by omega
  clear ps
  go_wp2_with fail
  go_ret
  exact ⟨q2, rfl, .inr ⟨p2, by omega, P0.out, P1.out, P2.out⟩, B3.out⟩
set_option maxRecDepth 100000 in
set_option maxHeartbeats 1600000 in
theorem eqQry (a0 a1 a2 b0 b1 b2 : Option Addr) (n0 n1 n2 c0 c1 c2 d0 d1 d2 : Nat) (t0 : List ByteArray) (t1 : List Tri3) (t2 : List Tri3) (w : World) (i : IsQry w a0 a1 a2 n0 n1 n2 c0 c1 c2 t0 t1 t2) (j : IsQry w b0 b1 b2 n0 n1 n2 d0 d1 d2 t0 t1 t2) (l : n0 ≤ 1048576 ∧ n1 ≤ 1048576 ∧ n2 ≤ 1048576) :
    Calls Tryz.prog 16 #[.agg #[.slice a0 n0 c0, .slice a1 n1 c1, .slice a2 n2 c2], .agg #[.slice b0 n0 d0, .slice b1 n1 d1, .slice b2 n2 d2]] w fun e w' => e = .returned (.bool true) ∧ Below w.heap.size w w' := by
  have B0 := Lib.hid (((Below.refl w.heap.size w).alloc (Nat.le_refl _) (.cells #[.slice a0 n0 c0, .slice a1 n1 c1, .slice a2 n2 c2] 34)).alloc (by simp) (.cells #[.slice b0 n0 d0, .slice b1 n1 d1, .slice b2 n2 d2] 34))
  have X0 := Lib.hid ((cells_new w #[.slice a0 n0 c0, .slice a1 n1 c1, .slice a2 n2 c2] 34).alloc (.cells #[.slice b0 n0 d0, .slice b1 n1 d1, .slice b2 n2 d2] 34))
  have Y00 := cells_new (w.alloc (.cells #[.slice a0 n0 c0, .slice a1 n1 c1, .slice a2 n2 c2] 34)) #[.slice b0 n0 d0, .slice b1 n1 d1, .slice b2 n2 d2] 34
  rw [World.size_alloc] at Y00
  have Y0 := Lib.hid Y00
  have I := Lib.hid i
  have J := Lib.hid j
  clear i j Y00
  go_enter Tryz.func16, Tryz.ntmps16
  have x := X0.out.now.at 0
  have y := Y0.out.now.at 0
  go_wp2_with fail
  refine (eqStrS a0 b0 n0 c0 n0 d0 t0 _ ((I.out.next B0.out).1.1) ((J.out.next B0.out).1.1) l.1).mono ?_
  rintro e w1 ⟨rfl, hb⟩
  have B1 := Lib.hid (B0.out.trans (hb.mono B0.out.size))
  have X1 := Lib.hid (X0.out.next hb)
  have Y1 := Lib.hid (Y0.out.next hb)
  clear hb B0 X0 Y0 x y
  have x := X1.out.now.at 1
  have y := Y1.out.now.at 1
  go_wp2_with fail
  refine (eqTriS a1 b1 n1 c1 n1 d1 t1 _ ((I.out.next B1.out).2.1) ((J.out.next B1.out).2.1) l.2.1).mono ?_
  rintro e w2 ⟨rfl, hb⟩
  have B2 := Lib.hid (B1.out.trans (hb.mono B1.out.size))
  have X2 := Lib.hid (X1.out.next hb)
  have Y2 := Lib.hid (Y1.out.next hb)
  clear hb B1 X1 Y1 x y
  have x := X2.out.now.at 2
  have y := Y2.out.now.at 2
  go_wp2_with fail
  refine (eqTriS a2 b2 n2 c2 n2 d2 t2 _ ((I.out.next B2.out).2.2) ((J.out.next B2.out).2.2) l.2.2).mono ?_
  rintro e w3 ⟨rfl, hb⟩
  have B3 := Lib.hid (B2.out.trans (hb.mono B2.out.size))
  have X3 := Lib.hid (X2.out.next hb)
  have Y3 := Lib.hid (Y2.out.next hb)
  clear hb B2 X2 Y2 x y
  go_wp2_with fail
  go_ret
  exact ⟨rfl, B3.out⟩
set_option maxRecDepth 100000 in
set_option maxHeartbeats 3200000 in
theorem exToQry (a0 a1 a2 : Option Addr) (n0 n1 n2 c0 c1 c2 : Nat) (t0 : List ByteArray) (t1 : List Tri3) (t2 : List Tri3) (w : World) (h : IsQry w a0 a1 a2 n0 n1 n2 c0 c1 c2 t0 t1 t2) (s : n0 ≤ 1048576 ∧ n1 ≤ 1048576 ∧ n2 ≤ 1048576) (l : t0.length = n0 ∧ t1.length = n1 ∧ t2.length = n2) :
    Calls Tryz.prog 12 #[.agg #[.slice a0 n0 c0, .slice a1 n1 c1, .slice a2 n2 c2]] w fun e w' => ∃ x0 y0 x1 y1 x2 y2, e = .returned (.agg #[.slice x0 n0 y0, .slice x1 n1 y1, .slice x2 n2 y2]) ∧ Holds w.heap.size w'.heap.size w' (OwnQry w.heap.size w'.heap.size (.slice x0 n0 y0) (.slice x1 n1 y1) (.slice x2 n2 y2) t0 t1 t2) ∧ Below w.heap.size w w' := by
  obtain ⟨W1, hW1⟩ : ∃ W, w.alloc (.cells #[.slice a0 n0 c0, .slice a1 n1 c1, .slice a2 n2 c2] 25) = W := ⟨_, rfl⟩
  obtain ⟨W2, hW2⟩ : ∃ W, W1.alloc (.cells #[.slice none 0 0, .slice none 0 0, .slice none 0 0] 34) = W := ⟨_, rfl⟩
  obtain ⟨W3, hW3⟩ : ∃ W, W2.alloc (.cells #[.slice none 0 0, .slice none 0 0, .slice none 0 0] 34) = W := ⟨_, rfl⟩
  have z1 : W1.heap.size = w.heap.size + 1 := by rw [← hW1]; simp
  have z2 : W2.heap.size = w.heap.size + 2 := by rw [← hW2]; simp [z1]
  have z3 : W3.heap.size = w.heap.size + 3 := by rw [← hW3]; simp [z2]
  have B0 : Hid (Below w.heap.size w W3) := Lib.hid (by
    rw [← hW3, ← hW2, ← hW1]; exact (((Below.refl w.heap.size w).alloc (Nat.le_refl _) _).alloc (by simp) _).alloc (by simp; omega) _)
  have X0 : Hid (Cells w.heap.size #[.slice a0 n0 c0, .slice a1 n1 c1, .slice a2 n2 c2] 25 W3) := Lib.hid (by
    rw [← hW3, ← hW2, ← hW1]; exact (((cells_new w _ _).alloc _).alloc _).now)
  have Y0 : Hid (Cells (w.heap.size + 1) #[.slice none 0 0, .slice none 0 0, .slice none 0 0] 34 W3) := Lib.hid (by
    rw [← hW3, ← hW2, ← z1]; exact ((cells_new W1 _ _).alloc _).now)
  have Z0 : Hid (Cells (w.heap.size + 2) #[.slice none 0 0, .slice none 0 0, .slice none 0 0] 34 W3) := Lib.hid (by
    rw [← hW3, ← z2]; exact (cells_new W2 _ _).now)
  have HH := Lib.hid h
  have HW := Lib.hid (And.intro hW1 (And.intro hW2 hW3))
  have u0 : w.heap.size + 3 ≤ W3.heap.size := by omega
  clear h z1 z2 z3 hW1 hW2 hW3
  go_enter Tryz.func12, Tryz.ntmps12
  have xx := X0.out.at 0
  go_wp2_with fail
  rw [HW.out.1, HW.out.2.1, HW.out.2.2]
  refine (exToS a0 n0 c0 t0 _ ((HH.out.next B0.out).1.1) s.1 l.1).mono ?_
  rintro e w1 ⟨x0, y0, rfl, hh, hb⟩
  have B1 := Lib.hid (B0.out.trans (hb.mono B0.out.size))
  have X1 : Hid (Cells (w.heap.size) #[.slice a0 n0 c0, .slice a1 n1 c1, .slice a2 n2 c2] 25 w1) := Lib.hid ((hb.block _ (by omega)).trans X0.out)
  have Y1 : Hid (Cells (w.heap.size + 1) #[.slice none 0 0, .slice none 0 0, .slice none 0 0] 34 w1) := Lib.hid ((hb.block _ (by omega)).trans Y0.out)
  have Z1 : Hid (Cells (w.heap.size + 2) #[.slice none 0 0, .slice none 0 0, .slice none 0 0] 34 w1) := Lib.hid ((hb.block _ (by omega)).trans Z0.out)
  have V0_1 := Lib.hid hh
  have le0 : W3.heap.size ≤ w1.heap.size := hb.size
  have u1 : w.heap.size + 3 ≤ w1.heap.size := by omega
  clear hb hh xx B0 X0 Y0 Z0 
  have z0 := Z1.out.at 0
  have f0 := Z1.out.free 0
  have T : Turn (w.heap.size + 2) (w.heap.size + 3) w1 (w1.setCell ⟨w.heap.size + 2, 0, none⟩ (.slice x0 n0 y0)) := turn_set _ _ _ _
  have B2 := Lib.hid (B1.out.setCell (p := ⟨w.heap.size + 2, 0, none⟩) (by show w.heap.size ≤ w.heap.size + 2; omega) (.slice x0 n0 y0))
  have X2 : Hid (Cells w.heap.size #[.slice a0 n0 c0, .slice a1 n1 c1, .slice a2 n2 c2] 25 (w1.setCell ⟨w.heap.size + 2, 0, none⟩ (.slice x0 n0 y0))) := Lib.hid ((Below.heap_setCell _ _ _ _ (by show w.heap.size ≠ w.heap.size + 2; omega)).trans X1.out)
  have Y2 : Hid (Cells (w.heap.size + 1) #[.slice none 0 0, .slice none 0 0, .slice none 0 0] 34 (w1.setCell ⟨w.heap.size + 2, 0, none⟩ (.slice x0 n0 y0))) := Lib.hid ((Below.heap_setCell _ _ _ _ (by show w.heap.size + 1 ≠ w.heap.size + 2; omega)).trans Y1.out)
  have Z2 : Hid (Cells (w.heap.size + 2) #[.slice x0 n0 y0, .slice none 0 0, .slice none 0 0] 34 (w1.setCell ⟨w.heap.size + 2, 0, none⟩ (.slice x0 n0 y0))) := Lib.hid (by
    have hz := Z1.out
    unfold Cells at hz ⊢; simp [World.setCell, Array.getElem?_modify, hz])
  have V0_2 := Lib.hid (V0_1.out.step T (.inr (by omega)))
  have e0 : (w1.setCell ⟨w.heap.size + 2, 0, none⟩ (.slice x0 n0 y0)).heap.size = w1.heap.size := by simp [World.setCell]
  clear T B1 X1 Y1 Z1 V0_1
  have xx := X2.out.at 1
  go_wp2_with fail
  generalize w1.setCell ⟨w.heap.size + 2, 0, none⟩ (.slice x0 n0 y0) = u0W at B2 X2 Y2 Z2 V0_2 e0 xx ⊢
  clear z0 f0 xx
  have u2 : w.heap.size + 3 ≤ u0W.heap.size := by omega
  have xx := X2.out.at 1
  go_wp2_with fail
  refine (exTo a1 n1 c1 t1 _ ((HH.out.next B2.out).2.1) s.2.1 l.2.1).mono ?_
  rintro e w2 ⟨x1, y1, rfl, hh, hb⟩
  have B3 := Lib.hid (B2.out.trans (hb.mono B2.out.size))
  have X3 : Hid (Cells (w.heap.size) #[.slice a0 n0 c0, .slice a1 n1 c1, .slice a2 n2 c2] 25 w2) := Lib.hid ((hb.block _ (by omega)).trans X2.out)
  have Y3 : Hid (Cells (w.heap.size + 1) #[.slice none 0 0, .slice none 0 0, .slice none 0 0] 34 w2) := Lib.hid ((hb.block _ (by omega)).trans Y2.out)
  have Z3 : Hid (Cells (w.heap.size + 2) #[.slice x0 n0 y0, .slice none 0 0, .slice none 0 0] 34 w2) := Lib.hid ((hb.block _ (by omega)).trans Z2.out)
  have V0_3 := Lib.hid (V0_2.out.next hb)
  have V1_3 := Lib.hid hh
  have le1 : u0W.heap.size ≤ w2.heap.size := hb.size
  have u3 : w.heap.size + 3 ≤ w2.heap.size := by omega
  clear hb hh xx B2 X2 Y2 Z2 V0_2
  have z0 := Z3.out.at 1
  have f0 := Z3.out.free 1
  have T : Turn (w.heap.size + 2) (w.heap.size + 3) w2 (w2.setCell ⟨w.heap.size + 2, 1, none⟩ (.slice x1 n1 y1)) := turn_set _ _ _ _
  have B4 := Lib.hid (B3.out.setCell (p := ⟨w.heap.size + 2, 1, none⟩) (by show w.heap.size ≤ w.heap.size + 2; omega) (.slice x1 n1 y1))
  have X4 : Hid (Cells w.heap.size #[.slice a0 n0 c0, .slice a1 n1 c1, .slice a2 n2 c2] 25 (w2.setCell ⟨w.heap.size + 2, 1, none⟩ (.slice x1 n1 y1))) := Lib.hid ((Below.heap_setCell _ _ _ _ (by show w.heap.size ≠ w.heap.size + 2; omega)).trans X3.out)
  have Y4 : Hid (Cells (w.heap.size + 1) #[.slice none 0 0, .slice none 0 0, .slice none 0 0] 34 (w2.setCell ⟨w.heap.size + 2, 1, none⟩ (.slice x1 n1 y1))) := Lib.hid ((Below.heap_setCell _ _ _ _ (by show w.heap.size + 1 ≠ w.heap.size + 2; omega)).trans Y3.out)
  have Z4 : Hid (Cells (w.heap.size + 2) #[.slice x0 n0 y0, .slice x1 n1 y1, .slice none 0 0] 34 (w2.setCell ⟨w.heap.size + 2, 1, none⟩ (.slice x1 n1 y1))) := Lib.hid (by
    have hz := Z3.out
    unfold Cells at hz ⊢; simp [World.setCell, Array.getElem?_modify, hz])
  have V0_4 := Lib.hid (V0_3.out.step T (.inr (by omega)))
  have V1_4 := Lib.hid (V1_3.out.step T (.inr (by omega)))
  have e1 : (w2.setCell ⟨w.heap.size + 2, 1, none⟩ (.slice x1 n1 y1)).heap.size = w2.heap.size := by simp [World.setCell]
  clear T B3 X3 Y3 Z3 V0_3 V1_3
  have xx := X4.out.at 2
  go_wp2_with fail
  generalize w2.setCell ⟨w.heap.size + 2, 1, none⟩ (.slice x1 n1 y1) = u1W at B4 X4 Y4 Z4 V0_4 V1_4 e1 xx ⊢
  clear z0 f0 xx
  have u4 : w.heap.size + 3 ≤ u1W.heap.size := by omega
  have xx := X4.out.at 2
  go_wp2_with fail
  refine (exTo a2 n2 c2 t2 _ ((HH.out.next B4.out).2.2) s.2.2 l.2.2).mono ?_
  rintro e w3 ⟨x2, y2, rfl, hh, hb⟩
  have B5 := Lib.hid (B4.out.trans (hb.mono B4.out.size))
  have X5 : Hid (Cells (w.heap.size) #[.slice a0 n0 c0, .slice a1 n1 c1, .slice a2 n2 c2] 25 w3) := Lib.hid ((hb.block _ (by omega)).trans X4.out)
  have Y5 : Hid (Cells (w.heap.size + 1) #[.slice none 0 0, .slice none 0 0, .slice none 0 0] 34 w3) := Lib.hid ((hb.block _ (by omega)).trans Y4.out)
  have Z5 : Hid (Cells (w.heap.size + 2) #[.slice x0 n0 y0, .slice x1 n1 y1, .slice none 0 0] 34 w3) := Lib.hid ((hb.block _ (by omega)).trans Z4.out)
  have V0_5 := Lib.hid (V0_4.out.next hb)
  have V1_5 := Lib.hid (V1_4.out.next hb)
  have V2_5 := Lib.hid hh
  have le2 : u1W.heap.size ≤ w3.heap.size := hb.size
  have u5 : w.heap.size + 3 ≤ w3.heap.size := by omega
  clear hb hh xx B4 X4 Y4 Z4 V0_4 V1_4
  have z0 := Z5.out.at 2
  have f0 := Z5.out.free 2
  have T : Turn (w.heap.size + 2) (w.heap.size + 3) w3 (w3.setCell ⟨w.heap.size + 2, 2, none⟩ (.slice x2 n2 y2)) := turn_set _ _ _ _
  have B6 := Lib.hid (B5.out.setCell (p := ⟨w.heap.size + 2, 2, none⟩) (by show w.heap.size ≤ w.heap.size + 2; omega) (.slice x2 n2 y2))
  have X6 : Hid (Cells w.heap.size #[.slice a0 n0 c0, .slice a1 n1 c1, .slice a2 n2 c2] 25 (w3.setCell ⟨w.heap.size + 2, 2, none⟩ (.slice x2 n2 y2))) := Lib.hid ((Below.heap_setCell _ _ _ _ (by show w.heap.size ≠ w.heap.size + 2; omega)).trans X5.out)
  have Y6 : Hid (Cells (w.heap.size + 1) #[.slice none 0 0, .slice none 0 0, .slice none 0 0] 34 (w3.setCell ⟨w.heap.size + 2, 2, none⟩ (.slice x2 n2 y2))) := Lib.hid ((Below.heap_setCell _ _ _ _ (by show w.heap.size + 1 ≠ w.heap.size + 2; omega)).trans Y5.out)
  have Z6 : Hid (Cells (w.heap.size + 2) #[.slice x0 n0 y0, .slice x1 n1 y1, .slice x2 n2 y2] 34 (w3.setCell ⟨w.heap.size + 2, 2, none⟩ (.slice x2 n2 y2))) := Lib.hid (by
    have hz := Z5.out
    unfold Cells at hz ⊢; simp [World.setCell, Array.getElem?_modify, hz])
  have V0_6 := Lib.hid (V0_5.out.step T (.inr (by omega)))
  have V1_6 := Lib.hid (V1_5.out.step T (.inr (by omega)))
  have V2_6 := Lib.hid (V2_5.out.step T (.inr (by omega)))
  have e2 : (w3.setCell ⟨w.heap.size + 2, 2, none⟩ (.slice x2 n2 y2)).heap.size = w3.heap.size := by simp [World.setCell]
  clear T B5 X5 Y5 Z5 V0_5 V1_5 V2_5
  have g0 := Z6.out.at 0
  have y0' := Y6.out.at 0
  have q0' := Y6.out.free 0
  have g1 := Z6.out.at 1
  have y1' := Y6.out.at 1
  have q1' := Y6.out.free 1
  have g2 := Z6.out.at 2
  have y2' := Y6.out.at 2
  have q2' := Y6.out.free 2
  have hfin : Hid (∀ W : World, W.heap.size = w3.heap.size → (∀ k, w.heap.size + 3 ≤ k → W.heap[k]? = (w3.setCell ⟨w.heap.size + 2, 2, none⟩ (.slice x2 n2 y2)).heap[k]?) → Holds w.heap.size W.heap.size W (OwnQry w.heap.size W.heap.size (.slice x0 n0 y0) (.slice x1 n1 y1) (.slice x2 n2 y2) t0 t1 t2)) := Lib.hid (fun W hs he => by
    have q0 := V0_6.out.lives _ W (fun k h1 _ => he k (by omega)) V0_6.out.now
    have q1 := V1_6.out.lives _ W (fun k h1 _ => he k (by omega)) V1_6.out.now
    have q2 := V2_6.out.lives _ W (fun k h1 _ => he k (by omega)) V2_6.out.now
    refine ⟨ownQry_lives, Nat.le_refl _, ⟨ownS_base q0.1 (by omega), fun j hj => by have := q0.2 j hj; omega⟩, ⟨own_base q1.1 (by omega), fun j hj => by have := q1.2 j hj; omega⟩, ⟨own_base q2.1 (by omega), fun j hj => by have := q2.2 j hj; omega⟩, fun j h1 h2 => by have := q0.2 j h1; have := (World.ownsRow.lt q1.1 j h2).1; omega, fun j h1 h2 => by have := q0.2 j h1; have := (World.ownsRow.lt q2.1 j h2).1; omega, fun j h1 h2 => by have := q1.2 j h1; have := (World.ownsRow.lt q2.1 j h2).1; omega⟩)
  have HB := B6
  clear B6 X6 Y6 Z6 V0_6 V1_6 V2_6
  go_wp2_with fail
  refine bodyPost_ret (v := .agg #[.slice x0 n0 y0, .slice x1 n1 y1, .slice x2 n2 y2]) (by simp [results, Tryz.results12, go_sem, *]) rfl ⟨_, _, _, _, _, _, rfl, hfin.out _ (by simp [World.setCell]) ?_, ?_⟩
  · intro k hk
    repeat rw [Below.heap_setCell _ _ _ _ (by show k ≠ w.heap.size + 1; omega)]
  · exact (((HB.out.setCell (p := ⟨w.heap.size + 1, 0, none⟩) (by show w.heap.size ≤ w.heap.size + 1; omega) _).setCell (p := ⟨w.heap.size + 1, 1, none⟩) (by show w.heap.size ≤ w.heap.size + 1; omega) _).setCell (p := ⟨w.heap.size + 1, 2, none⟩) (by show w.heap.size ≤ w.heap.size + 1; omega) _)
theorem Cells.tre {g : Nat} {x y z : Value} {T : TypeId} {w : World} (h : Cells g #[x, y, z] T w) : w.cell? ⟨g, 0, none⟩ = some x ∧ w.cell? ⟨g, 1, none⟩ = some y ∧ w.cell? ⟨g, 2, none⟩ = some z := ⟨h.at 0, h.at 1, h.at 2⟩
theorem OwnQry.readQ {B C : Nat} {w : World} {a0 a1 a2 : Option Addr} {c0 c1 c2 : Nat} {t0 : List ByteArray} {t1 t2 : List Tri3} {n0 n1 n2 : Nat} (h : OwnQry B C (.slice a0 n0 c0) (.slice a1 n1 c1) (.slice a2 n2 c2) t0 t1 t2 w) (m : (∀ t ∈ t0, t.size ≤ maxLen) ∧ SmAll t1 ∧ SmAll t2) (l : t0.length = n0 ∧ t1.length = n1 ∧ t2.length = n2) : IsQry w a0 a1 a2 n0 n1 n2 c0 c1 c2 t0 t1 t2 :=
  ⟨⟨h.1.read l.1, m.1⟩, h.2.1.read m.2.1 l.2.1, h.2.2.1.read m.2.2 l.2.2⟩
end Go.Proofs.YtiajdnhmjdfeeaaGreat
