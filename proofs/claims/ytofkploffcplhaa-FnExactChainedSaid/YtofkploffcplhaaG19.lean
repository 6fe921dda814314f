/- The exact laws' steps at slices of triples, told by where things lie. -/
import Derived.Test.YtofkploffcplhaaG17
import Derived.Test.YtofkploffcplhaaG18
import Derived.Test.YtofkploffcplhaaG03
import Derived.Test.YtofkploffcplhaaG08
namespace Go.Proofs.Ytofkploffcplhaa
open Go.RowKit Go.WideShapes
def SmAll (ts : List Tri3) : Prop := ∀ t ∈ ts, t.1.size ≤ maxLen ∧ t.2.1.size ≤ maxLen ∧ t.2.2.size ≤ maxLen
theorem smAll_marks (k0 n : Nat) (hn : n ≤ 1048576) (hk : k0 ≤ 40000000) : SmAll (marksK k0 n) := marksK_small k0 n hn hk
theorem Cells.two {g : Nat} {x y : Value} {T : TypeId} {w : World} (h : Cells g #[x, y] T w) : w.cell? ⟨g, 0, none⟩ = some x ∧ w.cell? ⟨g, 1, none⟩ = some y := ⟨h.at 0, h.at 1⟩
theorem tris_most {w : World} {a : Option Addr} {len cap : Nat} {ts : List Tri3} (h : IsTris w a len cap ts) : len ≤ 9223372036854775807 := by
  rcases h with ⟨_, rfl, _, _⟩ | ⟨_, _, h1, h2, _⟩
  · omega
  · unfold maxLen at h2; omega
theorem OwnC.read {B C : Nat} {w : World} {a : Option Addr} {n c : Nat} {ts : List Tri3} (h : OwnC B C (.slice a n c) ts w) (hm : SmAll ts) (hl : ts.length = n) : IsTris w a n c ts := by
  subst hl
  obtain ⟨x, y, e, i⟩ := h.1.is hm
  simp only [Value.slice.injEq, true_and] at e
  obtain ⟨rfl, rfl⟩ := e
  exact i
theorem ownC_shape {w w' : World} {v : Value} {ts : List Tri3} {n : Nat} (h : OwnT w.heap.size w' v ts) (hb : Below w.heap.size w w') (hl : ts.length = n) : ∃ a c, v = .slice a n c ∧ Holds w.heap.size w'.heap.size w' (OwnC w.heap.size w'.heap.size (.slice a n c) ts) := by
  have H := ownC_new h hb
  subst hl
  rcases h.2 with ⟨rfl, e⟩ | ⟨g, c, cur, rfl, _⟩
  · exact ⟨none, 0, by rw [e], by rw [e]; exact H⟩
  · exact ⟨_, _, rfl, H⟩
theorem exTo (a : Option Addr) (n c : Nat) (ts : List Tri3) (w : World) (h : IsTris w a n c ts) (hs : n ≤ 1048576) (hl : ts.length = n) :
    Calls Try.prog 17 #[.slice a n c] w fun e w' => ∃ a' c', e = .returned (.slice a' n c') ∧ Holds w.heap.size w'.heap.size w' (OwnC w.heap.size w'.heap.size (.slice a' n c') ts) ∧ Below w.heap.size w w' :=
  (toTriS a n c ts w h hs).mono fun e w' ⟨v, he, ho, hb⟩ => by
    obtain ⟨a', c', rfl, H⟩ := ownC_shape ho hb hl
    exact ⟨a', c', he, H, hb⟩
theorem exMark {B C : Nat} {a : Option Addr} {n c : Nat} {ts : List Tri3} {w : World} (h : Holds B C w (OwnC B C (.slice a n c) ts)) (hs : n ≤ 1048576) (hl : ts.length = n) (k0 : Nat) (hk0 : 0 < k0) (hk1 : k0 ≤ 40000000) :
    Calls Try.prog 20 #[.slice a n c, .int .i64 k0] w fun e w' => e = .returned (.int .i64 ((k0 + 3 * n : Nat) : Int)) ∧ Holds B C w' (OwnC B C (.slice a n c) (marksK k0 n)) ∧ Turn B C w w' := by
  subst hl
  refine (markTriK B _ ts w h.now.1 hs k0 hk0 hk1).mono fun e w' ⟨he, ho, hg⟩ => ⟨he, ⟨ownC_lives, Nat.le_trans h.le hg.size, ho, h.now.2⟩, h.now.turn hg⟩
theorem exHeld {B C : Nat} {a : Option Addr} {n c : Nat} {w : World} {k0 : Nat} (h : Holds B C w (OwnC B C (.slice a n c) (marksK k0 n))) (hs : n ≤ 1048576) (hk0 : 0 < k0) (hk1 : k0 ≤ 1000000) :
    Calls Try.prog 25 #[.slice a n c, .int .i64 k0] w fun e w' => e = .returned (.int .i64 ((k0 + 3 * n : Nat) : Int)) ∧ Below w.heap.size w w' :=
  heldTriK a n c w k0 (h.now.read (smAll_marks _ _ hs (by omega)) (marksK_len _ _)) hs hk0 (by omega)
end Go.Proofs.Ytofkploffcplhaa
/- A patch (two slices of triples): what it holds; its size; a copy; two alike; marks and the second look. -/
namespace Go.Proofs.Ytofkploffcplhaa
open Go.ChangeShapes Go.WideShapes Go.ChangeAt Go.RowKit
theorem pat_tris {H : Type} {enc : TypeId × Value → H} {P : Program} {w : World} {base : Nat} {spare : Nat → Bool} {held : Bool} {t e : TypeId} {f0 f1 f2 : Field} {fuel : Nat} {c : Value} {x : DataW H × List MemPlace}
    (ht : P.underlying t = some (.slice e)) (he : P.underlying e = some (.struct #[f0, f1, f2])) (hC : P.cellsOf e = 3)
    (h0 : P.underlying f0.type = some .string ∧ f0.offset = 0 ∧ P.cellsOf f0.type = 1) (h1 : P.underlying f1.type = some .string ∧ f1.offset = 1 ∧ P.cellsOf f1.type = 1) (h2 : P.underlying f2.type = some .string ∧ f2.offset = 2 ∧ P.cellsOf f2.type = 1)
    (h : DataW.trod enc P w base spare held fuel t [c] = some x) : ∃ a len cap ts, c = .slice a len cap ∧ IsTris w a len cap ts := by
  have h' := h
  rcases Deep.open_slice ht h with ⟨hcs, _⟩ | ⟨x, len', cap', m, n, D, Pl, hcs, _⟩
  · obtain rfl : c = .slice none 0 0 := by simpa using hcs
    obtain ⟨ts, hts⟩ := open_tris ht he hC h0 h1 h2 h'
    exact ⟨_, _, _, ts, rfl, hts⟩
  · obtain rfl : c = .slice (some x) len' cap' := by simpa using hcs
    obtain ⟨ts, hts⟩ := open_tris ht he hC h0 h1 h2 h'
    exact ⟨_, _, _, ts, rfl, hts⟩
theorem pat_maxl {w : World} {a : Option Addr} {len cap : Nat} {ts : List Tri3} (h : IsTris w a len cap ts) : len ≤ 9223372036854775807 := by
  rcases h with ⟨_, rfl, _, _⟩ | ⟨_, _, h1, h2, _⟩
  · omega
  · unfold maxLen at h2; omega
def Is2 (w : World) (a1 a2 : Option Addr) (n1 n2 c1 c2 : Nat) (t1 t2 : List Tri3) : Prop := IsTris w a1 n1 c1 t1 ∧ IsTris w a2 n2 c2 t2
theorem Is2.next {w w' : World} {a1 a2 : Option Addr} {n1 n2 c1 c2 : Nat} {t1 t2 : List Tri3} (h : Is2 w a1 a2 n1 n2 c1 c2 t1 t2) (hb : Below w.heap.size w w') : Is2 w' a1 a2 n1 n2 c1 c2 t1 t2 := ⟨h.1.next hb, h.2.next hb⟩
theorem open_patch {H : Type} {enc : TypeId × Value → H} {P : Program} {w : World} {base : Nat} {spare : Nat → Bool} {held : Bool} {r : Reach} {b0 : Nat} {T tS tT : TypeId} {g0 g1 : Field} {f0 f1 f2 : Field} {v : Value} {d : DataW H} {p : List MemPlace}
    (hT : P.underlying T = some (.struct #[g0, g1])) (cT : P.cellsOf T = 2) (hg0 : g0.type = tS ∧ g0.offset = 0 ∧ P.cellsOf tS = 1) (hg1 : g1.type = tS ∧ g1.offset = 1 ∧ P.cellsOf tS = 1)
    (ht : P.underlying tS = some (.slice tT)) (he : P.underlying tT = some (.struct #[f0, f1, f2])) (cC : P.cellsOf tT = 3)
    (h0 : P.underlying f0.type = some .string ∧ f0.offset = 0 ∧ P.cellsOf f0.type = 1) (h1 : P.underlying f1.type = some .string ∧ f1.offset = 1 ∧ P.cellsOf f1.type = 1) (h2 : P.underlying f2.type = some .string ∧ f2.offset = 2 ∧ P.cellsOf f2.type = 1)
    (hv : Value.okWide P w r b0 T v) (h : DataW.Trod enc P w base spare held T v d p) :
    ∃ a1 n1 c1 t1 a2 n2 c2 t2, v = .agg #[.slice a1 n1 c1, .slice a2 n2 c2] ∧ Is2 w a1 a2 n1 n2 c1 c2 t1 t2 := by
  obtain ⟨cs, rfl, hsz⟩ := okWide_struct hT hv
  obtain ⟨fuel, hf⟩ := h
  obtain ⟨y0, y1, n, hx, _, k0, k1⟩ := trod_struct2 hT hf
  rw [hg0.1, hg0.2.1, hg0.2.2] at k0
  rw [hg1.1, hg1.2.1, hg1.2.2] at k1
  have hsz' : cs.toList.length = 2 := by rw [cT] at hsz; simpa using hsz
  obtain ⟨l⟩ := cs
  simp only [Value.cells] at k0 k1 hsz'
  match l, hsz', k0, k1 with
  | [c0, c1], _, k0, k1 =>
    simp at k0 k1
    obtain ⟨a1, n1, c1', t1, rfl, i1⟩ := pat_tris ht he cC h0 h1 h2 k0
    obtain ⟨a2, n2, c2', t2, rfl, i2⟩ := pat_tris ht he cC h0 h1 h2 k1
    exact ⟨_, _, _, t1, _, _, _, t2, rfl, i1, i2⟩
/-- The call owns two slices of triples, apart from one another, between B and C. -/
def Own2 (B C : Nat) (v1 v2 : Value) (t1 t2 : List Tri3) (w : World) : Prop := OwnC B C v1 t1 w ∧ OwnC B C v2 t2 w ∧ ∀ j, v1.ownBlock = some j → v2.ownBlock ≠ some j
theorem own2_lives {B C : Nat} {v1 v2 : Value} {t1 t2 : List Tri3} : Lives B C (Own2 B C v1 v2 t1 t2) := fun w w2 he h => ⟨ownC_lives w w2 he h.1, ownC_lives w w2 he h.2.1, h.2.2⟩
theorem Own2.is {B C : Nat} {w : World} {v1 v2 : Value} {t1 t2 : List Tri3} {n1 n2 : Nat} (h : Own2 B C v1 v2 t1 t2 w) (m1 : ∀ t ∈ t1, t.1.size ≤ maxLen ∧ t.2.1.size ≤ maxLen ∧ t.2.2.size ≤ maxLen) (m2 : ∀ t ∈ t2, t.1.size ≤ maxLen ∧ t.2.1.size ≤ maxLen ∧ t.2.2.size ≤ maxLen) (l1 : t1.length = n1) (l2 : t2.length = n2) :
    ∃ a1 c1 a2 c2, v1 = .slice a1 n1 c1 ∧ v2 = .slice a2 n2 c2 ∧ Is2 w a1 a2 n1 n2 c1 c2 t1 t2 := by
  subst l1 l2
  obtain ⟨a1, c1, e1, i1⟩ := h.1.1.is m1
  obtain ⟨a2, c2, e2, i2⟩ := h.2.1.1.is m2
  exact ⟨a1, c1, a2, c2, e1, e2, i1, i2⟩
theorem Own2.read {B C : Nat} {w : World} {a1 a2 : Option Addr} {c1 c2 : Nat} {t1 t2 : List Tri3} {n1 n2 : Nat} (h : Own2 B C (.slice a1 n1 c1) (.slice a2 n2 c2) t1 t2 w) (m1 : ∀ t ∈ t1, t.1.size ≤ maxLen ∧ t.2.1.size ≤ maxLen ∧ t.2.2.size ≤ maxLen) (m2 : ∀ t ∈ t2, t.1.size ≤ maxLen ∧ t.2.1.size ≤ maxLen ∧ t.2.2.size ≤ maxLen) (l1 : t1.length = n1) (l2 : t2.length = n2) :
    Is2 w a1 a2 n1 n2 c1 c2 t1 t2 := by
  obtain ⟨x1, d1, x2, d2, e1, e2, i⟩ := h.is m1 m2 l1 l2
  simp only [Value.slice.injEq, true_and] at e1 e2
  obtain ⟨rfl, rfl⟩ := e1
  obtain ⟨rfl, rfl⟩ := e2
  exact i
def SzPost2 (left : Int) (n1 n2 : Nat) (t1 t2 : List Tri3) (w : World) (e : Ending) (w' : World) : Prop :=
  ∃ n : Int, e = .returned (.int .i64 n) ∧ (n = -1 ∨ (0 ≤ n ∧ n ≤ left ∧ Small n1 t1 ∧ Small n2 t2)) ∧ Below w.heap.size w w'
set_option maxRecDepth 100000 in
set_option maxHeartbeats 1600000 in
theorem szPatch (a1 a2 : Option Addr) (n1 n2 c1 c2 : Nat) (t1 t2 : List Tri3) (w : World) (h : Is2 w a1 a2 n1 n2 c1 c2 t1 t2) (left : Int) (h0 : 0 ≤ left) (h1 : left ≤ 1048576) :
    Calls Try.prog 10 #[.agg #[.slice a1 n1 c1, .slice a2 n2 c2], .int .i64 left] w (SzPost2 left n1 n2 t1 t2 w) := by
  have B0 := (Below.refl w.heap.size w).alloc (Nat.le_refl _) (.cells #[.slice a1 n1 c1, .slice a2 n2 c2] 24)
  have X0 := cells_new w #[.slice a1 n1 c1, .slice a2 n2 c2] 24
  have HH := Lib.hid h
  have m1 := pat_maxl h.1
  have m2 := pat_maxl h.2
  have y0 := X0.now.at 0
  clear h
  go_enter Try.func10, Try.ntmps10
  go_wp2_with fail
  refine (szTriS a1 n1 c1 t1 _ (HH.out.1.next B0) left h0 h1 m1).mono ?_
  rintro e w1 ⟨n, rfl, hn, hb⟩
  have B1 := B0.trans (hb.mono B0.size)
  have X1 := X0.next hb
  clear hb B0 X0 y0
  rcases hn with rfl | ⟨p0, p1, ps⟩
  · go_wp2_with fail
    go_ret
    exact ⟨-1, rfl, .inl rfl, B1⟩
  have PS := Lib.hid ps
  have p2 : ¬ n < 0 := by omega
  have y1 := X1.now.at 1
  clear ps
  go_wp2_with fail
  refine (szTriS a2 n2 c2 t2 _ (HH.out.2.next B1) n p0 (by omega) m2).mono ?_
  rintro e w2 ⟨m, rfl, hm, hb⟩
  have B2 := B1.trans (hb.mono B1.size)
  clear hb B1 X1 y1
  rcases hm with rfl | ⟨q0, q1, qs⟩
  · go_wp2_with fail
    go_ret
    exact ⟨-1, rfl, .inl rfl, B2⟩
  have QS := Lib.hid qs
  have q2 : ¬ m < 0 := by omega
  clear qs
  go_wp2_with fail
  go_ret
  exact ⟨m, rfl, .inr ⟨q0, by omega, PS.out, QS.out⟩, B2⟩
set_option maxRecDepth 100000 in
set_option maxHeartbeats 1600000 in
theorem eqPatch (a1 a2 b1 b2 : Option Addr) (n1 n2 c1 c2 d1 d2 : Nat) (t1 t2 : List Tri3) (w : World) (i : Is2 w a1 a2 n1 n2 c1 c2 t1 t2) (j : Is2 w b1 b2 n1 n2 d1 d2 t1 t2) (l1 : n1 ≤ 1048576) (l2 : n2 ≤ 1048576) :
    Calls Try.prog 14 #[.agg #[.slice a1 n1 c1, .slice a2 n2 c2], .agg #[.slice b1 n1 d1, .slice b2 n2 d2]] w fun e w' => e = .returned (.bool true) ∧ Below w.heap.size w w' := by
  have B0 := ((Below.refl w.heap.size w).alloc (Nat.le_refl _) (.cells #[.slice a1 n1 c1, .slice a2 n2 c2] 29)).alloc (by simp) (.cells #[.slice b1 n1 d1, .slice b2 n2 d2] 29)
  have X0 := (cells_new w #[.slice a1 n1 c1, .slice a2 n2 c2] 29).alloc (.cells #[.slice b1 n1 d1, .slice b2 n2 d2] 29)
  have Y0 := cells_new (w.alloc (.cells #[.slice a1 n1 c1, .slice a2 n2 c2] 29)) #[.slice b1 n1 d1, .slice b2 n2 d2] 29
  rw [World.size_alloc] at Y0
  have C1 := Lib.hid (eqTriS a1 b1 n1 c1 n1 d1 t1 _ (i.1.next B0) (j.1.next B0) l1)
  have I2 := Lib.hid (And.intro i.2 j.2)
  have x0 := X0.now.at 0
  have y0 := Y0.now.at 0
  clear i j
  go_enter Try.func14, Try.ntmps14
  go_wp2_with fail
  refine C1.out.mono ?_
  rintro e w1 ⟨rfl, hb1⟩
  have B1 := B0.trans (hb1.mono B0.size)
  have x1 := (X0.next hb1).now.at 1
  have y1 := (Y0.next hb1).now.at 1
  have C2 := Lib.hid (eqTriS a2 b2 n2 c2 n2 d2 t2 _ (I2.out.1.next B1) (I2.out.2.next B1) l2)
  clear hb1 B0 X0 Y0 C1 x0 y0
  go_wp2_with fail
  refine C2.out.mono ?_
  rintro e w2 ⟨rfl, hb2⟩
  have B2 := B1.trans (hb2.mono B1.size)
  clear hb2 x1 y1 B1 C2
  go_wp2_with fail
  go_ret
  exact ⟨rfl, B2⟩
set_option maxRecDepth 100000 in
set_option maxHeartbeats 1600000 in
theorem markPatch (B C : Nat) (v1 v2 : Value) (t1 t2 : List Tri3) (w : World) (h : Own2 B C v1 v2 t1 t2 w) (hC : C ≤ w.heap.size) (l1 : t1.length ≤ 1048576) (l2 : t2.length ≤ 1048576) (k0 : Nat) (hk0 : 0 < k0) (hk1 : k0 ≤ 30000000) :
    Calls Try.prog 21 #[.agg #[v1, v2], .int .i64 k0] w fun e w' => e = .returned (.int .i64 ((k0 + 3 * t1.length + 3 * t2.length : Nat) : Int)) ∧
      Own2 B C v1 v2 (marksK k0 t1.length) (marksK (k0 + 3 * t1.length) t2.length) w' ∧ Turn B C w w' := by
  obtain ⟨⟨o1, s1⟩, ⟨o2, s2⟩, hne⟩ := h
  obtain ⟨p1, q1, r1, rfl⟩ : ∃ a n c, v1 = .slice a n c := by
    rcases o1.2 with ⟨rfl, _⟩ | ⟨g, c, cur, rfl, _⟩
    · exact ⟨_, _, _, rfl⟩
    · exact ⟨_, _, _, rfl⟩
  obtain ⟨p2, q2, r2, rfl⟩ : ∃ a n c, v2 = .slice a n c := by
    rcases o2.2 with ⟨rfl, _⟩ | ⟨g, c, cur, rfl, _⟩
    · exact ⟨_, _, _, rfl⟩
    · exact ⟨_, _, _, rfl⟩
  have lt1 := fun j hj => World.ownsRow.lt o1 j hj
  have lt2 := fun j hj => World.ownsRow.lt o2 j hj
  have X0 := cells_new w #[.slice p1 q1 r1, .slice p2 q2 r2] 29
  have T0 : Turn B C w (w.alloc (.cells #[.slice p1 q1 r1, .slice p2 q2 r2] 29)) := ⟨rfl, rfl, rfl, by simp, fun k hk _ => Below.heap_alloc _ _ _ hk⟩
  have M1 := Lib.hid (markTriK B _ t1 _ (own_next o1 (World.grownBy_alloc w (.cells #[.slice p1 q1 r1, .slice p2 q2 r2] 29) none)) (by omega) k0 hk0 (by omega))
  have O2 := own_next o2 (World.grownBy_alloc w (.cells #[.slice p1 q1 r1, .slice p2 q2 r2] 29) none)
  obtain ⟨N1, hN1⟩ : ∃ N, t1.length = N := ⟨_, rfl⟩
  obtain ⟨N2, hN2⟩ : ∃ N, t2.length = N := ⟨_, rfl⟩
  rw [hN1] at M1 l1 ⊢
  rw [hN2] at l2 ⊢
  have HN2 := Lib.hid hN2
  obtain ⟨k1, hk1'⟩ : ∃ k, k0 + 3 * N1 = k := ⟨_, rfl⟩
  rw [hk1'] at M1 ⊢
  have hb1' : 0 < k1 ∧ k1 ≤ 40000000 := by omega
  have x0 := X0.now.at 0
  clear hN1 hN2 hk1' o1 o2
  go_enter Try.func21, Try.ntmps21
  go_wp2_with fail
  refine M1.out.mono ?_
  rintro e w1 ⟨rfl, m1, g1⟩
  have T1 : Turn B C w w1 := ⟨g1.os.trans T0.os, g1.tape.trans T0.tape, g1.output.trans T0.output, Nat.le_trans T0.size g1.size, fun k hk hd => (g1.block k (by have := T0.size; omega) (fun e => by have := lt1 k e.symm; have := s1 k e.symm; omega)).trans (T0.block k hk hd)⟩
  have X1 := X0.step (.of_grown (D := B) (E := C) g1 (fun j hj => ⟨(lt1 j hj).1, s1 j hj⟩)) (.inr hC)
  have P2 : OwnT B w1 (.slice p2 q2 r2) t2 := World.ownsRow.kept O2 g1 (by
    rcases hv : (Value.slice p2 q2 r2).ownBlock with _ | j
    · exact .inl rfl
    · exact .inr (fun e => hne j e.symm hv))
  have M2 := markTriK B _ t2 _ P2 (by rw [HN2.out]; omega) k1 hb1'.1 (by omega)
  rw [HN2.out] at M2
  have HM2 := Lib.hid M2
  have x1 := X1.now.at 1
  clear g1 X0 T0 O2 M1 M2 P2 x0
  go_wp2_with fail
  refine HM2.out.mono ?_
  rintro e w2 ⟨rfl, m2, g2⟩
  have T2 : Turn B C w w2 := ⟨g2.os.trans T1.os, g2.tape.trans T1.tape, g2.output.trans T1.output, Nat.le_trans T1.size g2.size, fun k hk hd => (g2.block k (by have := T1.size; omega) (fun e => by have := lt2 k e.symm; have := s2 k e.symm; omega)).trans (T1.block k hk hd)⟩
  have R1 : OwnT B w2 (.slice p1 q1 r1) (marksK k0 N1) := World.ownsRow.kept m1 g2 (by
    rcases hv : (Value.slice p1 q1 r1).ownBlock with _ | j
    · exact .inl rfl
    · exact .inr (fun e => hne j hv e.symm))
  have HR := Lib.hid (show Own2 B C (.slice p1 q1 r1) (.slice p2 q2 r2) (marksK k0 N1) (marksK k1 N2) w2 from ⟨⟨R1, s1⟩, ⟨m2, s2⟩, hne⟩)
  clear g2 X1 T1 m1 m2 HM2 R1 x1
  go_wp2_with fail
  go_ret
  exact ⟨rfl, HR.out, T2⟩
set_option maxRecDepth 100000 in
set_option maxHeartbeats 1600000 in
theorem heldPatch (a1 a2 : Option Addr) (n1 n2 c1 c2 : Nat) (w : World) (k0 : Nat) (i : Is2 w a1 a2 n1 n2 c1 c2 (marksK k0 n1) (marksK (k0 + 3 * n1) n2)) (l1 : n1 ≤ 1048576) (l2 : n2 ≤ 1048576) (hk0 : 0 < k0) (hk1 : k0 ≤ 1000000) :
    Calls Try.prog 22 #[.agg #[.slice a1 n1 c1, .slice a2 n2 c2], .int .i64 k0] w fun e w' => e = .returned (.int .i64 ((k0 + 3 * n1 + 3 * n2 : Nat) : Int)) ∧ Below w.heap.size w w' := by
  have B0 := (Below.refl w.heap.size w).alloc (Nat.le_refl _) (.cells #[.slice a1 n1 c1, .slice a2 n2 c2] 29)
  have X0 := cells_new w #[.slice a1 n1 c1, .slice a2 n2 c2] 29
  have C1' := heldTriK a1 n1 c1 _ k0 (i.1.next B0) (by omega) hk0 (by omega)
  have I2 := Lib.hid i.2
  obtain ⟨k1, hk1'⟩ : ∃ k, k0 + 3 * n1 = k := ⟨_, rfl⟩
  rw [hk1'] at C1' I2 ⊢
  have hb1' : 0 < k1 ∧ k1 ≤ 5000000 := by omega
  have hz1 : ¬ (k1 : Int) < 0 := by omega
  have hz2 : ¬ ((k1 + 3 * n2 : Nat) : Int) < 0 := by omega
  obtain ⟨k2, hk2'⟩ : ∃ k, k1 + 3 * n2 = k := ⟨_, rfl⟩
  have HK2 := Lib.hid hk2'
  rw [hk2'] at hz2 ⊢
  have C1 := Lib.hid C1'
  have x0 := X0.now.at 0
  clear C1' hk1' hk2' i
  go_enter Try.func22, Try.ntmps22
  go_wp2_with fail
  refine C1.out.mono ?_
  rintro e w1 ⟨rfl, hb1⟩
  have B1 := B0.trans (hb1.mono B0.size)
  have x1 := (X0.next hb1).now.at 1
  have C2' := heldTriK a2 n2 c2 _ k1 (I2.out.next B1) (by omega) hb1'.1 (by omega)
  rw [HK2.out] at C2'
  have C2 := Lib.hid C2'
  clear C2' hb1 B0 X0 C1 x0
  go_wp2_with fail
  refine C2.out.mono ?_
  rintro e w2 ⟨rfl, hb2⟩
  have B2 := B1.trans (hb2.mono B1.size)
  clear hb2 x1 B1 C2
  go_wp2_with fail
  go_ret
  exact ⟨rfl, B2⟩
set_option maxRecDepth 100000 in
set_option maxHeartbeats 1600000 in
theorem toPatch (a1 a2 : Option Addr) (n1 n2 c1 c2 : Nat) (t1 t2 : List Tri3) (w : World) (h : Is2 w a1 a2 n1 n2 c1 c2 t1 t2) (l1 : n1 ≤ 1048576) (l2 : n2 ≤ 1048576) :
    Calls Try.prog 12 #[.agg #[.slice a1 n1 c1, .slice a2 n2 c2]] w fun e w' => ∃ v1 v2, e = .returned (.agg #[v1, v2]) ∧ Holds w.heap.size w'.heap.size w' (Own2 w.heap.size w'.heap.size v1 v2 t1 t2) ∧ Below w.heap.size w w' := by
  obtain ⟨W1, hW1⟩ : ∃ W, w.alloc (.cells #[.slice a1 n1 c1, .slice a2 n2 c2] 24) = W := ⟨_, rfl⟩
  obtain ⟨W2, hW2⟩ : ∃ W, W1.alloc (.cells #[.slice none 0 0, .slice none 0 0] 29) = W := ⟨_, rfl⟩
  obtain ⟨W3, hW3⟩ : ∃ W, W2.alloc (.cells #[.slice none 0 0, .slice none 0 0] 29) = W := ⟨_, rfl⟩
  have z1 : W1.heap.size = w.heap.size + 1 := by rw [← hW1]; simp
  have z2 : W2.heap.size = w.heap.size + 2 := by rw [← hW2]; simp [z1]
  have z3 : W3.heap.size = w.heap.size + 3 := by rw [← hW3]; simp [z2]
  have B0 : Below w.heap.size w W3 := by
    rw [← hW3, ← hW2, ← hW1]; exact (((Below.refl w.heap.size w).alloc (Nat.le_refl _) _).alloc (by simp) _).alloc (by simp; omega) _
  have X0 : Cells w.heap.size #[.slice a1 n1 c1, .slice a2 n2 c2] 24 W3 := by
    rw [← hW3, ← hW2, ← hW1]; exact (((cells_new w _ _).alloc _).alloc _).now
  have Y0 : Cells (w.heap.size + 1) #[.slice none 0 0, .slice none 0 0] 29 W3 := by
    rw [← hW3, ← hW2, ← z1]; exact ((cells_new W1 _ _).alloc _).now
  have Z0 : Cells (w.heap.size + 2) #[.slice none 0 0, .slice none 0 0] 29 W3 := by
    rw [← hW3, ← z2]; exact (cells_new W2 _ _).now
  have HH := Lib.hid h
  have HZ3 := Lib.hid z3
  have HW := Lib.hid (And.intro hW1 (And.intro hW2 hW3))
  have x0 := X0.at 0
  clear h z1 z2 z3 hW1 hW2 hW3
  go_enter Try.func12, Try.ntmps12
  go_wp2_with fail
  rw [HW.out.1, HW.out.2.1, HW.out.2.2]
  refine (toTriS a1 n1 c1 t1 _ (HH.out.1.next B0) l1).mono ?_
  rintro e w1 ⟨v, rfl, o1, hb⟩
  have s1 := fun j hj => World.ownsRow.lt o1 j hj
  rw [HZ3.out] at o1 s1
  obtain ⟨p1, k1, r1, rfl⟩ : ∃ a n c, v = .slice a n c := by
    rcases o1.2 with ⟨rfl, _⟩ | ⟨g, c, cur, rfl, _⟩
    · exact ⟨_, _, _, rfl⟩
    · exact ⟨_, _, _, rfl⟩
  have B1 := B0.trans (hb.mono B0.size)
  have hwz : w.heap.size + 3 ≤ w1.heap.size := by have := hb.size; rw [HZ3.out] at this; exact this
  have X1 : Cells w.heap.size #[.slice a1 n1 c1, .slice a2 n2 c2] 24 w1 := (hb.block _ (by rw [HZ3.out]; omega)).trans X0
  have Y1 : Cells (w.heap.size + 1) #[.slice none 0 0, .slice none 0 0] 29 w1 := (hb.block _ (by rw [HZ3.out]; omega)).trans Y0
  have Z1 : Cells (w.heap.size + 2) #[.slice none 0 0, .slice none 0 0] 29 w1 := (hb.block _ (by rw [HZ3.out]; omega)).trans Z0
  have z0 := Z1.at 0
  have f0 := Z1.free 0
  have B2 := B1.setCell (p := ⟨w.heap.size + 2, 0, none⟩) (by show w.heap.size ≤ w.heap.size + 2; omega) (.slice p1 k1 r1)
  have x1 : (w1.setCell ⟨w.heap.size + 2, 0, none⟩ (.slice p1 k1 r1)).cell? ⟨w.heap.size, 1, none⟩ = some (.slice a2 n2 c2) := (World.cell?_of_block (w := w1) (Below.heap_setCell _ _ _ _ (by show w.heap.size ≠ w.heap.size + 2; omega))).trans (X1.at 1)
  have Y2 : Cells (w.heap.size + 1) #[.slice none 0 0, .slice none 0 0] 29 (w1.setCell ⟨w.heap.size + 2, 0, none⟩ (.slice p1 k1 r1)) := (Below.heap_setCell _ _ _ _ (by show w.heap.size + 1 ≠ w.heap.size + 2; omega)).trans Y1
  have Z2 : Cells (w.heap.size + 2) #[.slice p1 k1 r1, .slice none 0 0] 29 (w1.setCell ⟨w.heap.size + 2, 0, none⟩ (.slice p1 k1 r1)) := by
    unfold Cells at Z1 ⊢; simp [World.setCell, Array.getElem?_modify, Z1]
  have hz2 : (w1.setCell ⟨w.heap.size + 2, 0, none⟩ (.slice p1 k1 r1)).heap.size = w1.heap.size := by simp [World.setCell]
  have o2 : OwnT (w.heap.size + 3) (w1.setCell ⟨w.heap.size + 2, 0, none⟩ (.slice p1 k1 r1)) (.slice p1 k1 r1) t1 := ownsRow_setCell_below o1 (by show w.heap.size + 2 < w.heap.size + 3; omega) _
  clear hb x0 B0 X0 Y0 Z0 B1 X1 Y1 Z1 o1
  go_wp2_with fail
  generalize w1.setCell ⟨w.heap.size + 2, 0, none⟩ (.slice p1 k1 r1) = u1 at B2 x1 Y2 Z2 hz2 o2 ⊢
  clear z0 f0
  refine (toTriS a2 n2 c2 t2 _ (HH.out.2.next B2) l2).mono ?_
  rintro e w2 ⟨v, rfl, o3, hb⟩
  have s3 := fun j hj => World.ownsRow.lt o3 j hj
  rw [hz2] at o3 s3
  obtain ⟨p2, k2, r2, rfl⟩ : ∃ a n c, v = .slice a n c := by
    rcases o3.2 with ⟨rfl, _⟩ | ⟨g, c, cur, rfl, _⟩
    · exact ⟨_, _, _, rfl⟩
    · exact ⟨_, _, _, rfl⟩
  have B3 := B2.trans (hb.mono B2.size)
  have hw2 : w1.heap.size ≤ w2.heap.size := by have := hb.size; omega
  have o4 := own_next o2 (grown_of_below hb)
  have Y3 : Cells (w.heap.size + 1) #[.slice none 0 0, .slice none 0 0] 29 w2 := (hb.block _ (by omega)).trans Y2
  have Z3 : Cells (w.heap.size + 2) #[.slice p1 k1 r1, .slice none 0 0] 29 w2 := (hb.block _ (by omega)).trans Z2
  have z1 := Z3.at 1
  have f1 := Z3.free 1
  have Z4 : Cells (w.heap.size + 2) #[.slice p1 k1 r1, .slice p2 k2 r2] 29 (w2.setCell ⟨w.heap.size + 2, 1, none⟩ (.slice p2 k2 r2)) := by
    unfold Cells at Z3 ⊢; simp [World.setCell, Array.getElem?_modify, Z3]
  have g0 := Z4.at 0
  have g1 := Z4.at 1
  have y0 := Y3.at 0
  have y1 := Y3.at 1
  have q0 := Y3.free 0
  have q1 := Y3.free 1
  have hfin : Hid (∀ W : World, W.heap.size = w2.heap.size → (∀ k, w.heap.size + 3 ≤ k → W.heap[k]? = w2.heap[k]?) → Holds w.heap.size W.heap.size W (Own2 w.heap.size W.heap.size (.slice p1 k1 r1) (.slice p2 k2 r2) t1 t2)) := Lib.hid (fun W hs he => by
    have q1 : OwnT (w.heap.size + 3) W (.slice p1 k1 r1) t1 := by
      obtain ⟨h1, h2⟩ := o4
      refine ⟨h1, ?_⟩
      rcases h2 with h2 | ⟨g, cap, cur, e, hB, hh, r⟩
      · exact .inl h2
      · exact .inr ⟨g, cap, cur, e, hB, (he g hB).trans hh, r⟩
    have q2 : OwnT w1.heap.size W (.slice p2 k2 r2) t2 := by
      obtain ⟨h1, h2⟩ := o3
      refine ⟨h1, ?_⟩
      rcases h2 with h2 | ⟨g, cap, cur, e, hB, hh, r⟩
      · exact .inl h2
      · exact .inr ⟨g, cap, cur, e, hB, (he g (by omega)).trans hh, r⟩
    exact ⟨own2_lives, Nat.le_refl _, ⟨own_base q1 (by omega), fun j hj => by have := (s1 j hj).2; omega⟩, ⟨own_base q2 (by omega), fun j hj => by have := (s3 j hj).2; omega⟩, fun j h1 h2 => by have := (s1 j h1).2; have := (s3 j h2).1; omega⟩)
  have HB := Lib.hid B3
  clear hb x1 Y2 Z2 o2 o3 o4 s1 s3 B2 B3 Y3 Z3 Z4
  go_wp2_with fail
  refine bodyPost_ret (v := .agg #[.slice p1 k1 r1, .slice p2 k2 r2]) (by simp [results, Try.results12, go_sem, *]) rfl ⟨_, _, rfl, hfin.out _ (by simp [World.setCell]) ?_, ?_⟩
  · intro k hk
    repeat rw [Below.heap_setCell _ _ _ _ (by first | (show k ≠ w.heap.size + 1; omega) | (show k ≠ w.heap.size + 2; omega))]
  · exact (((HB.out.setCell (p := ⟨w.heap.size + 2, 1, none⟩) (by show w.heap.size ≤ w.heap.size + 2; omega) _).setCell (p := ⟨w.heap.size + 1, 0, none⟩) (by show w.heap.size ≤ w.heap.size + 1; omega) _).setCell (p := ⟨w.heap.size + 1, 1, none⟩) (by show w.heap.size ≤ w.heap.size + 1; omega) _)
end Go.Proofs.Ytofkploffcplhaa
/- The exact laws' steps at patches, told by where things lie. -/
namespace Go.Proofs.Ytofkploffcplhaa
open Go.RowKit Go.WideShapes
theorem Own2.readP {B C : Nat} {w : World} {a1 a2 : Option Addr} {c1 c2 : Nat} {t1 t2 : List Tri3} {n1 n2 : Nat} (h : Own2 B C (.slice a1 n1 c1) (.slice a2 n2 c2) t1 t2 w) (m : SmAll t1 ∧ SmAll t2) (l : t1.length = n1 ∧ t2.length = n2) : Is2 w a1 a2 n1 n2 c1 c2 t1 t2 := h.read m.1 m.2 l.1 l.2
theorem own2_shape {B C : Nat} {w : World} {v1 v2 : Value} {t1 t2 : List Tri3} {n1 n2 : Nat} (h : Holds B C w (Own2 B C v1 v2 t1 t2)) (l : t1.length = n1 ∧ t2.length = n2) : ∃ a1 c1 a2 c2, v1 = .slice a1 n1 c1 ∧ v2 = .slice a2 n2 c2 ∧ Holds B C w (Own2 B C (.slice a1 n1 c1) (.slice a2 n2 c2) t1 t2) := by
  obtain ⟨rfl, rfl⟩ := l
  obtain ⟨⟨o1, _⟩, ⟨o2, _⟩, _⟩ := h.now
  obtain ⟨a1, c1, rfl⟩ : ∃ a c, v1 = .slice a t1.length c := by
    rcases o1.2 with ⟨rfl, e⟩ | ⟨g, c, cur, rfl, _⟩
    · exact ⟨none, 0, by rw [e]⟩
    · exact ⟨_, _, rfl⟩
  obtain ⟨a2, c2, rfl⟩ : ∃ a c, v2 = .slice a t2.length c := by
    rcases o2.2 with ⟨rfl, e⟩ | ⟨g, c, cur, rfl, _⟩
    · exact ⟨none, 0, by rw [e]⟩
    · exact ⟨_, _, rfl⟩
  exact ⟨_, _, _, _, rfl, rfl, h⟩
theorem exToP (a1 a2 : Option Addr) (n1 n2 c1 c2 : Nat) (t1 t2 : List Tri3) (w : World) (h : Is2 w a1 a2 n1 n2 c1 c2 t1 t2) (s : n1 ≤ 1048576 ∧ n2 ≤ 1048576) (l : t1.length = n1 ∧ t2.length = n2) :
    Calls Try.prog 12 #[.agg #[.slice a1 n1 c1, .slice a2 n2 c2]] w fun e w' => ∃ x1 y1 x2 y2, e = .returned (.agg #[.slice x1 n1 y1, .slice x2 n2 y2]) ∧ Holds w.heap.size w'.heap.size w' (Own2 w.heap.size w'.heap.size (.slice x1 n1 y1) (.slice x2 n2 y2) t1 t2) ∧ Below w.heap.size w w' :=
  (toPatch a1 a2 n1 n2 c1 c2 t1 t2 w h s.1 s.2).mono fun e w' ⟨v1, v2, he, ho, hb⟩ => by
    obtain ⟨x1, y1, x2, y2, rfl, rfl, H⟩ := own2_shape ho l
    exact ⟨_, _, _, _, he, H, hb⟩
theorem exMarkP {B C : Nat} {a1 a2 : Option Addr} {n1 n2 c1 c2 : Nat} {t1 t2 : List Tri3} {w : World} (h : Holds B C w (Own2 B C (.slice a1 n1 c1) (.slice a2 n2 c2) t1 t2)) (s : n1 ≤ 1048576 ∧ n2 ≤ 1048576) (l : t1.length = n1 ∧ t2.length = n2) (k0 : Nat) (hk0 : 0 < k0) (hk1 : k0 ≤ 30000000) :
    Calls Try.prog 21 #[.agg #[.slice a1 n1 c1, .slice a2 n2 c2], .int .i64 k0] w fun e w' => e = .returned (.int .i64 ((k0 + (3 * n1 + 3 * n2) : Nat) : Int)) ∧ Holds B C w' (Own2 B C (.slice a1 n1 c1) (.slice a2 n2 c2) (marksK k0 n1) (marksK (k0 + 3 * n1) n2)) ∧ Turn B C w w' := by
  obtain ⟨rfl, rfl⟩ := l
  refine (markPatch B C _ _ t1 t2 w h.now h.le s.1 s.2 k0 hk0 hk1).mono fun e w' ⟨he, ho, ht⟩ => ⟨by rw [he, Nat.add_assoc], ⟨own2_lives, Nat.le_trans h.le ht.size, ho⟩, ht⟩
theorem exHeldP {B C : Nat} {a1 a2 : Option Addr} {n1 n2 c1 c2 : Nat} {w : World} {k0 : Nat} (h : Holds B C w (Own2 B C (.slice a1 n1 c1) (.slice a2 n2 c2) (marksK k0 n1) (marksK (k0 + 3 * n1) n2))) (s : n1 ≤ 1048576 ∧ n2 ≤ 1048576) (hk0 : 0 < k0) (hk1 : k0 ≤ 1000000) :
    Calls Try.prog 22 #[.agg #[.slice a1 n1 c1, .slice a2 n2 c2], .int .i64 k0] w fun e w' => e = .returned (.int .i64 ((k0 + (3 * n1 + 3 * n2) : Nat) : Int)) ∧ Below w.heap.size w w' :=
  (heldPatch a1 a2 n1 n2 c1 c2 w k0 (h.now.readP ⟨smAll_marks _ _ s.1 (by omega), smAll_marks _ _ s.2 (by omega)⟩ ⟨marksK_len _ _, marksK_len _ _⟩) s.1 s.2 hk0 hk1).mono fun e w' ⟨he, hb⟩ => ⟨by rw [he, Nat.add_assoc], hb⟩
end Go.Proofs.Ytofkploffcplhaa
