/- Slices of triples that a call owns read as such; the exact laws' own comparison of two. -/
import Derived.Test.YtonikgmplgcplaaG02
import Derived.Deep.RegionHeld3
import Derived.Test.YtonikgmplgcplaaG01
namespace Go.Proofs.Ytonikgmplgcplaa
open Go.RowKit Go.WideShapes
theorem IsTris.len {w : World} {a : Option Addr} {len cap : Nat} {ts : List Tri3} (h : IsTris w a len cap ts) : ts.length = len := by
  rcases h with ⟨_, rfl, _, rfl⟩ | ⟨x, _, _, _, h, _⟩
  · rfl
  · exact h
theorem IsTris.grown {w w' : World} {a : Option Addr} {len cap : Nat} {ts : List Tri3} (h : IsTris w a len cap ts) (hg : w.grownBy w' none) : IsTris w' a len cap ts := by
  rcases h with h | ⟨x, rfl, h1, h2, h3, h4⟩
  · exact .inl h
  · refine .inr ⟨x, rfl, h1, h2, h3, fun i t hi => ?_⟩
    obtain ⟨c0, c1, c2, w0, w1, w2⟩ := h4 i t hi
    exact ⟨hg.cell c0 (by simp), hg.cell c1 (by simp), hg.cell c2 (by simp), w0, w1, w2⟩
theorem IsTris.next {w w' : World} {a : Option Addr} {len cap : Nat} {ts : List Tri3} (h : IsTris w a len cap ts) (hb : Below w.heap.size w w') : IsTris w' a len cap ts := h.grown (grown_of_below hb)
theorem flat_at (ts : List Tri3) : ∀ (i : Nat) (t : Tri3), ts[i]? = some t → (flat ts)[i * 3]? = some (.string t.1) ∧ (flat ts)[i * 3 + 1]? = some (.string t.2.1) ∧ (flat ts)[i * 3 + 2]? = some (.string t.2.2) := by
  induction ts with
  | nil => intro i t h; simp at h
  | cons u r ih =>
    intro i t h
    have e : flat (u :: r) = .string u.1 :: .string u.2.1 :: .string u.2.2 :: flat r := by simp [flat]
    rw [e]
    cases i with
    | zero => simp at h; subst h; exact ⟨rfl, rfl, rfl⟩
    | succ n =>
      have := ih n t (by simpa using h)
      rw [show (n + 1) * 3 = n * 3 + 3 from by omega]
      exact this
/-- What the call owns can be read. -/
theorem OwnT.is {B : Nat} {w : World} {v : Value} {ts : List Tri3} (h : OwnT B w v ts) (hm : ∀ t ∈ ts, t.1.size ≤ maxLen ∧ t.2.1.size ≤ maxLen ∧ t.2.2.size ≤ maxLen) : ∃ a cap, v = .slice a ts.length cap ∧ IsTris w a ts.length cap ts := by
  have h0 := h
  obtain ⟨_, hc⟩ := h
  rcases hc with ⟨rfl, hl⟩ | ⟨g, cap, cur, rfl, _, _, h1, h2, _⟩
  · exact ⟨none, 0, by rw [hl], .inl ⟨rfl, hl, rfl, List.length_eq_zero_iff.1 hl⟩⟩
  · refine ⟨_, cap, rfl, .inr ⟨_, rfl, h1, h2, rfl, fun i t hi => ?_⟩⟩
    obtain ⟨f0, f1, f2⟩ := flat_at ts i t hi
    have hl : i < ts.length := (List.getElem?_eq_some_iff.1 hi).1
    obtain ⟨m0, m1, m2⟩ := hm t (List.mem_of_getElem? hi)
    have k0 := h0.cellAt (i * 3) (by omega)
    have k1 := h0.cellAt (i * 3 + 1) (by omega)
    have k2 := h0.cellAt (i * 3 + 2) (by omega)
    rw [Nat.mul_comm i 3] at k0 k1 k2
    rw [Nat.mul_comm i 3] at f0 f1 f2
    refine ⟨?_, ?_, ?_, m0, m1, m2⟩
    · rw [add_plain, Nat.zero_add]; exact k0.trans f0
    · rw [add_plain, Nat.zero_add]; exact k1.trans f1
    · rw [add_plain, Nat.zero_add]; exact k2.trans f2
theorem IsTris.small {w : World} {a : Option Addr} {len cap : Nat} {ts : List Tri3} (h : IsTris w a len cap ts) : ∀ t ∈ ts, t.1.size ≤ maxLen ∧ t.2.1.size ≤ maxLen ∧ t.2.2.size ≤ maxLen := by
  intro t ht
  rcases h with ⟨_, _, _, rfl⟩ | ⟨x, rfl, h1, h2, h3, h4⟩
  · simp at ht
  · obtain ⟨i, hi⟩ := List.mem_iff_getElem?.1 ht
    obtain ⟨_, _, _, w0, w1, w2⟩ := h4 i t hi
    exact ⟨w0, w1, w2⟩
set_option maxRecDepth 100000 in
set_option maxHeartbeats 1600000 in
theorem eqTriS (a b : Option Addr) (la ca lb cb : Nat) (ts : List Tri3) (w : World) (ha : IsTris w a la ca ts) (hb : IsTris w b lb cb ts) (hs : la ≤ 1048576) :
    Calls Try.prog 8 #[.slice a la ca, .slice b lb cb] w fun e w' => e = .returned (.bool true) ∧ Below w.heap.size w w' := by
  have hlb : lb = la := by rw [← ha.len, ← hb.len]
  subst hlb
  have HA := Lib.hid ha
  have HB := Lib.hid hb
  have HT := Lib.hid ha.len
  clear ha hb
  go_enter Try.func8, Try.ntmps8
  go_wp2_with fail
  go_loopw [5] (fun i wr => ∃ k : Nat, k ≤ lb ∧ i = .int .i64 k ∧ Below w.heap.size w wr) (fun i _ => lb - (intOf i).toNat)
  case atStart => exact ⟨0, Nat.zero_le _, rfl, Below.refl _ _⟩
  case round =>
    obtain ⟨k, hk, rfl, hnx⟩ := hrel
    by_cases hlt : k < lb
    · obtain ⟨x, off, rfl, hx, _, _, hts, hc⟩ := HA.out.cells (by omega)
      obtain ⟨y, off', rfl, hy, _, _, _, hd⟩ := HB.out.cells (by omega)
      have ht : ts[k]? = some ts[k] := List.getElem?_eq_getElem (by omega)
      obtain ⟨c0, c1, c2, m0, m1, m2⟩ := hc k _ ht
      obtain ⟨d0, d1, d2, n0, n1, n2⟩ := hd k _ ht
      clear m0 m1 m2 n0 n1 n2
      rw [← hnx.cell (p := ⟨x, _, none⟩) hx] at c0 c1 c2
      rw [← hnx.cell (p := ⟨y, _, none⟩) hy] at d0 d1 d2
      generalize ts[k] = t at c0 c1 c2 d0 d1 d2
      clear ht hts hc hd
      have E := Lib.hid (eqTri t.1 t.2.1 t.2.2)
      go_wp2_with fail
      have l1 : x < wr.heap.size := Nat.lt_of_lt_of_le hx hnx.size
      have l2 : y < wr.heap.size := Nat.lt_of_lt_of_le hy hnx.size
      go_region_held3 (fun w' => w'.cell? ⟨x, off + k * 3, none⟩ = some (.string t.1) ∧ w'.cell? ⟨x, off + k * 3 + 1, none⟩ = some (.string t.2.1) ∧ w'.cell? ⟨x, off + k * 3 + 2, none⟩ = some (.string t.2.2) ∧ w'.cell? ⟨y, off' + k * 3, none⟩ = some (.string t.1) ∧ w'.cell? ⟨y, off' + k * 3 + 1, none⟩ = some (.string t.2.1) ∧ w'.cell? ⟨y, off' + k * 3 + 2, none⟩ = some (.string t.2.2))
        (first | go_keep | (go_split_ands; refine ⟨?_, ?_, ?_, ?_, ?_, ?_⟩ <;> (rw [ha4.cell (by first | (simp; done) | exact World.block_lt_of_cell? _ _ (by assumption))]; assumption)))
        (first | (go_at_call 17; refine (E.out _).mono ?_; rintro e wa ⟨rfl, ha4⟩))
      have B : Below w.heap.size w wa := (Below.drew hnx).trans (ha4.mono hnx.size)
      clear ha4 hnx c0 c1 c2 d0 d1 d2
      go_wp2_with fail
      go_roundw
      case rel => exact ⟨k + 1, by omega, by go_num, B⟩
      case measure => simp [intOf]; omega
    · go_wp2_with fail
      go_ret
      exact ⟨rfl, hnx⟩
end Go.Proofs.Ytonikgmplgcplaa
/- A slice of steps of a proof that came in: what its cells hold. -/
namespace Go.Proofs.Ytonikgmplgcplaa
open Go.ChangeShapes Go.WideShapes Go.ChangeAt Go.RowKit
/-- A step: its triple, its rule, what it uses. -/
abbrev StepV := Tri3 × Int × List Int
/-- The slice is nil, or its first cells hold these numbers. -/
def IsInts (w : World) (a : Option Addr) (len cap : Nat) (zs : List Int) : Prop :=
  (a = none ∧ len = 0 ∧ cap = 0 ∧ zs = []) ∨
  ∃ x, a = some x ∧ len ≤ cap ∧ cap ≤ maxLen ∧ zs.length = len ∧ ∀ (i : Nat) (z : Int), zs[i]? = some z → w.cell? (x.add i) = some (.int .i64 z)
theorem open_int64s {H : Type} {enc : TypeId × Value → H} {P : Program} {w : World} {base : Nat} {spare : Nat → Bool} {held : Bool} {t e : TypeId} {fuel : Nat} {c : Value} {x : DataW H × List MemPlace}
    (ht : P.underlying t = some (.slice e)) (he : P.underlying e = some (.int .i64)) (hC : P.cellsOf e = 1)
    (h : DataW.trod enc P w base spare held fuel t [c] = some x) : ∃ a len cap zs, c = .slice a len cap ∧ IsInts w a len cap zs := by
  rcases open_ints ht he hC h with ⟨hcs, _⟩ | ⟨y, len, cap, zs, hcs, _, hl, hm, hz, _, hcell, _⟩
  · obtain rfl : c = .slice none 0 0 := by simpa using hcs
    exact ⟨_, _, _, [], rfl, .inl ⟨rfl, rfl, rfl, rfl⟩⟩
  · obtain rfl : c = .slice (some y) len cap := by simpa using hcs
    have hlz : len ≤ zs.length := by rw [hz]; split <;> omega
    refine ⟨_, _, _, zs.take len, rfl, .inr ⟨y, rfl, hl, hm, by rw [List.length_take]; omega, fun i z hi => ?_⟩⟩
    have hil : i < len := by have := (List.getElem?_eq_some_iff.1 hi).1; rw [List.length_take] at this; omega
    rw [List.getElem?_take_of_lt hil] at hi
    have := hcell i (by omega)
    rw [List.getD_eq_getElem?_getD, hi] at this
    exact this
theorem IsInts.len {w : World} {a : Option Addr} {len cap : Nat} {zs : List Int} (h : IsInts w a len cap zs) : zs.length = len := by
  rcases h with ⟨_, rfl, _, rfl⟩ | ⟨x, _, _, _, h, _⟩
  · rfl
  · exact h
theorem IsInts.next {w w' : World} {a : Option Addr} {len cap : Nat} {zs : List Int} (h : IsInts w a len cap zs) (hb : Below w.heap.size w w') : IsInts w' a len cap zs := by
  rcases h with h | ⟨x, rfl, h1, h2, h3, h4⟩
  · exact .inl h
  · exact .inr ⟨x, rfl, h1, h2, h3, fun i z hi => (grown_of_below hb).cell (h4 i z hi) (by simp)⟩
theorem IsInts.cells {w : World} {a : Option Addr} {len cap : Nat} {zs : List Int} (h : IsInts w a len cap zs) (h0 : 0 < len) : ∃ b off, a = some ⟨b, off, none⟩ ∧ b < w.heap.size ∧ len ≤ cap ∧ cap ≤ maxLen ∧ zs.length = len ∧
    ∀ (i : Nat) (z : Int), zs[i]? = some z → w.cell? ⟨b, off + i, none⟩ = some (.int .i64 z) := by
  rcases h with ⟨_, rfl, _⟩ | ⟨x, rfl, h1, h2, h3, h4⟩
  · omega
  · obtain ⟨b, off, spot⟩ := x
    have ht : zs[0]? = some zs[0] := List.getElem?_eq_getElem (by omega)
    have hc := h4 0 _ ht
    obtain rfl : spot = none := by simpa [Addr.add] using World.cell?_spot hc
    exact ⟨b, off, rfl, by have := World.block_lt_of_cell? _ _ hc; simpa [Addr.add] using this, h1, h2, h3, fun i z hi => by have := h4 i z hi; rwa [add_plain] at this⟩
theorem open_int_one {H : Type} {enc : TypeId × Value → H} {P : Program} {w : World} {base : Nat} {spare : Nat → Bool} {held : Bool} {t : TypeId} {fuel : Nat} {v : Value} {x : DataW H × List MemPlace}
    (ht : P.underlying t = some (.int .i64)) (h : DataW.trod enc P w base spare held fuel t [v] = some x) : ∃ r, v = .int .i64 r := by
  obtain ⟨r, e, _⟩ := DataW.trod_int ht h
  simp only [List.cons.injEq, and_true] at e
  exact ⟨r, e⟩
def StepAt (w : World) (x : Addr) (i : Nat) (t : StepV) : Prop :=
  w.cell? (x.add (5 * i)) = some (.string t.1.1) ∧ w.cell? (x.add (5 * i + 1)) = some (.string t.1.2.1) ∧ w.cell? (x.add (5 * i + 2)) = some (.string t.1.2.2) ∧ w.cell? (x.add (5 * i + 3)) = some (.int .i64 t.2.1) ∧
  (∃ a n c, w.cell? (x.add (5 * i + 4)) = some (.slice a n c) ∧ IsInts w a n c t.2.2) ∧ t.1.1.size ≤ maxLen ∧ t.1.2.1.size ≤ maxLen ∧ t.1.2.2.size ≤ maxLen
/-- The slice is nil, or its cells hold these steps. -/
def IsSteps (w : World) (a : Option Addr) (len cap : Nat) (ts : List StepV) : Prop :=
  (a = none ∧ len = 0 ∧ cap = 0 ∧ ts = []) ∨
  ∃ x, a = some x ∧ len ≤ cap ∧ cap ≤ maxLen ∧ ts.length = len ∧ ∀ (i : Nat) (t : StepV), ts[i]? = some t → StepAt w x i t
theorem open_steps {H : Type} {enc : TypeId × Value → H} {P : Program} {w : World} {base : Nat} {spare : Nat → Bool} {held : Bool} {t e tT tI tS : TypeId} {g0 g1 g2 f0 f1 f2 : Field} {fuel : Nat} {a : Option Addr} {len cap : Nat} {x : DataW H × List MemPlace}
    (ht : P.underlying t = some (.slice e)) (he : P.underlying e = some (.struct #[g0, g1, g2])) (hC : P.cellsOf e = 5)
    (hg0 : g0.type = tT ∧ g0.offset = 0 ∧ P.cellsOf tT = 3) (hg1 : P.underlying g1.type = some (.int .i64) ∧ g1.offset = 3 ∧ P.cellsOf g1.type = 1) (hg2 : g2.type = tS ∧ g2.offset = 4 ∧ P.cellsOf tS = 1)
    (hT : P.underlying tT = some (.struct #[f0, f1, f2])) (hS : P.underlying tS = some (.slice tI)) (hI : P.underlying tI = some (.int .i64)) (cI : P.cellsOf tI = 1)
    (h0 : P.underlying f0.type = some .string ∧ f0.offset = 0 ∧ P.cellsOf f0.type = 1) (h1 : P.underlying f1.type = some .string ∧ f1.offset = 1 ∧ P.cellsOf f1.type = 1) (h2 : P.underlying f2.type = some .string ∧ f2.offset = 2 ∧ P.cellsOf f2.type = 1)
    (h : DataW.trod enc P w base spare held fuel t [.slice a len cap] = some x) : ∃ ts, IsSteps w a len cap ts := by
  rcases Deep.open_slice ht h with ⟨hcs, _⟩ | ⟨x, len', cap', m, n, D, Pl, hcs, _, hl, hm, hmm, _, hi⟩
  · simp only [List.cons.injEq, Value.slice.injEq, and_true] at hcs
    exact ⟨[], .inl ⟨hcs.1, hcs.2.1, hcs.2.2, rfl⟩⟩
  · simp only [List.cons.injEq, Value.slice.injEq, and_true] at hcs
    obtain ⟨rfl, rfl, rfl⟩ := hcs
    have hlm : len ≤ m := by rw [hmm]; split <;> omega
    obtain ⟨ts, hts, hq⟩ := list_of (Q := StepAt w x) len fun i hil => by
      obtain ⟨cs, hc, htr⟩ := hi i (by omega)
      rw [hC] at hc
      obtain ⟨_, hcl, hat⟩ := World.cells?_some hc
      obtain ⟨y0, y1, y2, n', _, _, k0, k1, k2⟩ := Deep.trod_struct3 he htr
      rw [hg0.1, hg0.2.1, hg0.2.2] at k0
      rw [hg1.2.1, hg1.2.2] at k1
      rw [hg2.1, hg2.2.1, hg2.2.2] at k2
      obtain ⟨z0, z1, z2, n2, _, _, j0, j1, j2⟩ := Deep.trod_struct3 hT k0
      rw [h0.2.1, h0.2.2] at j0
      rw [h1.2.1, h1.2.2] at j1
      rw [h2.2.1, h2.2.2] at j2
      match cs, hcl with
      | [v0, v1, v2, v3, v4], _ =>
        simp only [List.drop_succ_cons, List.drop_zero, List.take_succ_cons, List.take_zero] at j0 j1 j2 k1 k2
        obtain ⟨s, e0, _, w0⟩ := DataW.trod_string h0.1 j0
        obtain ⟨p, e1, _, w1⟩ := DataW.trod_string h1.1 j1
        obtain ⟨o, e2, _, w2⟩ := DataW.trod_string h2.1 j2
        obtain ⟨r, e3⟩ : ∃ r, v3 = .int .i64 r := open_int_one hg1.1 k1
        obtain ⟨a', n3, c', zs, e4, hz⟩ := open_int64s hS hI cI k2
        simp only [List.cons.injEq, and_true] at e0 e1 e2
        subst e0 e1 e2 e3 e4
        have ha : ∀ j, j < 5 → w.cell? (x.add (5 * i + j)) = [Value.string s, .string p, .string o, .int .i64 r, .slice a' n3 c'][j]? := by
          intro j hj
          rw [← hat j hj, Deep.add_add, Nat.mul_comm]
        exact ⟨((s, p, o), r, zs), (ha 0 (by omega)).trans rfl, (ha 1 (by omega)).trans rfl, (ha 2 (by omega)).trans rfl, (ha 3 (by omega)).trans rfl, ⟨a', n3, c', (ha 4 (by omega)).trans rfl, hz⟩, w0, w1, w2⟩
    exact ⟨ts, .inr ⟨x, rfl, hl, hm, hts, hq⟩⟩
theorem IsSteps.len {w : World} {a : Option Addr} {len cap : Nat} {ts : List StepV} (h : IsSteps w a len cap ts) : ts.length = len := by
  rcases h with ⟨_, rfl, _, rfl⟩ | ⟨x, _, _, _, h, _⟩
  · rfl
  · exact h
theorem IsSteps.next {w w' : World} {a : Option Addr} {len cap : Nat} {ts : List StepV} (h : IsSteps w a len cap ts) (hb : Below w.heap.size w w') : IsSteps w' a len cap ts := by
  have hg := grown_of_below hb
  rcases h with h | ⟨x, rfl, h1, h2, h3, h4⟩
  · exact .inl h
  · refine .inr ⟨x, rfl, h1, h2, h3, fun i t hi => ?_⟩
    obtain ⟨c0, c1, c2, c3, ⟨a', n, c, c4, hz⟩, m⟩ := h4 i t hi
    exact ⟨hg.cell c0 (by simp), hg.cell c1 (by simp), hg.cell c2 (by simp), hg.cell c3 (by simp), ⟨a', n, c, hg.cell c4 (by simp), hz.next hb⟩, m⟩
/-- The place of a slice that has an element, and its cells. -/
theorem IsSteps.cells {w : World} {a : Option Addr} {len cap : Nat} {ts : List StepV} (h : IsSteps w a len cap ts) (h0 : 0 < len) : ∃ b off, a = some ⟨b, off, none⟩ ∧ b < w.heap.size ∧ len ≤ cap ∧ cap ≤ maxLen ∧ ts.length = len ∧
    ∀ (i : Nat) (t : StepV), ts[i]? = some t → w.cell? ⟨b, off + i * 5, none⟩ = some (.string t.1.1) ∧ w.cell? ⟨b, off + i * 5 + 1, none⟩ = some (.string t.1.2.1) ∧ w.cell? ⟨b, off + i * 5 + 2, none⟩ = some (.string t.1.2.2) ∧ w.cell? ⟨b, off + i * 5 + 3, none⟩ = some (.int .i64 t.2.1) ∧
      (∃ a n c, w.cell? ⟨b, off + i * 5 + 4, none⟩ = some (.slice a n c) ∧ IsInts w a n c t.2.2) ∧ t.1.1.size ≤ maxLen ∧ t.1.2.1.size ≤ maxLen ∧ t.1.2.2.size ≤ maxLen := by
  rcases h with ⟨_, rfl, _⟩ | ⟨x, rfl, h1, h2, h3, h4⟩
  · omega
  · obtain ⟨b, off, spot⟩ := x
    have ht : ts[0]? = some ts[0] := List.getElem?_eq_getElem (by omega)
    have hc := (h4 0 _ ht).1
    obtain rfl : spot = none := by simpa [Addr.add] using World.cell?_spot hc
    refine ⟨b, off, rfl, by have := World.block_lt_of_cell? _ _ hc; simpa [Addr.add] using this, h1, h2, h3, fun i t hi => ?_⟩
    obtain ⟨c0, c1, c2, c3, ⟨a', n, c, c4, hz⟩, m⟩ := h4 i t hi
    have e : ∀ j, (⟨b, off, none⟩ : Addr).add (5 * i + j) = ⟨b, off + i * 5 + j, none⟩ := fun j => by rw [add_plain, show off + (5 * i + j) = off + i * 5 + j from by omega]
    have e0 : (⟨b, off, none⟩ : Addr).add (5 * i) = ⟨b, off + i * 5, none⟩ := e 0
    rw [e0] at c0
    rw [e] at c1 c2 c3 c4
    exact ⟨c0, c1, c2, c3, ⟨a', n, c, c4, hz⟩, m⟩
theorem IsSteps.small {w : World} {a : Option Addr} {len cap : Nat} {ts : List StepV} (h : IsSteps w a len cap ts) : ∀ t ∈ ts, t.1.1.size ≤ maxLen ∧ t.1.2.1.size ≤ maxLen ∧ t.1.2.2.size ≤ maxLen := by
  intro t ht
  rcases h with ⟨_, _, _, rfl⟩ | ⟨x, rfl, h1, h2, h3, h4⟩
  · simp at ht
  · obtain ⟨i, hi⟩ := List.mem_iff_getElem?.1 ht
    exact (h4 i t hi).2.2.2.2.2
end Go.Proofs.Ytonikgmplgcplaa
/- The exact laws' sizes of numbers and of steps. -/
namespace Go.Proofs.Ytonikgmplgcplaa
open Go.RowKit Go.WideShapes
def tot (ts : List StepV) : Nat := (ts.map (·.2.2.length)).sum
theorem tot_snoc (ts : List StepV) (t : StepV) : tot (ts ++ [t]) = tot ts + t.2.2.length := by simp [tot]
theorem szInts (a : Option Addr) (len cap : Nat) (w : World) (left : Int) (h0 : 0 ≤ left) (h1 : left ≤ 1048576) (hlen : len ≤ 9223372036854775807) :
    Calls Try.prog 22 #[.slice a len cap, .int .i64 left] w fun e w' => e = .returned (.int .i64 (if left - len < 0 then -1 else left - len)) ∧ Below w.heap.size w w' := by
  by_cases g : left - len < 0
  · rw [if_pos g]
    go_enter Try.func22, Try.ntmps22
    go_wp2_with fail
    go_ret
    exact ⟨rfl, Below.refl _ _⟩
  · rw [if_neg g]
    go_enter Try.func22, Try.ntmps22
    go_wp2_with fail
    go_ret
    exact ⟨rfl, Below.refl _ _⟩
/-- A block of five cells that the call itself made. -/
def Box5 (w : World) (g : Nat) (x y z u v : Value) (T : TypeId) : Prop := w.heap[g]? = some (.cells #[x, y, z, u, v] T (0, 0))
theorem Box5.lt {w : World} {g : Nat} {x y z u v : Value} {T : TypeId} (h : Box5 w g x y z u v T) : g < w.heap.size := by
  rcases Nat.lt_or_ge g w.heap.size with h1 | h1
  · exact h1
  · simp [Box5, Array.getElem?_eq_none h1] at h
theorem Box5.next {w w' : World} {g : Nat} {x y z u v : Value} {T : TypeId} (h : Box5 w g x y z u v T) (hb : Below w.heap.size w w') : Box5 w' g x y z u v T := (hb.block g h.lt).trans h
theorem Box5.alloc {w : World} {g : Nat} {x y z u v : Value} {T : TypeId} (h : Box5 w g x y z u v T) (o : Obj) : Box5 (w.alloc o) g x y z u v T := (Below.heap_alloc w o g h.lt).trans h
theorem Box5.new (w : World) (x y z u v : Value) (T : TypeId) : Box5 (w.alloc (.cells #[x, y, z, u, v] T)) w.heap.size x y z u v T := heap_alloc_new w _
theorem Box5.cells {w : World} {g : Nat} {x y z u v : Value} {T : TypeId} (h : Box5 w g x y z u v T) : w.cell? ⟨g, 0, none⟩ = some x ∧ w.cell? ⟨g, 1, none⟩ = some y ∧ w.cell? ⟨g, 2, none⟩ = some z ∧ w.cell? ⟨g, 3, none⟩ = some u ∧ w.cell? ⟨g, 4, none⟩ = some v := by
  unfold Box5 at h
  refine ⟨?_, ?_, ?_, ?_, ?_⟩ <;> simp [World.cell?, h]
theorem Box5.free {w : World} {g : Nat} {x y z u v : Value} {T : TypeId} (h : Box5 w g x y z u v T) (j : Nat) : w.frozen? ⟨g, j, none⟩ = false := by
  unfold Box5 at h
  simp [World.frozen?, h]
def SzStepPost (n0 : Nat) (left : Int) (s p o : Nat) (w : World) (e : Ending) (w' : World) : Prop :=
  ∃ n : Int, e = .returned (.int .i64 n) ∧ (n = -1 ∨ (0 ≤ n ∧ n + n0 ≤ left ∧ s + p + o ≤ 1048576)) ∧ Below w.heap.size w w'
set_option maxRecDepth 100000 in
set_option maxHeartbeats 1600000 in
theorem szStep (s p o : ByteArray) (r : Int) (a : Option Addr) (len cap : Nat) (left : Int) (h0 : 0 ≤ left) (h1 : left ≤ 1048576) (hs : s.size ≤ 9223372036854775807) (hp : p.size ≤ 9223372036854775807) (ho : o.size ≤ 9223372036854775807) (hlen : len ≤ 9223372036854775807) (w : World) :
    Calls Try.prog 13 #[.agg #[.string s, .string p, .string o, .int .i64 r, .slice a len cap], .int .i64 left] w (SzStepPost len left s.size p.size o.size w) := by
  have X := Box5.new w (.string s) (.string p) (.string o) (.int .i64 r) (.slice a len cap) 38
  have B0 := (Below.refl w.heap.size w).alloc (Nat.le_refl _) (.cells #[.string s, .string p, .string o, .int .i64 r, .slice a len cap] 38)
  obtain ⟨c0, c1, c2, c3, c4⟩ := X.cells
  have SZ := szTri s p o left h0 h1 hs hp ho
  by_cases hq : (s.size : Int) + p.size + o.size ≤ left
  · rw [szT_yes hq] at SZ
    have D := Lib.hid SZ
    have hn0 : ¬ left - s.size - p.size - o.size < 0 := by omega
    have E := Lib.hid (fun w => szInts a len cap w (left - s.size - p.size - o.size) (by omega) (by omega) hlen)
    clear SZ
    go_enter Try.func13, Try.ntmps13
    go_wp2_with fail
    refine (D.out _).mono ?_
    rintro e w1 ⟨rfl, hb⟩
    have B1 := B0.trans (hb.mono B0.size)
    have X1 := X.next hb
    clear hb X B0 c0 c1 c2 c3 c4
    obtain ⟨c0, c1, c2, c3, c4⟩ := X1.cells
    go_wp2_with fail
    refine (E.out _).mono ?_
    rintro e w2 ⟨rfl, hb⟩
    have B2 := B1.trans (hb.mono B1.size)
    clear hb B1 X1 c0 c1 c2 c3 c4
    by_cases g : left - s.size - p.size - o.size - len < 0
    · rw [if_pos g]
      go_wp2_with fail
      go_ret
      exact ⟨-1, rfl, .inl rfl, B2⟩
    · rw [if_neg g]
      go_wp2_with fail
      go_ret
      exact ⟨_, rfl, .inr ⟨by omega, by omega, by omega⟩, B2⟩
  · rw [szT_no hq] at SZ
    have D := Lib.hid SZ
    clear SZ
    go_enter Try.func13, Try.ntmps13
    go_wp2_with fail
    refine (D.out _).mono ?_
    rintro e w1 ⟨rfl, hb⟩
    have B1 := B0.trans (hb.mono B0.size)
    clear hb
    go_wp2_with fail
    go_ret
    exact ⟨-1, rfl, .inl rfl, B1⟩
def SmSteps (len : Nat) (ts : List StepV) : Prop := len + tot ts ≤ 1048576 ∧ ∀ t ∈ ts, t.1.1.size + t.1.2.1.size + t.1.2.2.size ≤ 1048576
def SzPostS (left : Int) (len : Nat) (ts : List StepV) (w : World) (e : Ending) (w' : World) : Prop :=
  ∃ n : Int, e = .returned (.int .i64 n) ∧ (n = -1 ∨ (0 ≤ n ∧ n ≤ left ∧ SmSteps len ts)) ∧ Below w.heap.size w w'
theorem IsInts.maxl {w : World} {a : Option Addr} {len cap : Nat} {zs : List Int} (h : IsInts w a len cap zs) : len ≤ 9223372036854775807 := by
  rcases h with ⟨_, rfl, _, _⟩ | ⟨_, _, h1, h2, _⟩
  · omega
  · unfold maxLen at h2; omega
theorem IsSteps.maxl {w : World} {a : Option Addr} {len cap : Nat} {ts : List StepV} (h : IsSteps w a len cap ts) : len ≤ 9223372036854775807 := by
  rcases h with ⟨_, rfl, _, _⟩ | ⟨_, _, h1, h2, _⟩
  · omega
  · unfold maxLen at h2; omega
set_option maxRecDepth 100000 in
set_option maxHeartbeats 1600000 in
theorem szSteps (a : Option Addr) (len cap : Nat) (ts : List StepV) (w : World) (h : IsSteps w a len cap ts) (left : Int) (h0 : 0 ≤ left) (h1 : left ≤ 1048576) (hlen : len ≤ 9223372036854775807) :
    Calls Try.prog 4 #[.slice a len cap, .int .i64 left] w (SzPostS left len ts w) := by
  by_cases g : left - len < 0
  · clear h
    go_enter Try.func4, Try.ntmps4
    go_wp2_with fail
    go_ret
    exact ⟨-1, rfl, .inl rfl, Below.refl _ _⟩
  have H := Lib.hid h
  have HL := Lib.hid h.len
  clear h
  go_enter Try.func4, Try.ntmps4
  go_wp2_with fail
  go_loopw [1, 5] (fun l i wr => ∃ k : Nat, k ≤ len ∧ i = .int .i64 k ∧ (∃ q : Int, 0 ≤ q ∧ q + tot (ts.take k) + len ≤ left ∧ l = .int .i64 q) ∧ Hid (∀ t ∈ ts.take k, t.1.1.size + t.1.2.1.size + t.1.2.2.size ≤ 1048576) ∧ Below w.heap.size w wr) (fun _ i _ => len - (intOf i).toNat)
  case atStart => exact ⟨0, Nat.zero_le _, rfl, ⟨_, by omega, by simp [tot], rfl⟩, Lib.hid (by simp), Below.refl _ _⟩
  case round =>
    obtain ⟨k, hk, rfl, ⟨q, hq0, hq1, rfl⟩, hsm, hnx⟩ := hrel
    have hk6 : (0 : Int) ≤ (k : Int) := by omega
    by_cases hlt : k < len
    · obtain ⟨b, off, rfl, hb, hl, hm, hts, hc⟩ := (H.out.next hnx).cells (by omega)
      have ht : ts[k]? = some ts[k] := List.getElem?_eq_getElem (by omega)
      have HS : Hid (ts.take (k + 1) = ts.take k ++ [ts[k]]) := Lib.hid (List.take_succ_eq_append_getElem (by omega))
      obtain ⟨c0, c1, c2, c3, ⟨a', n, c, c4, hz⟩, w0, w1, w2⟩ := hc k _ ht
      generalize ts[k] = t at c0 c1 c2 c3 hz w0 w1 w2 HS
      obtain ⟨⟨s, p, o⟩, r, zs⟩ := t
      simp only at c0 c1 c2 c3 hz w0 w1 w2
      unfold maxLen at w0 w1 w2 hm
      have hzl := hz.len
      have hzm := hz.maxl
      have D := Lib.hid (szStep s p o r a' n c q hq0 (by omega) w0 w1 w2 hzm)
      clear ht hts hc hz hm hl
      have hlt2 : (k : Int) < (len : Int) := by omega
      have HZ := Lib.hid hzl
      clear hzl
      go_wp2_with fail
      refine (D.out _).mono ?_
      rintro e wn ⟨m, rfl, hm, hbn⟩
      have B := hnx.trans (hbn.mono hnx.size)
      clear hbn hnx c0 c1 c2 c3 c4
      rcases hm with rfl | ⟨hm0, hm1, hm2⟩
      · go_wp2_with fail
        go_ret
        exact ⟨-1, rfl, .inl rfl, B⟩
      · have hm3 : ¬ m < 0 := by omega
        have HN : Hid (∀ t ∈ ts.take (k + 1), t.1.1.size + t.1.2.1.size + t.1.2.2.size ≤ 1048576) := Lib.hid (by
          rw [HS.out]
          intro u hu
          rcases List.mem_append.1 hu with hu | hu
          · exact hsm.out u hu
          · obtain rfl : u = ((s, p, o), r, zs) := by simpa using hu
            exact hm2)
        have HT : Hid (tot (ts.take (k + 1)) = tot (ts.take k) + n) := Lib.hid (by rw [HS.out, tot_snoc]; simp only; rw [HZ.out])
        go_wp2_with fail
        go_roundw
        case rel => exact ⟨k + 1, by omega, by go_num, ⟨m, hm0, by rw [HT.out]; omega, rfl⟩, HN, B⟩
        case measure => simp [intOf]; omega
    · obtain rfl : k = len := by omega
      go_wp2_with fail
      go_ret
      have e : ts.take k = ts := List.take_of_length_le (by rw [HL.out]; exact Nat.le_refl _)
      rw [e] at hq1
      exact ⟨q, rfl, .inr ⟨hq0, by omega, by omega, by have := hsm.out; rwa [e] at this⟩, hnx⟩
end Go.Proofs.Ytonikgmplgcplaa
