/- The exact laws' steps at slices of triples, told by where things lie. -/
import Derived.Test.YthnpchcfjkepaaaG08
import Derived.Test.YthnpchcfjkepaaaG09
import Derived.Test.YthnpchcfjkepaaaG03
import Derived.Deep.Strs
namespace Go.Proofs.Ythnpchcfjkepaaa
open Go.RowKit Go.WideShapes
def SmAll (ts : List Tri3) : Prop := ∀ t ∈ ts, t.1.size ≤ maxLen ∧ t.2.1.size ≤ maxLen ∧ t.2.2.size ≤ maxLen
theorem smAll_marks (k0 n : Nat) (hn : n ≤ 1048576) (hk : k0 ≤ 40000000) : SmAll (marksK k0 n) := marksK_small k0 n hn hk
theorem Cells.two {g : Nat} {x y : Value} {T : TypeId} {w : World} (h : Cells g #[x, y] T w) : w.cell? ⟨g, 0, none⟩ = some x ∧ w.cell? ⟨g, 1, none⟩ = some y := ⟨h.at 0, h.at 1⟩
theorem tris_most {w : World} {a : Option Addr} {len cap : Nat} {ts : List Tri3} (h : IsTris w a len cap ts) : len ≤ 9223372036854775807 := by
  rcases h with ⟨_, rfl, _, _⟩ | ⟨_, _, h1, h2, _⟩
  · omega
  · unfold maxLen at h2; omega
theorem OwnC.read {B C : Nat} {w : World} {a : Option Addr} {n c : Nat} {ts : List Tri3} (h : OwnC B C (.slice a n c) ts w) (hm : SmAll ts) (hl : ts.length = n) : IsTris w a n c ts := by
  subst hl
  obtain ⟨x, y, e, i⟩ := h.1.is hm
  simp only [Value.slice.injEq, true_and] at e
  obtain ⟨rfl, rfl⟩ := e
  exact i
theorem ownC_shape {w w' : World} {v : Value} {ts : List Tri3} {n : Nat} (h : OwnT w.heap.size w' v ts) (hb : Below w.heap.size w w') (hl : ts.length = n) : ∃ a c, v = .slice a n c ∧ Holds w.heap.size w'.heap.size w' (OwnC w.heap.size w'.heap.size (.slice a n c) ts) := by
  have H := ownC_new h hb
  subst hl
  rcases h.2 with ⟨rfl, e⟩ | ⟨g, c, cur, rfl, _⟩
  · exact ⟨none, 0, by rw [e], by rw [e]; exact H⟩
  · exact ⟨_, _, rfl, H⟩
theorem exTo (a : Option Addr) (n c : Nat) (ts : List Tri3) (w : World) (h : IsTris w a n c ts) (hs : n ≤ 1048576) (hl : ts.length = n) :
    Calls Try.prog 43 #[.slice a n c] w fun e w' => ∃ a' c', e = .returned (.slice a' n c') ∧ Holds w.heap.size w'.heap.size w' (OwnC w.heap.size w'.heap.size (.slice a' n c') ts) ∧ Below w.heap.size w w' :=
  (toTriS a n c ts w h hs).mono fun e w' ⟨v, he, ho, hb⟩ => by
    obtain ⟨a', c', rfl, H⟩ := ownC_shape ho hb hl
    exact ⟨a', c', he, H, hb⟩
end Go.Proofs.Ythnpchcfjkepaaa
/- A slice of named graphs that came in: what its cells hold (two each: a text, a slice of triples). -/
namespace Go.Proofs.Ythnpchcfjkepaaa
open Go.ChangeShapes Go.WideShapes Go.ChangeAt Go.RowKit
namespace NamK
theorem open_tris_one {H : Type} {enc : TypeId × Value → H} {P : Program} {w : World} {base : Nat} {spare : Nat → Bool} {held : Bool} {t e : TypeId} {f0 f1 f2 : Field} {fuel : Nat} {c : Value} {x : DataW H × List MemPlace}
    (ht : P.underlying t = some (.slice e)) (he : P.underlying e = some (.struct #[f0, f1, f2])) (hC : P.cellsOf e = 3)
    (h0 : P.underlying f0.type = some .string ∧ f0.offset = 0 ∧ P.cellsOf f0.type = 1) (h1 : P.underlying f1.type = some .string ∧ f1.offset = 1 ∧ P.cellsOf f1.type = 1) (h2 : P.underlying f2.type = some .string ∧ f2.offset = 2 ∧ P.cellsOf f2.type = 1)
    (h : DataW.trod enc P w base spare held fuel t [c] = some x) : ∃ a len cap ts, c = .slice a len cap ∧ IsTris w a len cap ts := by
  have h' := h
  rcases Deep.open_slice ht h with ⟨hcs, _⟩ | ⟨x, len', cap', m, n, D, Pl, hcs, _⟩
  · obtain rfl : c = .slice none 0 0 := by simpa using hcs
    obtain ⟨ts, hts⟩ := open_tris ht he hC h0 h1 h2 h'
    exact ⟨_, _, _, ts, rfl, hts⟩
  · obtain rfl : c = .slice (some x) len' cap' := by simpa using hcs
    obtain ⟨ts, hts⟩ := open_tris ht he hC h0 h1 h2 h'
    exact ⟨_, _, _, ts, rfl, hts⟩
theorem tris_maxl {w : World} {a : Option Addr} {len cap : Nat} {ts : List Tri3} (h : IsTris w a len cap ts) : len ≤ 9223372036854775807 := by
  rcases h with ⟨_, rfl, _, _⟩ | ⟨_, _, h1, h2, _⟩
  · omega
  · unfold maxLen at h2; omega
theorem own_set {B : Nat} {w : World} {v : Value} {ts : List Tri3} (h : OwnT B w v ts) {g : Nat} (hg : g < B) (j : Nat) (u : Value) : OwnT B (w.setCell ⟨g, j, none⟩ u) v ts :=
  World.ownsRow.kept h (grown_set (World.grownBy.refl w (some g)) j u) (by
    rcases hv : v.ownBlock with _ | i
    · exact .inl rfl
    · exact .inr (fun e => by cases e; have := (World.ownsRow.lt h g hv).1; omega))
theorem own_slice {B : Nat} {w : World} {v : Value} {ts : List Tri3} (h : OwnT B w v ts) : ∃ a n c, v = .slice a n c := by
  rcases h.2 with ⟨rfl, _⟩ | ⟨g, c, cur, rfl, _⟩
  · exact ⟨_, _, _, rfl⟩
  · exact ⟨_, _, _, rfl⟩
/-- Block g holds just these two cells. -/
def Box2 (w : World) (g : Nat) (x y : Value) (T : TypeId) : Prop := w.heap[g]? = some (.cells #[x, y] T (0, 0))
theorem Box2.lt {w : World} {g : Nat} {x y : Value} {T : TypeId} (h : Box2 w g x y T) : g < w.heap.size := by
  rcases Nat.lt_or_ge g w.heap.size with h1 | h1
  · exact h1
  · simp [Box2, Array.getElem?_eq_none h1] at h
theorem Box2.next {w w' : World} {g : Nat} {x y : Value} {T : TypeId} (h : Box2 w g x y T) (hb : Below w.heap.size w w') : Box2 w' g x y T := (hb.block g h.lt).trans h
theorem Box2.alloc {w : World} {g : Nat} {x y : Value} {T : TypeId} (h : Box2 w g x y T) (o : Obj) : Box2 (w.alloc o) g x y T := (Below.heap_alloc w o g h.lt).trans h
theorem Box2.new (w : World) (x y : Value) (T : TypeId) : Box2 (w.alloc (.cells #[x, y] T)) w.heap.size x y T := heap_alloc_new w _
theorem Box2.cells {w : World} {g : Nat} {x y : Value} {T : TypeId} (h : Box2 w g x y T) : w.cell? ⟨g, 0, none⟩ = some x ∧ w.cell? ⟨g, 1, none⟩ = some y := by
  unfold Box2 at h
  refine ⟨?_, ?_⟩ <;> simp [World.cell?, h]
theorem Box2.free {w : World} {g : Nat} {x y : Value} {T : TypeId} (h : Box2 w g x y T) : w.frozen? ⟨g, 0, none⟩ = false ∧ w.frozen? ⟨g, 1, none⟩ = false := by
  unfold Box2 at h
  refine ⟨?_, ?_⟩ <;> simp [World.frozen?, h]
theorem Box2.drew {w : World} {g : Nat} {x y : Value} {T : TypeId} (h : Box2 w g x y T) : Box2 w.drew g x y T := h
theorem Box2.far {w : World} {g : Nat} {x y : Value} {T : TypeId} (h : Box2 w g x y T) {a : Addr} (ha : g ≠ a.block) (u : Value) : Box2 (w.setCell a u) g x y T := (Below.heap_setCell w a u g ha).trans h
theorem Box2.set0 {w : World} {g : Nat} {x y : Value} {T : TypeId} (h : Box2 w g x y T) (u : Value) : Box2 (w.setCell ⟨g, 0, none⟩ u) g u y T := by
  unfold Box2 at h ⊢; simp [World.setCell, Array.getElem?_modify, h]
theorem Box2.set1 {w : World} {g : Nat} {x y : Value} {T : TypeId} (h : Box2 w g x y T) (u : Value) : Box2 (w.setCell ⟨g, 1, none⟩ u) g x u T := by
  unfold Box2 at h ⊢; simp [World.setCell, Array.getElem?_modify, h]
end NamK
abbrev NamV := ByteArray × List Tri3
def NamAt (w : World) (x : Addr) (i : Nat) (r : NamV) : Prop := ∃ a n c, w.cell? (x.add (2 * i)) = some (.string r.1) ∧ w.cell? (x.add (2 * i + 1)) = some (.slice a n c) ∧ IsTris w a n c r.2 ∧ r.1.size ≤ maxLen
/-- The slice is nil, or its cells hold these graphs. -/
def IsNams (w : World) (a : Option Addr) (len cap : Nat) (rs : List NamV) : Prop :=
  (a = none ∧ len = 0 ∧ cap = 0 ∧ rs = []) ∨
  ∃ x, a = some x ∧ len ≤ cap ∧ cap ≤ maxLen ∧ rs.length = len ∧ ∀ (i : Nat) (r : NamV), rs[i]? = some r → NamAt w x i r
theorem open_nams {H : Type} {enc : TypeId × Value → H} {P : Program} {w : World} {base : Nat} {spare : Nat → Bool} {held : Bool} {t T tS tT : TypeId} {g0 g1 : Field} {f0 f1 f2 : Field} {fuel : Nat} {a : Option Addr} {len cap : Nat} {x : DataW H × List MemPlace}
    (htt : P.underlying t = some (.slice T)) (hT : P.underlying T = some (.struct #[g0, g1])) (cT : P.cellsOf T = 2) (hg0 : P.underlying g0.type = some .string ∧ g0.offset = 0 ∧ P.cellsOf g0.type = 1) (hg1 : g1.type = tS ∧ g1.offset = 1 ∧ P.cellsOf tS = 1)
    (ht : P.underlying tS = some (.slice tT)) (he : P.underlying tT = some (.struct #[f0, f1, f2])) (hC : P.cellsOf tT = 3)
    (h0 : P.underlying f0.type = some .string ∧ f0.offset = 0 ∧ P.cellsOf f0.type = 1) (h1 : P.underlying f1.type = some .string ∧ f1.offset = 1 ∧ P.cellsOf f1.type = 1) (h2 : P.underlying f2.type = some .string ∧ f2.offset = 2 ∧ P.cellsOf f2.type = 1)
    (h : DataW.trod enc P w base spare held fuel t [.slice a len cap] = some x) : ∃ rs, IsNams w a len cap rs := by
  rcases Deep.open_slice htt h with ⟨hcs, _⟩ | ⟨x, len', cap', m, n, D, Pl, hcs, _, hl, hm, hmm, _, hi⟩
  · simp only [List.cons.injEq, Value.slice.injEq, and_true] at hcs
    exact ⟨[], .inl ⟨hcs.1, hcs.2.1, hcs.2.2, rfl⟩⟩
  · simp only [List.cons.injEq, Value.slice.injEq, and_true] at hcs
    obtain ⟨rfl, rfl, rfl⟩ := hcs
    have hlm : len ≤ m := by rw [hmm]; split <;> omega
    obtain ⟨rs, hrs, hq⟩ := list_of (Q := NamAt w x) len fun i hil => by
      obtain ⟨cs, hc, htr⟩ := hi i (by omega)
      rw [cT] at hc
      obtain ⟨_, hcl, hat⟩ := World.cells?_some hc
      obtain ⟨y0, y1, n, hx, _, k0, k1⟩ := trod_struct2 hT htr
      rw [hg0.2.1, hg0.2.2] at k0
      rw [hg1.1, hg1.2.1, hg1.2.2] at k1
      have ha : ∀ j, j < 2 → w.cell? (x.add (2 * i + j)) = cs[j]? := by
        intro j hj
        rw [← hat j hj, Deep.add_add, Nat.mul_comm]
      match cs, hcl, k0, k1, ha with
      | [c0, c1], _, k0, k1, ha =>
        simp at k0 k1
        obtain ⟨s, e0, _, w0⟩ := DataW.trod_string hg0.1 k0
        obtain ⟨b, n', c', ts, rfl, hts⟩ := NamK.open_tris_one ht he hC h0 h1 h2 k1
        simp only [List.cons.injEq, and_true] at e0
        subst e0
        exact ⟨(s, ts), b, n', c', ha 0 (by omega), ha 1 (by omega), hts, w0⟩
    exact ⟨rs, .inr ⟨x, rfl, hl, hm, hrs, hq⟩⟩
theorem IsNams.len {w : World} {a : Option Addr} {len cap : Nat} {rs : List NamV} (h : IsNams w a len cap rs) : rs.length = len := by
  rcases h with ⟨_, rfl, _, rfl⟩ | ⟨x, _, _, _, h, _⟩
  · rfl
  · exact h
theorem IsNams.maxl {w : World} {a : Option Addr} {len cap : Nat} {rs : List NamV} (h : IsNams w a len cap rs) : len ≤ 9223372036854775807 := by
  rcases h with ⟨_, rfl, _, _⟩ | ⟨_, _, h1, h2, _⟩
  · omega
  · unfold maxLen at h2; omega
theorem IsNams.next {w w' : World} {a : Option Addr} {len cap : Nat} {rs : List NamV} (h : IsNams w a len cap rs) (hb : Below w.heap.size w w') : IsNams w' a len cap rs := by
  have hg := grown_of_below hb
  rcases h with h | ⟨x, rfl, h1, h2, h3, h4⟩
  · exact .inl h
  · refine .inr ⟨x, rfl, h1, h2, h3, fun i r hi => ?_⟩
    obtain ⟨b, n, c, c0, c1, hp, hs⟩ := h4 i r hi
    exact ⟨b, n, c, hg.cell c0 (by simp), hg.cell c1 (by simp), hp.next hb, hs⟩
/-- The place of a slice that has an element, and its cells. -/
theorem IsNams.cells {w : World} {a : Option Addr} {len cap : Nat} {rs : List NamV} (h : IsNams w a len cap rs) (h0 : 0 < len) : ∃ b off, a = some ⟨b, off, none⟩ ∧ b < w.heap.size ∧ len ≤ cap ∧ cap ≤ maxLen ∧ rs.length = len ∧
    ∀ (i : Nat) (r : NamV), rs[i]? = some r → ∃ a n c, w.cell? ⟨b, off + i * 2, none⟩ = some (.string r.1) ∧ w.cell? ⟨b, off + i * 2 + 1, none⟩ = some (.slice a n c) ∧ IsTris w a n c r.2 ∧ r.1.size ≤ maxLen := by
  rcases h with ⟨_, rfl, _⟩ | ⟨x, rfl, h1, h2, h3, h4⟩
  · omega
  · obtain ⟨b, off, spot⟩ := x
    have ht : rs[0]? = some rs[0] := List.getElem?_eq_getElem (by omega)
    obtain ⟨_, _, _, hc, _⟩ := h4 0 _ ht
    obtain rfl : spot = none := by simpa [Addr.add] using World.cell?_spot hc
    refine ⟨b, off, rfl, by have := World.block_lt_of_cell? _ _ hc; simpa [Addr.add] using this, h1, h2, h3, fun i r hi => ?_⟩
    obtain ⟨a', n, c, c0, c1, hp, hs⟩ := h4 i r hi
    rw [add_plain] at c0 c1
    rw [Nat.mul_comm i 2]
    exact ⟨a', n, c, c0, by rw [Nat.add_assoc]; exact c1, hp, hs⟩
/-- How many triples all graphs have. -/
def totN (rs : List NamV) : Nat := (rs.map fun r => r.2.length).sum
theorem totN_snoc (rs : List NamV) (r : NamV) : totN (rs ++ [r]) = totN rs + r.2.length := by simp [totN]
theorem totN_mem : ∀ {rs : List NamV} {r : NamV}, r ∈ rs → r.2.length ≤ totN rs
  | s :: rs, r, h => by
    have e : totN (s :: rs) = s.2.length + totN rs := by simp [totN]
    rcases List.mem_cons.1 h with rfl | h
    · omega
    · have := totN_mem h; omega
theorem totN_take (rs : List NamV) (k : Nat) : totN (rs.take k) ≤ totN rs := by
  have e := List.take_append_drop k rs
  have e2 : totN (rs.take k ++ rs.drop k) = totN (rs.take k) + totN (rs.drop k) := by
    unfold totN
    rw [List.map_append, List.sum_append]
  rw [e] at e2
  omega
end Go.Proofs.Ythnpchcfjkepaaa
/- The exact laws' own copy of a slice of named graphs, and what it owns. -/
namespace Go.Proofs.Ythnpchcfjkepaaa
open Go.RowKit Go.WideShapes
theorem infoNam : (Try.prog.info? 31).map (fun i => (i.zero, i.size, i.bytes)) = some (some (.agg #[.string ⟨#[]⟩, .slice none 0 0]), 2, 40) := by kernel_rfl
theorem ownTN_kept {B : Nat} {w w' : World} {v : Value} {ts : List Tri3} (h : OwnT B w v ts) (hb : Below w.heap.size w w') : OwnT B w' v ts := World.ownsRow.kept h (grown_of_below hb) (by
  rcases hv : v.ownBlock with _ | i
  · exact .inl rfl
  · exact .inr (by simp))
theorem ownTN_base {B C : Nat} {w : World} {v : Value} {ts : List Tri3} (h : OwnT B w v ts) (hc : C ≤ B) : OwnT C w v ts := by
  obtain ⟨h1, h2⟩ := h
  refine ⟨h1, ?_⟩
  rcases h2 with h2 | ⟨g, cap, cur, e, hB, r⟩
  · exact .inl h2
  · exact .inr ⟨g, cap, cur, e, Nat.le_trans hc hB, r⟩
theorem setN {xs l : List Value} {k : Nat} (a : Value) (h : xs.take k = l) (hl : k < xs.length) : (xs.set k a).take (k + 1) = l ++ [a] := by
  subst h
  rw [List.take_add_one, List.take_set_of_le (Nat.le_refl _), List.getElem?_set_self hl]; rfl
def flatN : List NamV → List Value → List Value
  | t :: ts, u :: us => .string t.1 :: u :: flatN ts us
  | _, _ => []
theorem flatN_snoc (t : NamV) (u : Value) : ∀ (ts : List NamV) (us : List Value), us.length = ts.length → flatN (ts ++ [t]) (us ++ [u]) = flatN ts us ++ [.string t.1, u]
  | [], [], _ => rfl
  | [], _ :: _, h => by simp at h
  | _ :: _, [], h => by simp at h
  | s :: ts, v :: us, h => by
    have := flatN_snoc t u ts us (by simpa using h)
    simp only [List.cons_append, flatN, this]
theorem flatN_at : ∀ (ts : List NamV) (us : List Value), us.length = ts.length → ∀ (i : Nat) (t : NamV) (u : Value), ts[i]? = some t → us[i]? = some u →
    (flatN ts us)[i * 2]? = some (.string t.1) ∧ (flatN ts us)[i * 2 + 1]? = some u
  | [], _, _, i, t, u, h, _ => by simp at h
  | _ :: _, [], h, _, _, _, _, _ => by simp at h
  | s :: ts, v :: us, h, i, t, u, ht, hu => by
    cases i with
    | zero => simp at ht hu; subst ht hu; exact ⟨rfl, rfl⟩
    | succ n =>
      have := flatN_at ts us (by simpa using h) n t u (by simpa using ht) (by simpa using hu)
      rw [show (n + 1) * 2 = n * 2 + 2 from by omega]
      exact this
theorem setN2 {xs l : List Value} {k : Nat} (a b : Value) (h : xs.take (k * 2) = l) (hl : k * 2 + 1 < xs.length) :
    ((xs.set (k * 2) a).set (k * 2 + 1) b).take ((k + 1) * 2) = l ++ [a, b] := by
  have h1 := setN a h (by omega)
  have h2 := setN b h1 (by simp; omega)
  rw [show (k + 1) * 2 = k * 2 + 1 + 1 from by omega]
  simpa using h2
/-- The graphs, each in a block of its own, from B on. -/
def InnN (B : Nat) (w : World) (ts : List NamV) (us : List Value) : Prop :=
  us.length = ts.length ∧ (∀ (i : Nat) (u : Value) (t : NamV), us[i]? = some u → ts[i]? = some t → OwnT B w u t.2) ∧ us.Pairwise (fun u v => ∀ j, u.ownBlock = some j → v.ownBlock ≠ some j)
theorem InnN.nil (B : Nat) (w : World) : InnN B w [] [] := ⟨rfl, fun i u t h => by simp at h, .nil⟩
theorem InnN.next {B : Nat} {w w' : World} {ts : List NamV} {us : List Value} (h : InnN B w ts us) (hb : Below w.heap.size w w') : InnN B w' ts us := ⟨h.1, fun i u t hu ht => ownTN_kept (h.2.1 i u t hu ht) hb, h.2.2⟩
theorem InnN.set {B : Nat} {w : World} {ts : List NamV} {us : List Value} (h : InnN B w ts us) {g : Nat} (hg : g < B) (j : Nat) (q : Value) : InnN B (w.setCell ⟨g, j, none⟩ q) ts us := ⟨h.1, fun i u t hu ht => NamK.own_set (h.2.1 i u t hu ht) hg j q, h.2.2⟩
theorem InnN.snoc {B : Nat} {w : World} {C : Nat} {ts : List NamV} {us : List Value} {t : NamV} {u : Value} (h : InnN B w ts us) (hl : ∀ v ∈ us, ∀ j, v.ownBlock = some j → j < C) (hBC : B ≤ C) (ho : OwnT C w u t.2) : InnN B w (ts ++ [t]) (us ++ [u]) := by
  obtain ⟨h1, h2, h3⟩ := h
  refine ⟨by simp [h1], fun i v s hv hs => ?_, List.pairwise_append.2 ⟨h3, List.pairwise_singleton _ _, fun v hv v' hv' j hj e => ?_⟩⟩
  · rcases Nat.lt_or_ge i us.length with g | g
    · rw [List.getElem?_append_left g] at hv
      rw [List.getElem?_append_left (by omega)] at hs
      exact h2 i v s hv hs
    · have hi : i = us.length := by
        have := (List.getElem?_eq_some_iff.1 hv).1
        simp at this; omega
      subst hi
      rw [List.getElem?_append_right (Nat.le_refl _)] at hv
      rw [h1, List.getElem?_append_right (Nat.le_refl _)] at hs
      simp at hv hs
      subst hv hs
      exact ownTN_base ho hBC
  · obtain rfl : v' = u := by simpa using hv'
    have := hl v hv j hj
    have := (World.ownsRow.lt ho j e).1
    omega
theorem InnN.lt {B : Nat} {w : World} {ts : List NamV} {us : List Value} (h : InnN B w ts us) : ∀ v ∈ us, ∀ j, v.ownBlock = some j → B ≤ j ∧ j < w.heap.size := by
  intro v hv j hj
  obtain ⟨i, hi⟩ := List.mem_iff_getElem?.1 hv
  have hil := (List.getElem?_eq_some_iff.1 hi).1
  have ht : ts[i]? = some (ts[i]'(by have := h.1; omega)) := List.getElem?_eq_getElem _
  exact World.ownsRow.lt (h.2.1 i v _ hi ht) j hj
/-- The call owns the slice that lies in block B, and its graphs, behind it. -/
def OwnN (B : Nat) (w : World) (len : Nat) (ts : List NamV) : Prop := ∃ us, w.ownsRow B 31 2 (.slice (some ⟨B, 0, none⟩) len len) len (flatN ts us) ∧ InnN (B + 1) w ts us
theorem OwnN.is {B : Nat} {w : World} {len : Nat} {ts : List NamV} (h : OwnN B w len ts) (hl : ts.length = len) (hm : ∀ t ∈ ts, t.1.size ≤ maxLen) (hb : ∀ t ∈ ts, ∀ u ∈ t.2, u.1.size ≤ maxLen ∧ u.2.1.size ≤ maxLen ∧ u.2.2.size ≤ maxLen) : IsNams w (some ⟨B, 0, none⟩) len len ts := by
  obtain ⟨us, ho, hi⟩ := h
  have h0 := ho
  obtain ⟨hln, hc⟩ := ho
  rcases hc with ⟨e, _⟩ | ⟨g, cap, cur, e, _, _, h1, h2, _⟩
  · cases e
  · simp only [Value.slice.injEq] at e
    obtain ⟨_, _, rfl⟩ := e
    refine .inr ⟨_, rfl, h1, h2, hl, fun i t ht => ?_⟩
    have hil : i < ts.length := (List.getElem?_eq_some_iff.1 ht).1
    have hu : us[i]? = some (us[i]'(by have := hi.1; omega)) := List.getElem?_eq_getElem _
    obtain ⟨f0, f1⟩ := flatN_at ts us hi.1 i t _ ht hu
    have oi := hi.2.1 i _ t hu ht
    obtain ⟨a', c', ev, ii⟩ := oi.is (hb t (List.mem_of_getElem? ht))
    rw [ev] at f1
    have e : ∀ j, (⟨B, 0, none⟩ : Addr).add (2 * i + j) = ⟨B, i * 2 + j, none⟩ := fun j => by rw [add_plain, Nat.zero_add, show 2 * i + j = i * 2 + j from by omega]
    have e0 : (⟨B, 0, none⟩ : Addr).add (2 * i) = ⟨B, i * 2, none⟩ := e 0
    have m0 := hm t (List.mem_of_getElem? ht)
    refine ⟨a', t.2.length, c', ?_, ?_, ii, m0⟩
    · rw [e0]; exact (h0.cellAt _ (by omega)).trans f0
    · rw [e]; exact (h0.cellAt _ (by omega)).trans f1
theorem OwnN.kept {B : Nat} {w w' : World} {len : Nat} {ts : List NamV} (h : OwnN B w len ts) (hb : Below w.heap.size w w') : OwnN B w' len ts := by
  obtain ⟨us, ho, hi⟩ := h
  exact ⟨us, ho.kept (grown_of_below hb) (.inr (by simp [Value.ownBlock])), hi.next hb⟩
end Go.Proofs.Ythnpchcfjkepaaa
