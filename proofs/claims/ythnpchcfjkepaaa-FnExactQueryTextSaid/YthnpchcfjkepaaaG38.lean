/- Whether a rule is right: the program's and the specification's. -/
import Derived.Test.YthnpchcfjkepaaaG35
import Derived.Test.YthnpchcfjkepaaaG18
import Derived.Deep.RegionHeld3
import Derived.Deep.Strs
import Derived.Test.YthnpchcfjkepaaaG14
namespace Go.Proofs.Ythnpchcfjkepaaa
open Go.RowKit Go.WideShapes
/-- Block g holds just these four cells. -/
def Box4 (w : World) (g : Nat) (x y z u : Value) (T : TypeId) : Prop := w.heap[g]? = some (.cells #[x, y, z, u] T (0, 0))
theorem Box4.lt {w : World} {g : Nat} {x y z u : Value} {T : TypeId} (h : Box4 w g x y z u T) : g < w.heap.size := by
  unfold Box4 at h; exact (Array.getElem?_eq_some_iff.1 h).1
theorem Box4.new (w : World) (x y z u : Value) (T : TypeId) : Box4 (w.alloc (.cells #[x, y, z, u] T)) w.heap.size x y z u T := heap_alloc_new w _
theorem Box4.next {w w' : World} {g : Nat} {x y z u : Value} {T : TypeId} (h : Box4 w g x y z u T) (hb : Below w.heap.size w w') : Box4 w' g x y z u T := (hb.block g h.lt).trans h
theorem Box4.alloc {w : World} {g : Nat} {x y z u : Value} {T : TypeId} (h : Box4 w g x y z u T) (o : Obj) : Box4 (w.alloc o) g x y z u T := (Below.heap_alloc w o g h.lt).trans h
theorem Box4.drew {w : World} {g : Nat} {x y z u : Value} {T : TypeId} (h : Box4 w g x y z u T) : Box4 w.drew g x y z u T := h
theorem Box4.far {w : World} {g : Nat} {x y z u : Value} {T : TypeId} (h : Box4 w g x y z u T) {a : Addr} (ha : g ≠ a.block) (v : Value) : Box4 (w.setCell a v) g x y z u T := (Below.heap_setCell w a v g ha).trans h
theorem Box4.cells {w : World} {g : Nat} {x y z u : Value} {T : TypeId} (h : Box4 w g x y z u T) : w.cell? ⟨g, 0, none⟩ = some x ∧ w.cell? ⟨g, 1, none⟩ = some y ∧ w.cell? ⟨g, 2, none⟩ = some z ∧ w.cell? ⟨g, 3, none⟩ = some u := by
  unfold Box4 at h; refine ⟨?_, ?_, ?_, ?_⟩ <;> simp [World.cell?, h]
theorem Box4.free {w : World} {g : Nat} {x y z u : Value} {T : TypeId} (h : Box4 w g x y z u T) : w.frozen? ⟨g, 0, none⟩ = false ∧ w.frozen? ⟨g, 1, none⟩ = false ∧ w.frozen? ⟨g, 2, none⟩ = false ∧ w.frozen? ⟨g, 3, none⟩ = false := by
  unfold Box4 at h; refine ⟨?_, ?_, ?_, ?_⟩ <;> simp [World.frozen?, h]
theorem Box4.set {w : World} {g : Nat} {x y z u : Value} {T : TypeId} (h : Box4 w g x y z u T) (v : Value) :
    Box4 (w.setCell ⟨g, 0, none⟩ v) g v y z u T ∧ Box4 (w.setCell ⟨g, 1, none⟩ v) g x v z u T ∧ Box4 (w.setCell ⟨g, 2, none⟩ v) g x y v u T ∧ Box4 (w.setCell ⟨g, 3, none⟩ v) g x y z v T := by
  unfold Box4 at h ⊢; refine ⟨?_, ?_, ?_, ?_⟩ <;> simp [World.setCell, Array.getElem?_modify, h]
theorem ownS_isN {B : Nat} {w : World} {v : Value} {ts : List ByteArray} {n : Nat} (h : OwnS B w v ts) (l : ts.length = n) : ∃ a c, v = .slice a n c ∧ IsStrs w a n c ts := by
  subst l; exact h.is
def headIn (L H : List Txt) : Bool := H.all fun v => hasB (L.map bs) (bs v)
def ruleOk (ts : List Tri3) (h : Tri3) : Bool := !ts.isEmpty && (bgpOk ts && (patT h && headIn (allVars ts) (allVars [h])))
theorem headIn_no {L H : List Txt} {k : Nat} {v : Txt} (h : H[k]? = some v) (hv : hasB (L.map bs) (bs v) = false) : headIn L H = false := by
  unfold headIn; rw [List.all_eq_false]; exact ⟨v, List.mem_of_getElem? h, by rw [hv]; simp⟩
theorem headIn_yes {L H : List Txt} (h : ∀ (i : Nat) (v : Txt), i < H.length → H[i]? = some v → hasB (L.map bs) (bs v) = true) : headIn L H = true := by
  unfold headIn; rw [List.all_eq_true]; intro v hv
  obtain ⟨i, hi⟩ := List.mem_iff_getElem?.1 hv
  exact h i v (List.getElem?_eq_some_iff.1 hi).1 hi
theorem bgp_one {h : Tri3} (hp : patT h = true) : bgpOk [h] = true := by unfold bgpOk; simp [hp]
theorem allVars_len (ts : List Tri3) : (allVars ts).length ≤ 3 * ts.length := by
  have h1 := putAllS_len (varWords ts) []
  have h2 := varWords_len ts
  simp only [List.length_nil] at h1
  unfold allVars; omega
theorem tris_one (w : World) (s p o : ByteArray) (hs : s.size ≤ maxLen) (hp : p.size ≤ maxLen) (ho : o.size ≤ maxLen) : IsTris (w.alloc (.cells #[.string s, .string p, .string o] 34)) (some ⟨w.heap.size, 0, none⟩) 1 1 [(s, p, o)] := by
  refine .inr ⟨_, rfl, Nat.le_refl _, by unfold maxLen; omega, rfl, fun i t hi => ?_⟩
  obtain rfl : i = 0 := by have := (List.getElem?_eq_some_iff.1 hi).1; simp at this; omega
  obtain rfl : (s, p, o) = t := by simpa using hi
  obtain ⟨c0, c1, c2⟩ := (Box.new w (.string s) (.string p) (.string o) 34).cells
  refine ⟨?_, ?_, ?_, hs, hp, ho⟩
  · rw [add_plain]; exact c0
  · rw [add_plain]; exact c1
  · rw [add_plain]; exact c2
end Go.Proofs.Ythnpchcfjkepaaa
/- A rule that came in: what it holds; its size; a copy of it; two rules alike. -/
namespace Go.Proofs.Ythnpchcfjkepaaa
open Go.ChangeShapes Go.WideShapes Go.ChangeAt Go.RowKit
namespace RulK
theorem open_tris_one {H : Type} {enc : TypeId × Value → H} {P : Program} {w : World} {base : Nat} {spare : Nat → Bool} {held : Bool} {t e : TypeId} {f0 f1 f2 : Field} {fuel : Nat} {c : Value} {x : DataW H × List MemPlace}
    (ht : P.underlying t = some (.slice e)) (he : P.underlying e = some (.struct #[f0, f1, f2])) (hC : P.cellsOf e = 3)
    (h0 : P.underlying f0.type = some .string ∧ f0.offset = 0 ∧ P.cellsOf f0.type = 1) (h1 : P.underlying f1.type = some .string ∧ f1.offset = 1 ∧ P.cellsOf f1.type = 1) (h2 : P.underlying f2.type = some .string ∧ f2.offset = 2 ∧ P.cellsOf f2.type = 1)
    (h : DataW.trod enc P w base spare held fuel t [c] = some x) : ∃ a len cap ts, c = .slice a len cap ∧ IsTris w a len cap ts := by
  have h' := h
  rcases Deep.open_slice ht h with ⟨hcs, _⟩ | ⟨x, len', cap', m, n, D, Pl, hcs, _⟩
  · obtain rfl : c = .slice none 0 0 := by simpa using hcs
    obtain ⟨ts, hts⟩ := open_tris ht he hC h0 h1 h2 h'
    exact ⟨_, _, _, ts, rfl, hts⟩
  · obtain rfl : c = .slice (some x) len' cap' := by simpa using hcs
    obtain ⟨ts, hts⟩ := open_tris ht he hC h0 h1 h2 h'
    exact ⟨_, _, _, ts, rfl, hts⟩
theorem tris_maxl {w : World} {a : Option Addr} {len cap : Nat} {ts : List Tri3} (h : IsTris w a len cap ts) : len ≤ 9223372036854775807 := by
  rcases h with ⟨_, rfl, _, _⟩ | ⟨_, _, h1, h2, _⟩
  · omega
  · unfold maxLen at h2; omega
theorem own_set {B : Nat} {w : World} {v : Value} {ts : List Tri3} (h : OwnT B w v ts) {g : Nat} (hg : g < B) (j : Nat) (u : Value) : OwnT B (w.setCell ⟨g, j, none⟩ u) v ts :=
  World.ownsRow.kept h (grown_set (World.grownBy.refl w (some g)) j u) (by
    rcases hv : v.ownBlock with _ | i
    · exact .inl rfl
    · exact .inr (fun e => by cases e; have := (World.ownsRow.lt h g hv).1; omega))
theorem own_slice {B : Nat} {w : World} {v : Value} {ts : List Tri3} (h : OwnT B w v ts) : ∃ a n c, v = .slice a n c := by
  rcases h.2 with ⟨rfl, _⟩ | ⟨g, c, cur, rfl, _⟩
  · exact ⟨_, _, _, rfl⟩
  · exact ⟨_, _, _, rfl⟩
theorem below_s3 {B : Nat} {w w' : World} (h : Below B w w') (g : Nat) (hg : B ≤ g) (x y z : Value) : Below B w (((w'.setCell ⟨g, 0, none⟩ x).setCell ⟨g, 1, none⟩ y).setCell ⟨g, 2, none⟩ z) :=
  Below.setCell (Below.setCell (Below.setCell h (p := ⟨g, 0, none⟩) hg x) (p := ⟨g, 1, none⟩) hg y) (p := ⟨g, 2, none⟩) hg z
end RulK
theorem open_rule {H : Type} {enc : TypeId × Value → H} {P : Program} {w : World} {base : Nat} {spare : Nat → Bool} {held : Bool} {r : Reach} {b0 : Nat} {T tS tT : TypeId} {g0 g1 : Field} {f0 f1 f2 : Field} {v : Value} {d : DataW H} {p : List MemPlace}
    (hT : P.underlying T = some (.struct #[g0, g1])) (cT : P.cellsOf T = 4) (hg0 : g0.type = tS ∧ g0.offset = 0 ∧ P.cellsOf tS = 1) (hg1 : g1.type = tT ∧ g1.offset = 1 ∧ P.cellsOf tT = 3)
    (ht : P.underlying tS = some (.slice tT)) (he : P.underlying tT = some (.struct #[f0, f1, f2]))
    (h0 : P.underlying f0.type = some .string ∧ f0.offset = 0 ∧ P.cellsOf f0.type = 1) (h1 : P.underlying f1.type = some .string ∧ f1.offset = 1 ∧ P.cellsOf f1.type = 1) (h2 : P.underlying f2.type = some .string ∧ f2.offset = 2 ∧ P.cellsOf f2.type = 1)
    (hv : Value.okWide P w r b0 T v) (h : DataW.Trod enc P w base spare held T v d p) :
    ∃ a len cap ts s q o, v = .agg #[.slice a len cap, .string s, .string q, .string o] ∧ IsTris w a len cap ts ∧ s.size ≤ maxLen ∧ q.size ≤ maxLen ∧ o.size ≤ maxLen := by
  obtain ⟨cs, rfl, hsz⟩ := okWide_struct hT hv
  obtain ⟨fuel, hf⟩ := h
  obtain ⟨y0, y1, n, hx, _, k0, k1⟩ := trod_struct2 hT hf
  rw [hg0.1, hg0.2.1, hg0.2.2] at k0
  rw [hg1.1, hg1.2.1, hg1.2.2] at k1
  obtain ⟨z0, z1, z2, m, hz, _, j0, j1, j2⟩ := Deep.trod_struct3 he k1
  rw [h0.2.1, h0.2.2] at j0
  rw [h1.2.1, h1.2.2] at j1
  rw [h2.2.1, h2.2.2] at j2
  have hsz' : cs.toList.length = 4 := by rw [cT] at hsz; simpa using hsz
  obtain ⟨l⟩ := cs
  simp only [Value.cells] at k0 j0 j1 j2 hsz'
  match l, hsz', k0, j0, j1, j2 with
  | [c0, c1, c2, c3], _, k0, j0, j1, j2 =>
    simp at k0 j0 j1 j2
    obtain ⟨a, len, cap, ts, rfl, hts⟩ := RulK.open_tris_one ht he hg1.2.2 h0 h1 h2 k0
    obtain ⟨s, e0, _, w0⟩ := DataW.trod_string h0.1 j0
    obtain ⟨q, e1, _, w1⟩ := DataW.trod_string h1.1 j1
    obtain ⟨o, e2, _, w2⟩ := DataW.trod_string h2.1 j2
    simp only [List.cons.injEq, and_true] at e0 e1 e2
    subst e0 e1 e2
    exact ⟨_, _, _, ts, s, q, o, rfl, hts, w0, w1, w2⟩
theorem ownT_isN {B : Nat} {w : World} {v : Value} {ts : List Tri3} {n : Nat} (h : OwnT B w v ts) (m : ∀ t ∈ ts, t.1.size ≤ maxLen ∧ t.2.1.size ≤ maxLen ∧ t.2.2.size ≤ maxLen) (l : ts.length = n) : ∃ a c, v = .slice a n c ∧ IsTris w a n c ts := by
  subst l; exact h.is m
def SzPostR (left : Int) (n : Nat) (ts : List Tri3) (s p o : ByteArray) (w : World) (e : Ending) (w' : World) : Prop :=
  ∃ m : Int, e = .returned (.int .i64 m) ∧ (m = -1 ∨ (0 ≤ m ∧ Small n ts ∧ (s.size : Int) + p.size + o.size ≤ left)) ∧ Below w.heap.size w w'
theorem below_s4 {B : Nat} {w w' : World} (h : Below B w w') (g : Nat) (hg : B ≤ g) (x y z u : Value) : Below B w ((((w'.setCell ⟨g, 0, none⟩ x).setCell ⟨g, 1, none⟩ y).setCell ⟨g, 2, none⟩ z).setCell ⟨g, 3, none⟩ u) :=
  (RulK.below_s3 h g hg x y z).setCell (p := ⟨g, 3, none⟩) hg u
end Go.Proofs.Ythnpchcfjkepaaa
/- A triple and its point. -/
namespace Go.Proofs.Ythnpchcfjkepaaa
open Go.RowKit
set_option maxRecDepth 100000 in
theorem implPointed (s p o : ByteArray) (hs : s.size ≤ 2097152) (hp : p.size ≤ 2097152) (ho : o.size ≤ 2097152) (w : World) :
    Calls Try.prog 84 #[.agg #[.string s, .string p, .string o]] w fun e w' => e = .returned (.string (bs (s.data.toList ++ 32 :: (p.data.toList ++ 32 :: (o.data.toList ++ [32, 46]))))) ∧ Below w.heap.size w w' := by
  have HJ := Lib.hid (join_text s p o)
  go_enter Try.func84, Try.ntmps84
  go_wp2_with fail
  go_ret
  exact ⟨by rw [← HJ.out]; rfl, (Below.refl _ _).alloc (Nat.le_refl _) _⟩
end Go.Proofs.Ythnpchcfjkepaaa
