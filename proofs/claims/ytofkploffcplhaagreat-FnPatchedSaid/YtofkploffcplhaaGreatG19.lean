/- The exact laws' steps at slices of triples, told by where things lie. -/
import Derived.Test.YtofkploffcplhaaGreatG17
import Derived.Test.YtofkploffcplhaaGreatG18
import Derived.Test.YtofkploffcplhaaGreatG03
import Derived.Test.YtofkploffcplhaaGreatG08
namespace Go.Proofs.YtofkploffcplhaaGreat
open Go.RowKit Go.WideShapes
def SmAll (ts : List Tri3) : Prop := ∀ t ∈ ts, t.1.size ≤ maxLen ∧ t.2.1.size ≤ maxLen ∧ t.2.2.size ≤ maxLen
theorem smAll_marks (k0 n : Nat) (hn : n ≤ 1048576) (hk : k0 ≤ 40000000) : SmAll (marksK k0 n) := marksK_small k0 n hn hk
theorem Cells.two {g : Nat} {x y : Value} {T : TypeId} {w : World} (h : Cells g #[x, y] T w) : w.cell? ⟨g, 0, none⟩ = some x ∧ w.cell? ⟨g, 1, none⟩ = some y := ⟨h.at 0, h.at 1⟩
theorem tris_most {w : World} {a : Option Addr} {len cap : Nat} {ts : List Tri3} (h : IsTris w a len cap ts) : len ≤ 9223372036854775807 := by
  rcases h with ⟨_, rfl, _, _⟩ | ⟨_, _, h1, h2, _⟩
  · omega
  · unfold maxLen at h2; omega
theorem OwnC.read {B C : Nat} {w : World} {a : Option Addr} {n c : Nat} {ts : List Tri3} (h : OwnC B C (.slice a n c) ts w) (hm : SmAll ts) (hl : ts.length = n) : IsTris w a n c ts := by
  subst hl
  obtain ⟨x, y, e, i⟩ := h.1.is hm
  simp only [Value.slice.injEq, true_and] at e
  obtain ⟨rfl, rfl⟩ := e
  exact i
theorem ownC_shape {w w' : World} {v : Value} {ts : List Tri3} {n : Nat} (h : OwnT w.heap.size w' v ts) (hb : Below w.heap.size w w') (hl : ts.length = n) : ∃ a c, v = .slice a n c ∧ Holds w.heap.size w'.heap.size w' (OwnC w.heap.size w'.heap.size (.slice a n c) ts) := by
  have H := ownC_new h hb
  subst hl
  rcases h.2 with ⟨rfl, e⟩ | ⟨g, c, cur, rfl, _⟩
  · exact ⟨none, 0, by rw [e], by rw [e]; exact H⟩
  · exact ⟨_, _, rfl, H⟩
end Go.Proofs.YtofkploffcplhaaGreat
/- A patch (two slices of triples): what it holds; its size; a copy; two alike; marks and the second look. -/
namespace Go.Proofs.YtofkploffcplhaaGreat
open Go.ChangeShapes Go.WideShapes Go.ChangeAt Go.RowKit
theorem pat_tris {H : Type} {enc : TypeId × Value → H} {P : Program} {w : World} {base : Nat} {spare : Nat → Bool} {held : Bool} {t e : TypeId} {f0 f1 f2 : Field} {fuel : Nat} {c : Value} {x : DataW H × List MemPlace}
    (ht : P.underlying t = some (.slice e)) (he : P.underlying e = some (.struct #[f0, f1, f2])) (hC : P.cellsOf e = 3)
    (h0 : P.underlying f0.type = some .string ∧ f0.offset = 0 ∧ P.cellsOf f0.type = 1) (h1 : P.underlying f1.type = some .string ∧ f1.offset = 1 ∧ P.cellsOf f1.type = 1) (h2 : P.underlying f2.type = some .string ∧ f2.offset = 2 ∧ P.cellsOf f2.type = 1)
    (h : DataW.trod enc P w base spare held fuel t [c] = some x) : ∃ a len cap ts, c = .slice a len cap ∧ IsTris w a len cap ts := by
  have h' := h
  rcases Deep.open_slice ht h with ⟨hcs, _⟩ | ⟨x, len', cap', m, n, D, Pl, hcs, _⟩
  · obtain rfl : c = .slice none 0 0 := by simpa using hcs
    obtain ⟨ts, hts⟩ := open_tris ht he hC h0 h1 h2 h'
    exact ⟨_, _, _, ts, rfl, hts⟩
  · obtain rfl : c = .slice (some x) len' cap' := by simpa using hcs
    obtain ⟨ts, hts⟩ := open_tris ht he hC h0 h1 h2 h'
    exact ⟨_, _, _, ts, rfl, hts⟩
theorem pat_maxl {w : World} {a : Option Addr} {len cap : Nat} {ts : List Tri3} (h : IsTris w a len cap ts) : len ≤ 9223372036854775807 := by
  rcases h with ⟨_, rfl, _, _⟩ | ⟨_, _, h1, h2, _⟩
  · omega
  · unfold maxLen at h2; omega
def Is2 (w : World) (a1 a2 : Option Addr) (n1 n2 c1 c2 : Nat) (t1 t2 : List Tri3) : Prop := IsTris w a1 n1 c1 t1 ∧ IsTris w a2 n2 c2 t2
theorem Is2.next {w w' : World} {a1 a2 : Option Addr} {n1 n2 c1 c2 : Nat} {t1 t2 : List Tri3} (h : Is2 w a1 a2 n1 n2 c1 c2 t1 t2) (hb : Below w.heap.size w w') : Is2 w' a1 a2 n1 n2 c1 c2 t1 t2 := ⟨h.1.next hb, h.2.next hb⟩
theorem open_patch {H : Type} {enc : TypeId × Value → H} {P : Program} {w : World} {base : Nat} {spare : Nat → Bool} {held : Bool} {r : Reach} {b0 : Nat} {T tS tT : TypeId} {g0 g1 : Field} {f0 f1 f2 : Field} {v : Value} {d : DataW H} {p : List MemPlace}
    (hT : P.underlying T = some (.struct #[g0, g1])) (cT : P.cellsOf T = 2) (hg0 : g0.type = tS ∧ g0.offset = 0 ∧ P.cellsOf tS = 1) (hg1 : g1.type = tS ∧ g1.offset = 1 ∧ P.cellsOf tS = 1)
    (ht : P.underlying tS = some (.slice tT)) (he : P.underlying tT = some (.struct #[f0, f1, f2])) (cC : P.cellsOf tT = 3)
    (h0 : P.underlying f0.type = some .string ∧ f0.offset = 0 ∧ P.cellsOf f0.type = 1) (h1 : P.underlying f1.type = some .string ∧ f1.offset = 1 ∧ P.cellsOf f1.type = 1) (h2 : P.underlying f2.type = some .string ∧ f2.offset = 2 ∧ P.cellsOf f2.type = 1)
    (hv : Value.okWide P w r b0 T v) (h : DataW.Trod enc P w base spare held T v d p) :
    ∃ a1 n1 c1 t1 a2 n2 c2 t2, v = .agg #[.slice a1 n1 c1, .slice a2 n2 c2] ∧ Is2 w a1 a2 n1 n2 c1 c2 t1 t2 := by
  obtain ⟨cs, rfl, hsz⟩ := okWide_struct hT hv
  obtain ⟨fuel, hf⟩ := h
  obtain ⟨y0, y1, n, hx, _, k0, k1⟩ := trod_struct2 hT hf
  rw [hg0.1, hg0.2.1, hg0.2.2] at k0
  rw [hg1.1, hg1.2.1, hg1.2.2] at k1
  have hsz' : cs.toList.length = 2 := by rw [cT] at hsz; simpa using hsz
  obtain ⟨l⟩ := cs
  simp only [Value.cells] at k0 k1 hsz'
  match l, hsz', k0, k1 with
  | [c0, c1], _, k0, k1 =>
    simp at k0 k1
    obtain ⟨a1, n1, c1', t1, rfl, i1⟩ := pat_tris ht he cC h0 h1 h2 k0
    obtain ⟨a2, n2, c2', t2, rfl, i2⟩ := pat_tris ht he cC h0 h1 h2 k1
    exact ⟨_, _, _, t1, _, _, _, t2, rfl, i1, i2⟩
/-- The call owns two slices of triples, apart from one another, between B and C. -/
def Own2 (B C : Nat) (v1 v2 : Value) (t1 t2 : List Tri3) (w : World) : Prop := OwnC B C v1 t1 w ∧ OwnC B C v2 t2 w ∧ ∀ j, v1.ownBlock = some j → v2.ownBlock ≠ some j
theorem own2_lives {B C : Nat} {v1 v2 : Value} {t1 t2 : List Tri3} : Lives B C (Own2 B C v1 v2 t1 t2) := fun w w2 he h => ⟨ownC_lives w w2 he h.1, ownC_lives w w2 he h.2.1, h.2.2⟩
theorem Own2.is {B C : Nat} {w : World} {v1 v2 : Value} {t1 t2 : List Tri3} {n1 n2 : Nat} (h : Own2 B C v1 v2 t1 t2 w) (m1 : ∀ t ∈ t1, t.1.size ≤ maxLen ∧ t.2.1.size ≤ maxLen ∧ t.2.2.size ≤ maxLen) (m2 : ∀ t ∈ t2, t.1.size ≤ maxLen ∧ t.2.1.size ≤ maxLen ∧ t.2.2.size ≤ maxLen) (l1 : t1.length = n1) (l2 : t2.length = n2) :
    ∃ a1 c1 a2 c2, v1 = .slice a1 n1 c1 ∧ v2 = .slice a2 n2 c2 ∧ Is2 w a1 a2 n1 n2 c1 c2 t1 t2 := by
  subst l1 l2
  obtain ⟨a1, c1, e1, i1⟩ := h.1.1.is m1
  obtain ⟨a2, c2, e2, i2⟩ := h.2.1.1.is m2
  exact ⟨a1, c1, a2, c2, e1, e2, i1, i2⟩
theorem Own2.read {B C : Nat} {w : World} {a1 a2 : Option Addr} {c1 c2 : Nat} {t1 t2 : List Tri3} {n1 n2 : Nat} (h : Own2 B C (.slice a1 n1 c1) (.slice a2 n2 c2) t1 t2 w) (m1 : ∀ t ∈ t1, t.1.size ≤ maxLen ∧ t.2.1.size ≤ maxLen ∧ t.2.2.size ≤ maxLen) (m2 : ∀ t ∈ t2, t.1.size ≤ maxLen ∧ t.2.1.size ≤ maxLen ∧ t.2.2.size ≤ maxLen) (l1 : t1.length = n1) (l2 : t2.length = n2) :
    Is2 w a1 a2 n1 n2 c1 c2 t1 t2 := by
  obtain ⟨x1, d1, x2, d2, e1, e2, i⟩ := h.is m1 m2 l1 l2
  simp only [Value.slice.injEq, true_and] at e1 e2
  obtain ⟨rfl, rfl⟩ := e1
  obtain ⟨rfl, rfl⟩ := e2
  exact i
def SzPost2 (left : Int) (n1 n2 : Nat) (t1 t2 : List Tri3) (w : World) (e : Ending) (w' : World) : Prop :=
  ∃ n : Int, e = .returned (.int .i64 n) ∧ (n = -1 ∨ (0 ≤ n ∧ n ≤ left ∧ Small n1 t1 ∧ Small n2 t2)) ∧ Below w.heap.size w w'
end Go.Proofs.YtofkploffcplhaaGreat
/- The exact laws' steps at patches, told by where things lie. -/
namespace Go.Proofs.YtofkploffcplhaaGreat
open Go.RowKit Go.WideShapes
theorem Own2.readP {B C : Nat} {w : World} {a1 a2 : Option Addr} {c1 c2 : Nat} {t1 t2 : List Tri3} {n1 n2 : Nat} (h : Own2 B C (.slice a1 n1 c1) (.slice a2 n2 c2) t1 t2 w) (m : SmAll t1 ∧ SmAll t2) (l : t1.length = n1 ∧ t2.length = n2) : Is2 w a1 a2 n1 n2 c1 c2 t1 t2 := h.read m.1 m.2 l.1 l.2
theorem own2_shape {B C : Nat} {w : World} {v1 v2 : Value} {t1 t2 : List Tri3} {n1 n2 : Nat} (h : Holds B C w (Own2 B C v1 v2 t1 t2)) (l : t1.length = n1 ∧ t2.length = n2) : ∃ a1 c1 a2 c2, v1 = .slice a1 n1 c1 ∧ v2 = .slice a2 n2 c2 ∧ Holds B C w (Own2 B C (.slice a1 n1 c1) (.slice a2 n2 c2) t1 t2) := by
  obtain ⟨rfl, rfl⟩ := l
  obtain ⟨⟨o1, _⟩, ⟨o2, _⟩, _⟩ := h.now
  obtain ⟨a1, c1, rfl⟩ : ∃ a c, v1 = .slice a t1.length c := by
    rcases o1.2 with ⟨rfl, e⟩ | ⟨g, c, cur, rfl, _⟩
    · exact ⟨none, 0, by rw [e]⟩
    · exact ⟨_, _, rfl⟩
  obtain ⟨a2, c2, rfl⟩ : ∃ a c, v2 = .slice a t2.length c := by
    rcases o2.2 with ⟨rfl, e⟩ | ⟨g, c, cur, rfl, _⟩
    · exact ⟨none, 0, by rw [e]⟩
    · exact ⟨_, _, rfl⟩
  exact ⟨_, _, _, _, rfl, rfl, h⟩
end Go.Proofs.YtofkploffcplhaaGreat
