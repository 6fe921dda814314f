/- The exact laws' comparison of two stores, their marks and second look. -/
import Derived.Test.YteejpceliodcfaaStoQ
import Derived.Test.YteejpceliodcfaaExactS

namespace Go.Proofs.Yteejpceliodcfaa
open Go.RowKit Go.WideShapes
theorem own_far {B : Nat} {w w' : World} {v u : Value} {ts : List Tri3} (h : OwnT B w v ts) (hg : w.grownBy w' u.ownBlock) (hne : ∀ j, u.ownBlock = some j → v.ownBlock ≠ some j) : OwnT B w' v ts :=
  World.ownsRow.kept h hg (by
    rcases hv : v.ownBlock with _ | i
    · exact .inl rfl
    · exact .inr (fun e => hne i e.symm hv))
/-- All blocks but these three slices' are as they were. -/
def Else3 (w w' : World) (v1 v2 v3 : Value) : Prop := ∀ g, g < w.heap.size → v1.ownBlock ≠ some g → v2.ownBlock ≠ some g → v3.ownBlock ≠ some g → w'.heap[g]? = w.heap[g]?
theorem Own3.lt {B : Nat} {w : World} {v1 v2 v3 : Value} {t1 t2 t3 : List Tri3} (h : Own3 B w v1 v2 v3 t1 t2 t3) : ∀ j, v1.ownBlock = some j ∨ v2.ownBlock = some j ∨ v3.ownBlock = some j → B ≤ j ∧ j < w.heap.size := by
  obtain ⟨B1, B2, h1, h2, o1, o2, o3, s1, s2⟩ := h
  intro j hj
  rcases hj with hj | hj | hj
  · exact World.ownsRow.lt o1 j hj
  · have := World.ownsRow.lt o2 j hj; exact ⟨by omega, this.2⟩
  · have := World.ownsRow.lt o3 j hj; exact ⟨by omega, this.2⟩
def Is3 (w : World) (a1 a2 a3 : Option Addr) (n1 n2 n3 c1 c2 c3 : Nat) (t1 t2 t3 : List Tri3) : Prop := IsTris w a1 n1 c1 t1 ∧ IsTris w a2 n2 c2 t2 ∧ IsTris w a3 n3 c3 t3
theorem Is3.next {w w' : World} {a1 a2 a3 : Option Addr} {n1 n2 n3 c1 c2 c3 : Nat} {t1 t2 t3 : List Tri3} (h : Is3 w a1 a2 a3 n1 n2 n3 c1 c2 c3 t1 t2 t3) (hb : Below w.heap.size w w') : Is3 w' a1 a2 a3 n1 n2 n3 c1 c2 c3 t1 t2 t3 := ⟨h.1.next hb, h.2.1.next hb, h.2.2.next hb⟩
def SmV (ts : List Tri3) : Prop := ∀ t ∈ ts, t.1.size ≤ maxLen ∧ t.2.1.size ≤ maxLen ∧ t.2.2.size ≤ maxLen
theorem Own3.is {B : Nat} {w : World} {v1 v2 v3 : Value} {t1 t2 t3 : List Tri3} (h : Own3 B w v1 v2 v3 t1 t2 t3) (m1 : SmV t1) (m2 : SmV t2) (m3 : SmV t3) :
    ∃ a1 c1 a2 c2 a3 c3, v1 = .slice a1 t1.length c1 ∧ v2 = .slice a2 t2.length c2 ∧ v3 = .slice a3 t3.length c3 ∧ Is3 w a1 a2 a3 t1.length t2.length t3.length c1 c2 c3 t1 t2 t3 := by
  obtain ⟨B1, B2, h1, h2, o1, o2, o3, s1, s2⟩ := h
  obtain ⟨a1, c1, e1, i1⟩ := o1.is m1
  obtain ⟨a2, c2, e2, i2⟩ := o2.is m2
  obtain ⟨a3, c3, e3, i3⟩ := o3.is m3
  exact ⟨a1, c1, a2, c2, a3, c3, e1, e2, e3, i1, i2, i3⟩
theorem Own3.kept {B : Nat} {w w' : World} {v1 v2 v3 u : Value} {t1 t2 t3 : List Tri3} (h : Own3 B w v1 v2 v3 t1 t2 t3) (hg : w.grownBy w' u.ownBlock) (hu : ∀ j, u.ownBlock = some j → j < B) : Own3 B w' v1 v2 v3 t1 t2 t3 := by
  obtain ⟨B1, B2, h1, h2, o1, o2, o3, s1, s2⟩ := h
  exact ⟨B1, B2, h1, h2, own_far o1 hg (fun j hj hv => by have := hu j hj; have := (World.ownsRow.lt o1 j hv).1; omega),
    own_far o2 hg (fun j hj hv => by have := hu j hj; have := (World.ownsRow.lt o2 j hv).1; omega), own_far o3 hg (fun j hj hv => by have := hu j hj; have := (World.ownsRow.lt o3 j hv).1; omega), s1, s2⟩
theorem Own3.alloc {B : Nat} {w : World} {v1 v2 v3 : Value} {t1 t2 t3 : List Tri3} (h : Own3 B w v1 v2 v3 t1 t2 t3) (o : Obj) : Own3 B (w.alloc o) v1 v2 v3 t1 t2 t3 := h.next (World.grownBy_alloc w o none)
open Go.ChangeShapes Go.WideShapes Go.ChangeAt Go.RowKit
theorem open_tris_one {H : Type} {enc : TypeId × Value → H} {P : Program} {w : World} {base : Nat} {spare : Nat → Bool} {held : Bool} {t e : TypeId} {f0 f1 f2 : Field} {fuel : Nat} {c : Value} {x : DataW H × List MemPlace}
    (ht : P.underlying t = some (.slice e)) (he : P.underlying e = some (.struct #[f0, f1, f2])) (hC : P.cellsOf e = 3)
    (h0 : P.underlying f0.type = some .string ∧ f0.offset = 0 ∧ P.cellsOf f0.type = 1) (h1 : P.underlying f1.type = some .string ∧ f1.offset = 1 ∧ P.cellsOf f1.type = 1) (h2 : P.underlying f2.type = some .string ∧ f2.offset = 2 ∧ P.cellsOf f2.type = 1)
    (h : DataW.trod enc P w base spare held fuel t [c] = some x) : ∃ a len cap ts, c = .slice a len cap ∧ IsTris w a len cap ts := by
  have h' := h
  rcases Deep.open_slice ht h with ⟨hcs, _⟩ | ⟨x, len', cap', m, n, D, Pl, hcs, _⟩
  · obtain rfl : c = .slice none 0 0 := by simpa using hcs
    obtain ⟨ts, hts⟩ := open_tris ht he hC h0 h1 h2 h'
    exact ⟨_, _, _, ts, rfl, hts⟩
  · obtain rfl : c = .slice (some x) len' cap' := by simpa using hcs
    obtain ⟨ts, hts⟩ := open_tris ht he hC h0 h1 h2 h'
    exact ⟨_, _, _, ts, rfl, hts⟩
theorem IsTris.maxl {w : World} {a : Option Addr} {len cap : Nat} {ts : List Tri3} (h : IsTris w a len cap ts) : len ≤ 9223372036854775807 := by
  rcases h with ⟨_, rfl, _, _⟩ | ⟨_, _, h1, h2, _⟩
  · omega
  · unfold maxLen at h2; omega
theorem Box.setc {w : World} {g : Nat} {x y z : Value} {T : TypeId} (h : Box w g x y z T) (u : Value) : Box (w.setCell ⟨g, 2, none⟩ u) g x y u T := by
  unfold Box at h ⊢; simp [World.setCell, Array.getElem?_modify, h]
theorem Own3.isN {B : Nat} {w : World} {v1 v2 v3 : Value} {t1 t2 t3 : List Tri3} {n1 n2 n3 : Nat} (h : Own3 B w v1 v2 v3 t1 t2 t3) (m : SmV t1 ∧ SmV t2 ∧ SmV t3) (l : t1.length = n1 ∧ t2.length = n2 ∧ t3.length = n3) :
    ∃ a1 c1 a2 c2 a3 c3, v1 = .slice a1 n1 c1 ∧ v2 = .slice a2 n2 c2 ∧ v3 = .slice a3 n3 c3 ∧ Is3 w a1 a2 a3 n1 n2 n3 c1 c2 c3 t1 t2 t3 := by
  obtain ⟨rfl, rfl, rfl⟩ := l
  exact h.is m.1 m.2.1 m.2.2
end Go.Proofs.Yteejpceliodcfaa
