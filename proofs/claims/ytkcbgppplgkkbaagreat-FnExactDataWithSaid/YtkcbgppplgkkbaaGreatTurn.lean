/- What a call may have written, told by where it lies; facts that speak of some blocks alone. -/
import Derived.Test.YtkcbgppplgkkbaaGreatOwnG
namespace Go.Proofs.YtkcbgppplgkkbaaGreat
open Go.RowKit
/-- Only what lies from D on and below E may have been written. -/
structure Turn (D E : Nat) (w w' : World) : Prop where
  os : w'.os = w.os
  tape : w'.tape = w.tape
  output : w'.output = w.output
  size : w.heap.size ≤ w'.heap.size
  block : ∀ k, k < w.heap.size → k < D ∨ E ≤ k → w'.heap[k]? = w.heap[k]?
theorem Turn.of_below {w w' : World} (h : Below w.heap.size w w') (D : Nat) : Turn D D w w' := ⟨h.os, h.tape, h.output, h.size, fun k hk _ => h.block k hk⟩
theorem Turn.of_grown {w w' : World} {row : Option Nat} (h : w.grownBy w' row) {D E : Nat} (hr : ∀ j, row = some j → D ≤ j ∧ j < E) : Turn D E w w' :=
  ⟨h.os, h.tape, h.output, h.size, fun k hk hd => h.block k hk (fun e => by have := hr k e.symm; omega)⟩
theorem Turn.below {D E B : Nat} {w w' : World} (h : Turn D E w w') (hB : B ≤ w.heap.size) (hD : B ≤ D) : Below B w w' := ⟨h.os, h.tape, h.output, h.size, fun k hk => h.block k (by omega) (.inl (by omega))⟩
/-- p speaks of nothing but the blocks from B on and below C. -/
def Lives (B C : Nat) (p : World → Prop) : Prop := ∀ w w' : World, (∀ k, B ≤ k → k < C → w'.heap[k]? = w.heap[k]?) → p w → p w'
/-- p holds, and speaks of nothing else. -/
structure Holds (B C : Nat) (w : World) (p : World → Prop) : Prop where
  lives : Lives B C p
  le : C ≤ w.heap.size
  now : p w
theorem Holds.step {B C D E : Nat} {w w' : World} {p : World → Prop} (h : Holds B C w p) (ht : Turn D E w w') (hd : C ≤ D ∨ E ≤ B) : Holds B C w' p :=
  ⟨h.lives, Nat.le_trans h.le ht.size, h.lives w w' (fun k h1 h2 => ht.block k (by have := h.le; omega) (by omega)) h.now⟩
theorem Holds.next {B C : Nat} {w w' : World} {p : World → Prop} (h : Holds B C w p) (hb : Below w.heap.size w w') : Holds B C w' p :=
  ⟨h.lives, Nat.le_trans h.le hb.size, h.lives w w' (fun k h1 h2 => hb.block k (by have := h.le; omega)) h.now⟩
theorem Holds.drew {B C : Nat} {w : World} {p : World → Prop} (h : Holds B C w p) : Holds B C w.drew p := ⟨h.lives, h.le, h.lives w w.drew (fun _ _ _ => rfl) h.now⟩
theorem Holds.undrew {B C : Nat} {w : World} {p : World → Prop} (h : Holds B C w.drew p) : Holds B C w p := ⟨h.lives, h.le, h.lives w.drew w (fun _ _ _ => rfl) h.now⟩
theorem Holds.alloc {B C : Nat} {w : World} {p : World → Prop} (h : Holds B C w p) (o : Obj) : Holds B C (w.alloc o) p := h.next ((Below.refl w.heap.size w).alloc (Nat.le_refl _) o)
theorem Holds.widen {B C B' C' : Nat} {w : World} {p : World → Prop} (h : Holds B C w p) (hB : B' ≤ B) (hC : C ≤ C') (hl : C' ≤ w.heap.size) : Holds B' C' w p :=
  ⟨fun w w' he => h.lives w w' (fun k h1 h2 => he k (by omega) (by omega)), hl, h.now⟩
/-- Block g holds just these cells. -/
def Cells (g : Nat) (cs : Array Value) (T : TypeId) (w : World) : Prop := w.heap[g]? = some (.cells cs T (0, 0))
theorem cells_lives (g : Nat) (cs : Array Value) (T : TypeId) : Lives g (g + 1) (Cells g cs T) := fun _ _ he h => (he g (Nat.le_refl _) (Nat.lt_succ_self _)).trans h
theorem cells_new (w : World) (cs : Array Value) (T : TypeId) : Holds w.heap.size (w.heap.size + 1) (w.alloc (.cells cs T)) (Cells w.heap.size cs T) := ⟨cells_lives _ _ _, by simp, heap_alloc_new w _⟩
theorem Cells.at {g : Nat} {cs : Array Value} {T : TypeId} {w : World} (h : Cells g cs T w) (i : Nat) : w.cell? ⟨g, i, none⟩ = cs[i]? := by
  unfold Cells at h; simp [World.cell?, h]
theorem Cells.free {g : Nat} {cs : Array Value} {T : TypeId} {w : World} (h : Cells g cs T w) (i : Nat) : w.frozen? ⟨g, i, none⟩ = false := by
  unfold Cells at h; simp [World.frozen?, h]
/-- What a row's owner says, with a ceiling, speaks of the row's block alone. -/
theorem row_lives {B C : Nat} {e : TypeId} {k n : Nat} {v : Value} {xs : List Value} : Lives B C (fun w => w.ownsRow B e k v n xs ∧ ∀ j, v.ownBlock = some j → j < C) := by
  rintro w w' he ⟨⟨h1, h2⟩, h3⟩
  refine ⟨⟨h1, ?_⟩, h3⟩
  rcases h2 with h2 | ⟨g, cap, cur, rfl, hB, hh, r⟩
  · exact .inl h2
  · exact .inr ⟨g, cap, cur, rfl, hB, (he g hB (h3 g rfl)).trans hh, r⟩
theorem row_holds {B e k n : Nat} {w w' : World} {v : Value} {xs : List Value} (h : w'.ownsRow w.heap.size e k v n xs) (_hb : Below B w w') : Holds w.heap.size w'.heap.size w' (fun W => W.ownsRow w.heap.size e k v n xs ∧ ∀ j, v.ownBlock = some j → j < w'.heap.size) :=
  ⟨row_lives, Nat.le_refl _, h, fun j hj => (World.ownsRow.lt h j hj).2⟩
theorem and_lives {B C : Nat} {p q : World → Prop} (hp : Lives B C p) (hq : Lives B C q) : Lives B C (fun w => p w ∧ q w) := fun w w2 he h => ⟨hp w w2 he h.1, hq w w2 he h.2⟩
/-- The call owns a slice of these triples, between B and C. -/
def OwnC (B C : Nat) (v : Value) (ts : List Tri3) (w : World) : Prop := OwnT B w v ts ∧ ∀ j, v.ownBlock = some j → j < C
theorem ownC_lives {B C : Nat} {v : Value} {ts : List Tri3} : Lives B C (OwnC B C v ts) := row_lives
theorem ownC_new {w w' : World} {v : Value} {ts : List Tri3} (h : OwnT w.heap.size w' v ts) (_hb : Below w.heap.size w w') : Holds w.heap.size w'.heap.size w' (OwnC w.heap.size w'.heap.size v ts) :=
  ⟨ownC_lives, Nat.le_refl _, h, fun j hj => (World.ownsRow.lt h j hj).2⟩
theorem OwnC.turn {B C : Nat} {v : Value} {ts : List Tri3} {w w' : World} (h : OwnC B C v ts w) (hg : w.grownBy w' v.ownBlock) : Turn B C w w' := .of_grown hg (fun j hj => ⟨(World.ownsRow.lt h.1 j hj).1, h.2 j hj⟩)
end Go.Proofs.YtkcbgppplgkkbaaGreat
