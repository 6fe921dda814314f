/- The exact laws' steps at slices of triples, told by where things lie. -/
import Derived.Test.YtkcbgppplgkkbaaGreatTurn
import Derived.Test.YtkcbgppplgkkbaaGreatMarkK
import Derived.Test.YtkcbgppplgkkbaaGreatExactS3
import Derived.Test.YtkcbgppplgkkbaaGreatGraph
namespace Go.Proofs.YtkcbgppplgkkbaaGreat
open Go.RowKit Go.WideShapes
def SmAll (ts : List Tri3) : Prop := ∀ t ∈ ts, t.1.size ≤ maxLen ∧ t.2.1.size ≤ maxLen ∧ t.2.2.size ≤ maxLen
theorem smAll_marks (k0 n : Nat) (hn : n ≤ 1048576) (hk : k0 ≤ 40000000) : SmAll (marksK k0 n) := marksK_small k0 n hn hk
theorem Cells.two {g : Nat} {x y : Value} {T : TypeId} {w : World} (h : Cells g #[x, y] T w) : w.cell? ⟨g, 0, none⟩ = some x ∧ w.cell? ⟨g, 1, none⟩ = some y := ⟨h.at 0, h.at 1⟩
theorem tris_most {w : World} {a : Option Addr} {len cap : Nat} {ts : List Tri3} (h : IsTris w a len cap ts) : len ≤ 9223372036854775807 := by
  rcases h with ⟨_, rfl, _, _⟩ | ⟨_, _, h1, h2, _⟩
  · omega
  · unfold maxLen at h2; omega
theorem OwnC.read {B C : Nat} {w : World} {a : Option Addr} {n c : Nat} {ts : List Tri3} (h : OwnC B C (.slice a n c) ts w) (hm : SmAll ts) (hl : ts.length = n) : IsTris w a n c ts := by
  subst hl
  obtain ⟨x, y, e, i⟩ := h.1.is hm
  simp only [Value.slice.injEq, true_and] at e
  obtain ⟨rfl, rfl⟩ := e
  exact i
theorem ownC_shape {w w' : World} {v : Value} {ts : List Tri3} {n : Nat} (h : OwnT w.heap.size w' v ts) (hb : Below w.heap.size w w') (hl : ts.length = n) : ∃ a c, v = .slice a n c ∧ Holds w.heap.size w'.heap.size w' (OwnC w.heap.size w'.heap.size (.slice a n c) ts) := by
  have H := ownC_new h hb
  subst hl
  rcases h.2 with ⟨rfl, e⟩ | ⟨g, c, cur, rfl, _⟩
  · exact ⟨none, 0, by rw [e], by rw [e]; exact H⟩
  · exact ⟨_, _, rfl, H⟩
theorem exTo (a : Option Addr) (n c : Nat) (ts : List Tri3) (w : World) (h : IsTris w a n c ts) (hs : n ≤ 1048576) (hl : ts.length = n) :
    Calls Tryz.prog 40 #[.slice a n c] w fun e w' => ∃ a' c', e = .returned (.slice a' n c') ∧ Holds w.heap.size w'.heap.size w' (OwnC w.heap.size w'.heap.size (.slice a' n c') ts) ∧ Below w.heap.size w w' :=
  (toTriS a n c ts w h hs).mono fun e w' ⟨v, he, ho, hb⟩ => by
    obtain ⟨a', c', rfl, H⟩ := ownC_shape ho hb hl
    exact ⟨a', c', he, H, hb⟩
theorem exMark {B C : Nat} {a : Option Addr} {n c : Nat} {ts : List Tri3} {w : World} (h : Holds B C w (OwnC B C (.slice a n c) ts)) (hs : n ≤ 1048576) (hl : ts.length = n) (k0 : Nat) (hk0 : 0 < k0) (hk1 : k0 ≤ 40000000) :
    Calls Tryz.prog 29 #[.slice a n c, .int .i64 k0] w fun e w' => e = .returned (.int .i64 ((k0 + 3 * n : Nat) : Int)) ∧ Holds B C w' (OwnC B C (.slice a n c) (marksK k0 n)) ∧ Turn B C w w' := by
  subst hl
  refine (markTriK B _ ts w h.now.1 hs k0 hk0 hk1).mono fun e w' ⟨he, ho, hg⟩ => ⟨he, ⟨ownC_lives, Nat.le_trans h.le hg.size, ho, h.now.2⟩, h.now.turn hg⟩
theorem exHeld {B C : Nat} {a : Option Addr} {n c : Nat} {w : World} {k0 : Nat} (h : Holds B C w (OwnC B C (.slice a n c) (marksK k0 n))) (hs : n ≤ 1048576) (hk0 : 0 < k0) (hk1 : k0 ≤ 1000000) :
    Calls Tryz.prog 30 #[.slice a n c, .int .i64 k0] w fun e w' => e = .returned (.int .i64 ((k0 + 3 * n : Nat) : Int)) ∧ Below w.heap.size w w' :=
  heldTriK a n c w k0 (h.now.read (smAll_marks _ _ hs (by omega)) (marksK_len _ _)) hs hk0 (by omega)
end Go.Proofs.YtkcbgppplgkkbaaGreat
