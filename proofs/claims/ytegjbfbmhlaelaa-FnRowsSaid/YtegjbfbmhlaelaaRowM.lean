/- Rows of bindings: the contracts of the small functions; which rows are right. -/
import Derived.Test.YtegjbfbmhlaelaaRise
import Derived.Test.YtegjbfbmhlaelaaSpecKO
import Derived.Test.YtegjbfbmhlaelaaBox
namespace Go.Proofs.Ytegjbfbmhlaelaa
open Go.RowKit
/-- Block g holds just these two cells. -/
def Box2 (w : World) (g : Nat) (x y : Value) (T : TypeId) : Prop := w.heap[g]? = some (.cells #[x, y] T (0, 0))
theorem Box2.new (w : World) (x y : Value) (T : TypeId) : Box2 (w.alloc (.cells #[x, y] T)) w.heap.size x y T := heap_alloc_new w _
theorem Box2.drew {w : World} {g : Nat} {x y : Value} {T : TypeId} (h : Box2 w g x y T) : Box2 w.drew g x y T := h
theorem Box2.cells {w : World} {g : Nat} {x y : Value} {T : TypeId} (h : Box2 w g x y T) : w.cell? ⟨g, 0, none⟩ = some x ∧ w.cell? ⟨g, 1, none⟩ = some y := by
  unfold Box2 at h
  refine ⟨?_, ?_⟩ <;> simp [World.cell?, h]
def isVarK (l : List UInt8) : Bool := decide (kindL l = 4)
def isValK (l : List UInt8) : Bool := decide (kindL l = 1) || decide (kindL l = 2) || decide (kindL l = 3)
def pairT (t : Pre2) : Bool := isVarK t.1.data.toList && isValK t.2.data.toList
def rowOk (ts : List Pre2) : Bool := decide (ts.length ≤ 12) && gUpto pairT lessP ts ts.length
theorem implIsVar (s : ByteArray) (hs : s.size ≤ 2097152) (w : World) :
    Calls Try.prog 75 #[.string s] w fun e w' => e = .returned (.bool (isVarK s.data.toList)) ∧ Below w.heap.size w w' := by
  have C' := implKindOf s hs
  unfold isVarK
  generalize kindL s.data.toList = k at C' ⊢
  have C := Lib.hid C'
  clear C'
  have EK : (((k : Int) == 4) = true ∧ decide (k = 4) = true) ∨ (((k : Int) == 4) = false ∧ decide (k = 4) = false) := by
    simp only [beq_iff_eq, beq_eq_false_iff_ne, decide_eq_true_eq, decide_eq_false_iff_not]; omega
  generalize decide (k = 4) = q at EK ⊢
  go_enter Try.func75, Try.ntmps75
  go_wp2_with fail
  refine (C.out _).mono ?_
  rintro e w1 ⟨rfl, hb1⟩
  rcases EK with ⟨k1, rfl⟩ | ⟨k1, rfl⟩
  all_goals
    go_wp2_with fail
    go_ret
    exact ⟨rfl, hb1⟩
theorem implIsValue (s : ByteArray) (hs : s.size ≤ 2097152) (w : World) :
    Calls Try.prog 76 #[.string s] w fun e w' => e = .returned (.bool (isValK s.data.toList)) ∧ Below w.heap.size w w' := by
  have C' := implKindOf s hs
  unfold isValK
  generalize kindL s.data.toList = ko at C' ⊢
  have C := Lib.hid C'
  clear C'
  have EO : (((ko : Int) == 1) = true ∧ (decide (ko = 1) || decide (ko = 2) || decide (ko = 3)) = true) ∨ (((ko : Int) == 1) = false ∧ ((ko : Int) == 2) = true ∧ (decide (ko = 1) || decide (ko = 2) || decide (ko = 3)) = true) ∨
      (((ko : Int) == 1) = false ∧ ((ko : Int) == 2) = false ∧ ((ko : Int) == 3) = true ∧ (decide (ko = 1) || decide (ko = 2) || decide (ko = 3)) = true) ∨ (((ko : Int) == 1) = false ∧ ((ko : Int) == 2) = false ∧ ((ko : Int) == 3) = false ∧ (decide (ko = 1) || decide (ko = 2) || decide (ko = 3)) = false) := by
    simp only [beq_iff_eq, beq_eq_false_iff_ne, Bool.or_eq_true, Bool.or_eq_false_iff, decide_eq_true_eq, decide_eq_false_iff_not]; omega
  generalize (decide (ko = 1) || decide (ko = 2) || decide (ko = 3)) = q at EO ⊢
  go_enter Try.func76, Try.ntmps76
  go_wp2_with fail
  refine (C.out _).mono ?_
  rintro e w1 ⟨rfl, hb1⟩
  rcases EO with ⟨o1, rfl⟩ | ⟨o1, o2, rfl⟩ | ⟨o1, o2, o3, rfl⟩ | ⟨o1, o2, o3, rfl⟩
  all_goals
    go_wp2_with fail
    go_ret
    exact ⟨rfl, hb1⟩
theorem specIn (k : Nat) (w : World) :
    Calls Try.prog 78 #[.int .i64 k, .int .i64 1, .int .i64 3] w fun e w' => e = .returned (.bool (decide (k = 1) || decide (k = 2) || decide (k = 3))) ∧ w = w' := by
  have EO : (((1 : Int) ≤ (k : Int)) ∧ (k : Int) ≤ 3 ∧ (decide (k = 1) || decide (k = 2) || decide (k = 3)) = true) ∨ ((k : Int) < 1 ∧ (decide (k = 1) || decide (k = 2) || decide (k = 3)) = false) ∨ (((1 : Int) ≤ (k : Int)) ∧ (3 : Int) < (k : Int) ∧ (decide (k = 1) || decide (k = 2) || decide (k = 3)) = false) := by
    simp only [Bool.or_eq_true, Bool.or_eq_false_iff, decide_eq_true_eq, decide_eq_false_iff_not]; omega
  generalize (decide (k = 1) || decide (k = 2) || decide (k = 3)) = q at EO ⊢
  go_enter Try.func78, Try.ntmps78
  rcases EO with ⟨o1, o2, rfl⟩ | ⟨o1, rfl⟩ | ⟨o1, o2, rfl⟩
  all_goals
    go_wp2_with fail
    go_ret
    exact ⟨by first | rfl | (simp; omega), rfl⟩
end Go.Proofs.Ytegjbfbmhlaelaa
