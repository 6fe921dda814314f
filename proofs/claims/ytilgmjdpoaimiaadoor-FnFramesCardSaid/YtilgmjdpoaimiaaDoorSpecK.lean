/- The contracts of the model's functions on kinds. -/
import Derived.Test.YtilgmjdpoaimiaaDoorKindM
import Derived.Deep.QuietTactic
import Derived.BigQuiet
import Derived.WalkSmall
namespace Go.Proofs.YtilgmjdpoaimiaaDoor
open Go.RowKit
def othB (o : List UInt8) (c : UInt8) : Bool := labB c || o.contains c
theorem lab_cases (c : UInt8) : (labB c = true ∧ 97 ≤ (c.toNat : Int) ∧ (c.toNat : Int) ≤ 122) ∨ (labB c = true ∧ (c.toNat : Int) < 97 ∧ 48 ≤ (c.toNat : Int) ∧ (c.toNat : Int) ≤ 57) ∨
    (labB c = false ∧ (c.toNat : Int) < 97 ∧ (c.toNat : Int) < 48) ∨ (labB c = false ∧ 122 < (c.toNat : Int)) ∨ (labB c = false ∧ (c.toNat : Int) < 97 ∧ 57 < (c.toNat : Int)) := by
  unfold labB
  simp only [Bool.or_eq_true, Bool.and_eq_true, decide_eq_true_eq, Bool.or_eq_false_iff, Bool.and_eq_false_iff, decide_eq_false_iff_not]
  omega
theorem contains_snoc (o : ByteArray) (j : Nat) (h : j < o.size) (c : UInt8) : (o.data.toList.take (j + 1)).contains c = ((o.data.toList.take j).contains c || ((c.toNat : Int) == (o[j].toNat : Int))) := by
  rw [take_snoc o j h, Bool.eq_iff_iff]
  have := u8_int c o[j]
  simp at *
  rw [this]
end Go.Proofs.YtilgmjdpoaimiaaDoor
