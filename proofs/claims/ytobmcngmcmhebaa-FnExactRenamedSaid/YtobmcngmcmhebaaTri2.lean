/- The contracts of the functions on triples: their texts, and which is ahead. -/
import Derived.Test.YtobmcngmcmhebaaTriA
namespace Go.Proofs.Ytobmcngmcmhebaa
open Go.RowKit
def triText (s p o : List UInt8) : List UInt8 := if triOk s p o then s ++ 32 :: (p ++ 32 :: (o ++ [32, 46])) else []
theorem join_text (s p o : ByteArray) : s ++ { data := #[32] } ++ p ++ { data := #[32] } ++ o ++ { data := #[32, 46] } = bs (s.data.toList ++ 32 :: (p.data.toList ++ 32 :: (o.data.toList ++ [32, 46]))) := by
  apply bs_eq
  simp
theorem less_irrefl : ∀ a : List UInt8, Op.bytesLess a a = false
  | [] => rfl
  | x :: r => by simp [Op.bytesLess, less_irrefl r]
theorem less_asymm : ∀ a b : List UInt8, Op.bytesLess a b = true → Op.bytesLess b a = false
  | _, [], h => by simp [Op.bytesLess] at h
  | [], _ :: _, _ => by simp [Op.bytesLess]
  | x :: r, y :: q, h => by
    simp only [Op.bytesLess, Bool.or_eq_true, Bool.and_eq_true, decide_eq_true_eq, beq_iff_eq] at h
    simp only [Op.bytesLess, Bool.or_eq_false_iff, Bool.and_eq_false_iff, decide_eq_false_iff_not, beq_eq_false_iff_ne]
    rcases h with h | ⟨rfl, h⟩
    · refine ⟨?_, .inl ?_⟩
      · rw [UInt8.lt_iff_toNat_lt] at h ⊢; omega
      · rintro rfl; rw [UInt8.lt_iff_toNat_lt] at h; omega
    · exact ⟨by rw [UInt8.lt_iff_toNat_lt]; omega, .inr (less_asymm r q h)⟩
theorem less_total : ∀ a b : List UInt8, a ≠ b → Op.bytesLess a b = true ∨ Op.bytesLess b a = true
  | [], [], h => absurd rfl h
  | [], _ :: _, _ => by simp [Op.bytesLess]
  | _ :: _, [], _ => by simp [Op.bytesLess]
  | x :: r, y :: q, h => by
    simp only [Op.bytesLess, Bool.or_eq_true, Bool.and_eq_true, decide_eq_true_eq, beq_iff_eq]
    by_cases e : x = y
    · subst e
      have := less_total r q (fun g => h (by rw [g]))
      rcases this with g | g
      · exact .inl (.inr ⟨rfl, g⟩)
      · exact .inr (.inr ⟨rfl, g⟩)
    · have : x.toNat ≠ y.toNat := fun g => e (UInt8.toNat.inj g)
      rw [UInt8.lt_iff_toNat_lt, UInt8.lt_iff_toNat_lt]
      omega
theorem ahead_both (s p o s' p' o' : List UInt8) : (aheadL s p o s' p' o' && aheadL s' p' o' s p o) = false := by
  unfold aheadL
  have key : ∀ a b : List UInt8, (Op.bytesLess a b && Op.bytesLess b a) = false := by
    intro a b
    cases h : Op.bytesLess a b
    · rfl
    · rw [less_asymm a b h]; rfl
  by_cases h1 : s = s'
  · subst h1
    by_cases h2 : p = p'
    · subst h2; simp [key]
    · simp [h2, Ne.symm h2, key]
  · simp [h1, Ne.symm h1, key]
theorem ahead_one (s p o s' p' o' : List UInt8) : (aheadL s p o s' p' o' || aheadL s' p' o' s p o) = !(s == s' && (p == p' && o == o')) := by
  unfold aheadL
  have key : ∀ a b : List UInt8, (Op.bytesLess a b || Op.bytesLess b a) = !(a == b) := by
    intro a b
    by_cases h : a = b
    · subst h; simp [less_irrefl]
    · have e : (a == b) = false := by simpa using h
      rw [e]
      rcases less_total a b h with g | g <;> simp [g]
  by_cases h1 : s = s'
  · subst h1
    by_cases h2 : p = p'
    · subst h2; simp [key]
    · simp [h2, Ne.symm h2, key]
  · simp [h1, Ne.symm h1, key]
end Go.Proofs.Ytobmcngmcmhebaa
