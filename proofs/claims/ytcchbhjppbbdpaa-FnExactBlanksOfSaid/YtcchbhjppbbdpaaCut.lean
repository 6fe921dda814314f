/- What stands ahead of the first such byte, and behind it. -/
import Derived.Test.YtcchbhjppbbdpaaBase
import Derived.Test.YtcchbhjppbbdpaaShelf
import Derived.Lib.Bytealg
import Derived.Deep.QuietTactic
import Derived.BigQuiet
import Derived.WalkSmall
import Derived.IntWalk
namespace Go.Proofs.Ytcchbhjppbbdpaa
open Go.RowKit
def cutL : List UInt8 → UInt8 → List UInt8 × List UInt8 × Bool
  | [], _ => ([], [], false)
  | x :: r, c => if x = c then ([], r, true) else (x :: (cutL r c).1, (cutL r c).2)
theorem cutL_yes (c : UInt8) (r : List UInt8) : cutL (c :: r) c = ([], r, true) := by simp [cutL]
theorem cutL_no {x c : UInt8} (r : List UInt8) (h : ¬ x = c) : cutL (x :: r) c = (x :: (cutL r c).1, (cutL r c).2) := by simp [cutL, h]
theorem cutL_index (c : UInt8) : ∀ l : List UInt8, (Lib.indexByte l c = -1 ∧ cutL l c = (l, [], false)) ∨ ∃ k : Nat, k < l.length ∧ Lib.indexByte l c = k ∧ cutL l c = (l.take k, l.drop (k + 1), true)
  | [] => .inl ⟨rfl, rfl⟩
  | x :: r => by
    by_cases h : x = c
    · refine .inr ⟨0, by simp, ?_, ?_⟩
      · simp [Lib.indexByte, h]
      · rw [h, cutL_yes]; rfl
    · have hb : (x == c) = false := by simpa using h
      rcases cutL_index c r with ⟨h1, h2⟩ | ⟨k, hk, h1, h2⟩
      · refine .inl ⟨by simp [Lib.indexByte, hb, h1], ?_⟩
        rw [cutL_no r h, h2]
      · refine .inr ⟨k + 1, by simpa using hk, ?_, ?_⟩
        · have : ¬ ((k : Int) = -1) := by omega
          simp [Lib.indexByte, hb, h1, this]
        · rw [cutL_no r h, h2]; simp
theorem cutL_len (l : List UInt8) (c : UInt8) : (cutL l c).1.length ≤ l.length ∧ (cutL l c).2.1.length ≤ l.length := by
  rcases cutL_index c l with ⟨_, h⟩ | ⟨k, hk, _, h⟩ <;> rw [h] <;> simp <;> omega
end Go.Proofs.Ytcchbhjppbbdpaa
