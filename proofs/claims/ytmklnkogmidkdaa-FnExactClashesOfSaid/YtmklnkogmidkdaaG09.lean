/- The contracts of the functions on triples: their texts, and which is ahead. -/
import Derived.Test.YtmklnkogmidkdaaG07
import Derived.Test.YtmklnkogmidkdaaG01
import Derived.Test.YtmklnkogmidkdaaG04
import Derived.Lib.Bytealg
import Derived.Deep.QuietTactic
import Derived.BigQuiet
import Derived.WalkSmall
import Derived.IntWalk
namespace Go.Proofs.Ytmklnkogmidkdaa
open Go.RowKit
def triText (s p o : List UInt8) : List UInt8 := if triOk s p o then s ++ 32 :: (p ++ 32 :: (o ++ [32, 46])) else []
theorem join_text (s p o : ByteArray) : s ++ { data := #[32] } ++ p ++ { data := #[32] } ++ o ++ { data := #[32, 46] } = bs (s.data.toList ++ 32 :: (p.data.toList ++ 32 :: (o.data.toList ++ [32, 46]))) := by
  apply bs_eq
  simp
theorem less_irrefl : ∀ a : List UInt8, Op.bytesLess a a = false
  | [] => rfl
  | x :: r => by simp [Op.bytesLess, less_irrefl r]
theorem less_asymm : ∀ a b : List UInt8, Op.bytesLess a b = true → Op.bytesLess b a = false
  | _, [], h => by simp [Op.bytesLess] at h
  | [], _ :: _, _ => by simp [Op.bytesLess]
  | x :: r, y :: q, h => by
    simp only [Op.bytesLess, Bool.or_eq_true, Bool.and_eq_true, decide_eq_true_eq, beq_iff_eq] at h
    simp only [Op.bytesLess, Bool.or_eq_false_iff, Bool.and_eq_false_iff, decide_eq_false_iff_not, beq_eq_false_iff_ne]
    rcases h with h | ⟨rfl, h⟩
    · refine ⟨?_, .inl ?_⟩
      · rw [UInt8.lt_iff_toNat_lt] at h ⊢; omega
      · rintro rfl; rw [UInt8.lt_iff_toNat_lt] at h; omega
    · exact ⟨by rw [UInt8.lt_iff_toNat_lt]; omega, .inr (less_asymm r q h)⟩
theorem less_total : ∀ a b : List UInt8, a ≠ b → Op.bytesLess a b = true ∨ Op.bytesLess b a = true
  | [], [], h => absurd rfl h
  | [], _ :: _, _ => by simp [Op.bytesLess]
  | _ :: _, [], _ => by simp [Op.bytesLess]
  | x :: r, y :: q, h => by
    simp only [Op.bytesLess, Bool.or_eq_true, Bool.and_eq_true, decide_eq_true_eq, beq_iff_eq]
    by_cases e : x = y
    · subst e
      have := less_total r q (fun g => h (by rw [g]))
      rcases this with g | g
      · exact .inl (.inr ⟨rfl, g⟩)
      · exact .inr (.inr ⟨rfl, g⟩)
    · have : x.toNat ≠ y.toNat := fun g => e (UInt8.toNat.inj g)
      rw [UInt8.lt_iff_toNat_lt, UInt8.lt_iff_toNat_lt]
      omega
theorem ahead_both (s p o s' p' o' : List UInt8) : (aheadL s p o s' p' o' && aheadL s' p' o' s p o) = false := by
  unfold aheadL
  have key : ∀ a b : List UInt8, (Op.bytesLess a b && Op.bytesLess b a) = false := by
    intro a b
    cases h : Op.bytesLess a b
    · rfl
    · rw [less_asymm a b h]; rfl
  by_cases h1 : s = s'
  · subst h1
    by_cases h2 : p = p'
    · subst h2; simp [key]
    · simp [h2, Ne.symm h2, key]
  · simp [h1, Ne.symm h1, key]
theorem ahead_one (s p o s' p' o' : List UInt8) : (aheadL s p o s' p' o' || aheadL s' p' o' s p o) = !(s == s' && (p == p' && o == o')) := by
  unfold aheadL
  have key : ∀ a b : List UInt8, (Op.bytesLess a b || Op.bytesLess b a) = !(a == b) := by
    intro a b
    by_cases h : a = b
    · subst h; simp [less_irrefl]
    · have e : (a == b) = false := by simpa using h
      rw [e]
      rcases less_total a b h with g | g <;> simp [g]
  by_cases h1 : s = s'
  · subst h1
    by_cases h2 : p = p'
    · subst h2; simp [key]
    · simp [h2, Ne.symm h2, key]
  · simp [h1, Ne.symm h1, key]
end Go.Proofs.Ytmklnkogmidkdaa
/- What stands ahead of the first such byte, and behind it. -/
namespace Go.Proofs.Ytmklnkogmidkdaa
open Go.RowKit
def cutL : List UInt8 → UInt8 → List UInt8 × List UInt8 × Bool
  | [], _ => ([], [], false)
  | x :: r, c => if x = c then ([], r, true) else (x :: (cutL r c).1, (cutL r c).2)
theorem cutL_yes (c : UInt8) (r : List UInt8) : cutL (c :: r) c = ([], r, true) := by simp [cutL]
theorem cutL_no {x c : UInt8} (r : List UInt8) (h : ¬ x = c) : cutL (x :: r) c = (x :: (cutL r c).1, (cutL r c).2) := by simp [cutL, h]
theorem cutL_index (c : UInt8) : ∀ l : List UInt8, (Lib.indexByte l c = -1 ∧ cutL l c = (l, [], false)) ∨ ∃ k : Nat, k < l.length ∧ Lib.indexByte l c = k ∧ cutL l c = (l.take k, l.drop (k + 1), true)
  | [] => .inl ⟨rfl, rfl⟩
  | x :: r => by
    by_cases h : x = c
    · refine .inr ⟨0, by simp, ?_, ?_⟩
      · simp [Lib.indexByte, h]
      · rw [h, cutL_yes]; rfl
    · have hb : (x == c) = false := by simpa using h
      rcases cutL_index c r with ⟨h1, h2⟩ | ⟨k, hk, h1, h2⟩
      · refine .inl ⟨by simp [Lib.indexByte, hb, h1], ?_⟩
        rw [cutL_no r h, h2]
      · refine .inr ⟨k + 1, by simpa using hk, ?_, ?_⟩
        · have : ¬ ((k : Int) = -1) := by omega
          simp [Lib.indexByte, hb, h1, this]
        · rw [cutL_no r h, h2]; simp
theorem cutL_len (l : List UInt8) (c : UInt8) : (cutL l c).1.length ≤ l.length ∧ (cutL l c).2.1.length ≤ l.length := by
  rcases cutL_index c l with ⟨_, h⟩ | ⟨k, hk, _, h⟩ <;> rw [h] <;> simp <;> omega
end Go.Proofs.Ytmklnkogmidkdaa
/- How a triple is read: plain functions on lists of bytes. -/
namespace Go.Proofs.Ytmklnkogmidkdaa
def readT (l : List UInt8) : Option (List UInt8 × List UInt8 × List UInt8) :=
  if Lib.hasSuffix l [32, 46] then
    (if triOk (cutL (Lib.trimSuffix l [32, 46]) 32).1 (cutL (cutL (Lib.trimSuffix l [32, 46]) 32).2.1 32).1 (cutL (cutL (Lib.trimSuffix l [32, 46]) 32).2.1 32).2.1
      then some ((cutL (Lib.trimSuffix l [32, 46]) 32).1, (cutL (cutL (Lib.trimSuffix l [32, 46]) 32).2.1 32).1, (cutL (cutL (Lib.trimSuffix l [32, 46]) 32).2.1 32).2.1) else none)
  else none
def readS (l : List UInt8) : Option (List UInt8 × List UInt8 × List UInt8) :=
  if (cutL l 32).2.2 = true ∧ (cutL (cutL l 32).2.1 32).2.2 = true ∧ Lib.hasSuffix (cutL (cutL l 32).2.1 32).2.1 [32, 46] = true then
    (if triOk (cutL l 32).1 (cutL (cutL l 32).2.1 32).1 (Lib.trimSuffix (cutL (cutL l 32).2.1 32).2.1 [32, 46])
      then some ((cutL l 32).1, (cutL (cutL l 32).2.1 32).1, Lib.trimSuffix (cutL (cutL l 32).2.1 32).2.1 [32, 46]) else none)
  else none
theorem suffix_iff (l b : List UInt8) : Lib.hasSuffix l b = true ↔ ∃ a, l = a ++ b := by
  unfold Lib.hasSuffix
  rw [List.isSuffixOf_iff_suffix]
  constructor
  · rintro ⟨a, h⟩; exact ⟨a, h.symm⟩
  · rintro ⟨a, h⟩; exact ⟨a, h.symm⟩
theorem trim_append (a b : List UInt8) : Lib.trimSuffix (a ++ b) b = a := by
  unfold Lib.trimSuffix
  rw [(suffix_iff _ _).2 ⟨a, rfl⟩]
  simp
theorem cutL_append (b : List UInt8) (c : UInt8) : ∀ a : List UInt8, cutL (a ++ b) c = if (cutL a c).2.2 = true then ((cutL a c).1, (cutL a c).2.1 ++ b, true) else (a ++ (cutL b c).1, (cutL b c).2)
  | [] => by simp [cutL]
  | x :: r => by
    have ih := cutL_append b c r
    rw [List.cons_append]
    by_cases h : x = c
    · subst h; rw [cutL_yes, cutL_yes]; simp
    · rw [cutL_no _ h, cutL_no _ h, ih]
      by_cases g : (cutL r c).2.2 = true
      · simp [g]
      · simp [g]
theorem cutL_join (c : UInt8) (l : List UInt8) (h : (cutL l c).2.2 = true) : l = (cutL l c).1 ++ c :: (cutL l c).2.1 := by
  induction l with
  | nil => simp [cutL] at h
  | cons x r ih =>
    by_cases g : x = c
    · subst g; rw [cutL_yes]; rfl
    · rw [cutL_no _ g] at h ⊢
      have := ih h
      simp only [List.cons_append]
      rw [← this]
theorem cutL_none (c : UInt8) (l : List UInt8) (h : ¬ (cutL l c).2.2 = true) : cutL l c = (l, [], false) := by
  rcases cutL_index c l with ⟨_, g⟩ | ⟨k, _, _, g⟩
  · exact g
  · rw [g] at h; simp at h
theorem triOk_nil_o (s p : List UInt8) : triOk s p [] = false := by
  unfold triOk
  have : kindL [] = 0 := rfl
  rw [this]; simp
theorem readS_eq (l : List UInt8) : readS l = readT l := by
  by_cases hl : Lib.hasSuffix l [32, 46] = true
  · obtain ⟨a, rfl⟩ := (suffix_iff _ _).1 hl
    unfold readS readT
    rw [if_pos hl, trim_append]
    clear hl
    have e1 : cutL [32, 46] 32 = ([], [46], true) := by rfl
    have e2 : cutL [46] 32 = ([46], [], false) := by rfl
    by_cases h1 : (cutL a 32).2.2 = true
    · have c1 : cutL (a ++ [32, 46]) 32 = ((cutL a 32).1, (cutL a 32).2.1 ++ [32, 46], true) := by rw [cutL_append, if_pos h1]
      rw [c1]
      simp only [true_and]
      generalize (cutL a 32).1 = s
      generalize (cutL a 32).2.1 = r
      by_cases h2 : (cutL r 32).2.2 = true
      · have c2 : cutL (r ++ [32, 46]) 32 = ((cutL r 32).1, (cutL r 32).2.1 ++ [32, 46], true) := by rw [cutL_append, if_pos h2]
        rw [c2]
        simp only [true_and, trim_append]
        rw [if_pos ((suffix_iff _ _).2 ⟨_, rfl⟩)]
      · have c2 : cutL (r ++ [32, 46]) 32 = (r, [46], true) := by rw [cutL_append, if_neg h2, e1]; simp
        rw [c2, cutL_none _ _ h2]
        simp only [true_and]
        rw [if_neg (by decide), triOk_nil_o]; rfl
    · have c1 : cutL (a ++ [32, 46]) 32 = (a, [46], true) := by rw [cutL_append, if_neg h1, e1]; simp
      rw [c1, cutL_none _ _ h1, e2]
      have e3 : cutL ([] : List UInt8) 32 = ([], [], false) := rfl
      simp only [e3]
      rw [if_neg (by simp), triOk_nil_o]; rfl
  · unfold readS readT
    rw [if_neg hl, if_neg]
    rintro ⟨h1, h2, h3⟩
    obtain ⟨o, ho⟩ := (suffix_iff _ _).1 h3
    have g1 := cutL_join _ _ h1
    have g2 := cutL_join _ _ h2
    apply hl
    rw [suffix_iff, g1, g2, ho]
    exact ⟨(cutL l 32).1 ++ 32 :: ((cutL (cutL l 32).2.1 32).1 ++ 32 :: o), by simp⟩
theorem readT_some {l s p o : List UInt8} (h : readT l = some (s, p, o)) : triOk s p o = true ∧ l = s ++ 32 :: (p ++ 32 :: (o ++ [32, 46])) := by
  rw [← readS_eq] at h
  unfold readS at h
  split at h
  · rename_i g
    obtain ⟨h1, h2, h3⟩ := g
    split at h
    · rename_i g
      simp only [Option.some.injEq, Prod.mk.injEq] at h
      obtain ⟨rfl, rfl, rfl⟩ := h
      refine ⟨g, ?_⟩
      obtain ⟨q, hq⟩ := (suffix_iff _ _).1 h3
      have g1 := cutL_join _ _ h1
      have g2 := cutL_join _ _ h2
      rw [hq, trim_append, ← hq, ← g2, ← g1]
    · simp at h
  · simp at h
theorem readT_len {l s p o : List UInt8} (h : readT l = some (s, p, o)) : s.length ≤ l.length ∧ p.length ≤ l.length ∧ o.length ≤ l.length := by
  have := (readT_some h).2
  rw [this]; simp; omega
end Go.Proofs.Ytmklnkogmidkdaa
