/- How a triple is read: plain functions on lists of bytes. -/
import Derived.Test.YtcchbhjppbbdpaaTri2
import Derived.Test.YtcchbhjppbbdpaaCut
namespace Go.Proofs.Ytcchbhjppbbdpaa
def readT (l : List UInt8) : Option (List UInt8 × List UInt8 × List UInt8) :=
  if Lib.hasSuffix l [32, 46] then
    (if triOk (cutL (Lib.trimSuffix l [32, 46]) 32).1 (cutL (cutL (Lib.trimSuffix l [32, 46]) 32).2.1 32).1 (cutL (cutL (Lib.trimSuffix l [32, 46]) 32).2.1 32).2.1
      then some ((cutL (Lib.trimSuffix l [32, 46]) 32).1, (cutL (cutL (Lib.trimSuffix l [32, 46]) 32).2.1 32).1, (cutL (cutL (Lib.trimSuffix l [32, 46]) 32).2.1 32).2.1) else none)
  else none
def readS (l : List UInt8) : Option (List UInt8 × List UInt8 × List UInt8) :=
  if (cutL l 32).2.2 = true ∧ (cutL (cutL l 32).2.1 32).2.2 = true ∧ Lib.hasSuffix (cutL (cutL l 32).2.1 32).2.1 [32, 46] = true then
    (if triOk (cutL l 32).1 (cutL (cutL l 32).2.1 32).1 (Lib.trimSuffix (cutL (cutL l 32).2.1 32).2.1 [32, 46])
      then some ((cutL l 32).1, (cutL (cutL l 32).2.1 32).1, Lib.trimSuffix (cutL (cutL l 32).2.1 32).2.1 [32, 46]) else none)
  else none
theorem suffix_iff (l b : List UInt8) : Lib.hasSuffix l b = true ↔ ∃ a, l = a ++ b := by
  unfold Lib.hasSuffix
  rw [List.isSuffixOf_iff_suffix]
  constructor
  · rintro ⟨a, h⟩; exact ⟨a, h.symm⟩
  · rintro ⟨a, h⟩; exact ⟨a, h.symm⟩
theorem trim_append (a b : List UInt8) : Lib.trimSuffix (a ++ b) b = a := by
  unfold Lib.trimSuffix
  rw [(suffix_iff _ _).2 ⟨a, rfl⟩]
  simp
theorem cutL_append (b : List UInt8) (c : UInt8) : ∀ a : List UInt8, cutL (a ++ b) c = if (cutL a c).2.2 = true then ((cutL a c).1, (cutL a c).2.1 ++ b, true) else (a ++ (cutL b c).1, (cutL b c).2)
  | [] => by simp [cutL]
  | x :: r => by
    have ih := cutL_append b c r
    rw [List.cons_append]
    by_cases h : x = c
    · subst h; rw [cutL_yes, cutL_yes]; simp
    · rw [cutL_no _ h, cutL_no _ h, ih]
      by_cases g : (cutL r c).2.2 = true
      · simp [g]
      · simp [g]
theorem cutL_join (c : UInt8) (l : List UInt8) (h : (cutL l c).2.2 = true) : l = (cutL l c).1 ++ c :: (cutL l c).2.1 := by
  induction l with
  | nil => simp [cutL] at h
  | cons x r ih =>
    by_cases g : x = c
    · subst g; rw [cutL_yes]; rfl
    · rw [cutL_no _ g] at h ⊢
      have := ih h
      simp only [List.cons_append]
      rw [← this]
theorem cutL_none (c : UInt8) (l : List UInt8) (h : ¬ (cutL l c).2.2 = true) : cutL l c = (l, [], false) := by
  rcases cutL_index c l with ⟨_, g⟩ | ⟨k, _, _, g⟩
  · exact g
  · rw [g] at h; simp at h
theorem triOk_nil_o (s p : List UInt8) : triOk s p [] = false := by
  unfold triOk
  have : kindL [] = 0 := rfl
  rw [this]; simp
theorem readS_eq (l : List UInt8) : readS l = readT l := by
  by_cases hl : Lib.hasSuffix l [32, 46] = true
  · obtain ⟨a, rfl⟩ := (suffix_iff _ _).1 hl
    unfold readS readT
    rw [if_pos hl, trim_append]
    clear hl
    have e1 : cutL [32, 46] 32 = ([], [46], true) := by rfl
    have e2 : cutL [46] 32 = ([46], [], false) := by rfl
    by_cases h1 : (cutL a 32).2.2 = true
    · have c1 : cutL (a ++ [32, 46]) 32 = ((cutL a 32).1, (cutL a 32).2.1 ++ [32, 46], true) := by rw [cutL_append, if_pos h1]
      rw [c1]
      simp only [true_and]
      generalize (cutL a 32).1 = s
      generalize (cutL a 32).2.1 = r
      by_cases h2 : (cutL r 32).2.2 = true
      · have c2 : cutL (r ++ [32, 46]) 32 = ((cutL r 32).1, (cutL r 32).2.1 ++ [32, 46], true) := by rw [cutL_append, if_pos h2]
        rw [c2]
        simp only [true_and, trim_append]
        rw [if_pos ((suffix_iff _ _).2 ⟨_, rfl⟩)]
      · have c2 : cutL (r ++ [32, 46]) 32 = (r, [46], true) := by rw [cutL_append, if_neg h2, e1]; simp
        rw [c2, cutL_none _ _ h2]
        simp only [true_and]
        rw [if_neg (by decide), triOk_nil_o]; rfl
    · have c1 : cutL (a ++ [32, 46]) 32 = (a, [46], true) := by rw [cutL_append, if_neg h1, e1]; simp
      rw [c1, cutL_none _ _ h1, e2]
      have e3 : cutL ([] : List UInt8) 32 = ([], [], false) := rfl
      simp only [e3]
      rw [if_neg (by simp), triOk_nil_o]; rfl
  · unfold readS readT
    rw [if_neg hl, if_neg]
    rintro ⟨h1, h2, h3⟩
    obtain ⟨o, ho⟩ := (suffix_iff _ _).1 h3
    have g1 := cutL_join _ _ h1
    have g2 := cutL_join _ _ h2
    apply hl
    rw [suffix_iff, g1, g2, ho]
    exact ⟨(cutL l 32).1 ++ 32 :: ((cutL (cutL l 32).2.1 32).1 ++ 32 :: o), by simp⟩
theorem readT_some {l s p o : List UInt8} (h : readT l = some (s, p, o)) : triOk s p o = true ∧ l = s ++ 32 :: (p ++ 32 :: (o ++ [32, 46])) := by
  rw [← readS_eq] at h
  unfold readS at h
  split at h
  · rename_i g
    obtain ⟨h1, h2, h3⟩ := g
    split at h
    · rename_i g
      simp only [Option.some.injEq, Prod.mk.injEq] at h
      obtain ⟨rfl, rfl, rfl⟩ := h
      refine ⟨g, ?_⟩
      obtain ⟨q, hq⟩ := (suffix_iff _ _).1 h3
      have g1 := cutL_join _ _ h1
      have g2 := cutL_join _ _ h2
      rw [hq, trim_append, ← hq, ← g2, ← g1]
    · simp at h
  · simp at h
theorem readT_len {l s p o : List UInt8} (h : readT l = some (s, p, o)) : s.length ≤ l.length ∧ p.length ≤ l.length ∧ o.length ≤ l.length := by
  have := (readT_some h).2
  rw [this]; simp; omega
end Go.Proofs.Ytcchbhjppbbdpaa
