/- A right triple comes back from its text: plain facts on lists of bytes. -/
import Derived.Test.YtinmjbgljgljkaaReadM
namespace Go.Proofs.Ytinmjbgljgljkaa
theorem made_all {l : List UInt8} {m : Nat} {p : UInt8 → Bool} (h : made l m p = true) : ∀ c ∈ l, p c = true := by
  unfold made at h
  simp only [Bool.and_eq_true, List.all_eq_true] at h
  exact h.2
theorem no_space {l : List UInt8} (h : kindL l = 1 ∨ kindL l = 3) : (32 : UInt8) ∉ l := by
  cases l with
  | nil => simp
  | cons x r =>
    rw [kindL_cons] at h
    by_cases h1 : x = 60
    · rw [if_pos h1] at h
      by_cases g : r.getLast? = some 62
      · rw [if_pos g] at h
        cases hm : made r.dropLast 12 nameB
        · rw [hm] at h; simp at h
        · obtain ⟨q, hq⟩ := List.getLast?_eq_some_iff.1 g
          rw [hq, List.dropLast_concat] at hm
          rw [h1, hq]
          intro hc
          simp only [List.mem_cons, List.mem_append, List.not_mem_nil, or_false] at hc
          rcases hc with hc | hc | hc
          · exact absurd hc (by decide)
          · exact absurd (made_all hm _ hc) (by decide)
          · exact absurd hc (by decide)
      · rw [if_neg g] at h; simp at h
    rw [if_neg h1] at h
    by_cases h2 : x = 34
    · rw [if_pos h2] at h
      split at h <;> (try split at h) <;> simp at h
    rw [if_neg h2] at h
    by_cases h3 : x = 95
    · rw [if_pos h3] at h
      by_cases g : r.head? = some 58
      · rw [if_pos g] at h
        cases hm : made (r.drop 1) 6 labB
        · rw [hm] at h; simp at h
        · cases r with
          | nil => simp at g
          | cons y q =>
            simp only [List.head?_cons, Option.some.injEq] at g
            rw [h3, g]
            intro hc
            simp only [List.mem_cons] at hc
            rcases hc with hc | hc | hc
            · exact absurd hc (by decide)
            · exact absurd hc (by decide)
            · exact absurd (made_all hm _ (by simpa using hc)) (by decide)
      · rw [if_neg g] at h; simp at h
    rw [if_neg h3] at h
    split at h <;> (try split at h) <;> simp at h
theorem cutL_free (c : UInt8) (r : List UInt8) : ∀ s : List UInt8, c ∉ s → cutL (s ++ c :: r) c = (s, r, true)
  | [], _ => by rw [List.nil_append, cutL_yes]
  | x :: q, h => by
    simp only [List.mem_cons, not_or] at h
    rw [List.cons_append, cutL_no _ (fun e => h.1 e.symm), cutL_free c r q h.2]
theorem triOk_parts {s p o : List UInt8} (h : triOk s p o = true) : (kindL s = 1 ∨ kindL s = 3) ∧ kindL p = 1 ∧ (kindL o = 1 ∨ kindL o = 2 ∨ kindL o = 3) := by
  unfold triOk at h
  simp only [Bool.and_eq_true, Bool.or_eq_true, decide_eq_true_eq] at h
  obtain ⟨⟨h1, h2⟩, h3⟩ := h
  exact ⟨h1, h2, by rcases h3 with (h3 | h3) | h3 <;> simp [h3]⟩
theorem readT_text {s p o : List UInt8} (h : triOk s p o = true) : readT (s ++ 32 :: (p ++ 32 :: (o ++ [32, 46]))) = some (s, p, o) := by
  obtain ⟨h1, h2, _⟩ := triOk_parts h
  have e : s ++ 32 :: (p ++ 32 :: (o ++ [32, 46])) = (s ++ 32 :: (p ++ 32 :: o)) ++ [32, 46] := by simp
  unfold readT
  rw [e, if_pos ((suffix_iff _ _).2 ⟨_, rfl⟩), trim_append, cutL_free _ _ _ (no_space h1)]
  simp only
  rw [cutL_free _ _ _ (no_space (.inl h2))]
  simp only [h, if_true]
theorem readT_triText (s p o : List UInt8) : readT (triText s p o) = if triOk s p o = true then some (s, p, o) else none := by
  unfold triText
  cases h : triOk s p o
  · rfl
  · simp only [if_true]
    exact readT_text h
theorem triText_readT {l s p o : List UInt8} (h : readT l = some (s, p, o)) : triText s p o = l := by
  obtain ⟨h1, h2⟩ := readT_some h
  unfold triText
  rw [h1, if_pos rfl, ← h2]
end Go.Proofs.Ytinmjbgljgljkaa
