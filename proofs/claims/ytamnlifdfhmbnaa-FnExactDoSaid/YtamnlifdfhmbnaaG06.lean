/- The contracts of the model's functions on texts. -/
import Derived.Test.YtamnlifdfhmbnaaG05
import Derived.Deep.RegionHeld3
namespace Go.Proofs.Ytamnlifdfhmbnaa
open Go.RowKit
theorem text_cases (c : UInt8) : (textB c = true ∧ ((c.toNat : Int) != 10) = false) ∨ (textB c = true ∧ ((c.toNat : Int) != 10) = true ∧ 32 ≤ (c.toNat : Int) ∧ (c.toNat : Int) ≤ 126) ∨
    (textB c = false ∧ ((c.toNat : Int) != 10) = true ∧ (c.toNat : Int) < 32) ∨ (textB c = false ∧ ((c.toNat : Int) != 10) = true ∧ 126 < (c.toNat : Int)) := by
  unfold textB
  simp only [Bool.or_eq_true, Bool.and_eq_true, decide_eq_true_eq, Bool.or_eq_false_iff, Bool.and_eq_false_iff, decide_eq_false_iff_not, bne_iff_ne, bne_eq_false_iff_eq, beq_iff_eq, beq_eq_false_iff_ne]
  omega
theorem textOk_of {r t : List UInt8} (h : unesc r = some t) : textOk r = (decide (t.length ≤ 12) && t.all textB) := by
  unfold textOk made
  rw [h]
  cases t with
  | nil => rfl
  | cons c q => simp
end Go.Proofs.Ytamnlifdfhmbnaa
/- The contract of the model's KindOf. -/
namespace Go.Proofs.Ytamnlifdfhmbnaa
open Go.RowKit
theorem made_name (m : List UInt8) : made m 12 (othB [58, 47, 35]) = made m 12 nameB := by
  unfold made
  congr 2
  funext c
  have h1 := u8_int c 58; have h2 := u8_int c 47; have h3 := u8_int c 35
  unfold othB nameB
  rw [Bool.eq_iff_iff]
  simp only [Bool.or_eq_true, List.contains_cons, List.contains_nil, Bool.or_false, beq_iff_eq] at *
  rw [← h1, ← h2, ← h3]
  simp [or_assoc]
theorem made_lab (m : List UInt8) (k : Nat) : made m k (othB []) = made m k labB := by
  unfold made
  congr 2
  funext c
  unfold othB
  simp
/-- The answer by the first byte, for a word of two bytes or more that is no text. -/
theorem kind_of (s : ByteArray) (h : 2 ≤ s.size) (hn : kindL s.data.toList ≠ 2) : kindL s.data.toList = if s[0] = 60 then (if s[s.size - 1] = 62 then (if made (s.extract 1 (s.size - 1)).data.toList 12 nameB then 1 else 0) else 0) else
    if s[0] = 95 then (if s[1] = 58 then (if made (s.extract 2 s.size).data.toList 6 labB then 3 else 0) else 0) else if s[0] = 63 then (if made (s.extract 1 s.size).data.toList 6 labB then 4 else 0) else 0 := by
  have h0 := drop_cons s 0 (by omega)
  rw [List.drop_zero] at h0
  have h1 := drop_cons s 1 (by omega)
  have he := ends s h
  have e1 : (s.extract 1 s.size).data.toList = s.data.toList.drop 1 := by rw [ext_toList, take_all _ _ (Nat.le_refl _)]
  have e2 : (s.extract 2 s.size).data.toList = s.data.toList.drop 2 := by rw [ext_toList, take_all _ _ (Nat.le_refl _)]
  have e3 : s.data.toList.drop 1 = (s.extract 1 (s.size - 1)).data.toList ++ [s[s.size - 1]] := by
    have := congrArg (List.drop 1) he; simpa using this
  have g1 : (s.data.toList.drop 1).getLast? = some s[s.size - 1] := by rw [e3, List.getLast?_concat]
  have g2 : (s.data.toList.drop 1).dropLast = (s.extract 1 (s.size - 1)).data.toList := by rw [e3, List.dropLast_concat]
  have g3 : (s.data.toList.drop 1).head? = some s[1] := by rw [h1]; rfl
  have g4 : (s.data.toList.drop 1).drop 1 = s.data.toList.drop 2 := by rw [List.drop_drop]
  have hk : kindL s.data.toList = kindL (s[0] :: s.data.toList.drop 1) := by rw [← h0]
  rw [hk] at hn ⊢
  rw [kindL_cons, g1, g2, g3, g4] at hn ⊢
  rw [e1, e2]
  simp only [Option.some.injEq] at hn ⊢
  by_cases q : s[0] = 34
  · rw [if_neg (by rw [q]; decide), if_pos q] at hn
    have n1 : ¬ s[0] = 60 := by rw [q]; decide
    have n2 : ¬ s[0] = 95 := by rw [q]; decide
    have n3 : ¬ s[0] = 63 := by rw [q]; decide
    rw [if_neg n1, if_pos q, if_neg n1, if_neg n2, if_neg n3]
    by_cases q1 : s[s.size - 1] = 34
    · rw [if_pos q1] at hn ⊢
      cases q2 : textOk (s.extract 1 (s.size - 1)).data.toList
      · simp
      · rw [q2] at hn; simp at hn
    · rw [if_neg q1]
  · simp only [if_neg q]
theorem pre_two (s : ByteArray) (h : 2 ≤ s.size) : (s.extract 0 2).toList = [s[0], s[1]] := by
  have h0 := drop_cons s 0 (by omega)
  have h1 := drop_cons s 1 (by omega)
  rw [List.drop_zero] at h0
  rw [ByteArray.toList_eq, ext_toList, h0, h1]
  rfl
theorem kind_small (s : ByteArray) (h : s.size < 2) (_hn : kindL s.data.toList ≠ 2) : kindL s.data.toList = 0 := by
  rcases hl : s.data.toList with _ | ⟨x, r⟩
  · rfl
  · have : r = [] := by have := size_len s; rw [hl, List.length_cons] at this; exact List.length_eq_zero_iff.1 (by omega)
    subst this
    rw [kindL_cons]; simp [made_nil]
theorem pair_ne (a b : UInt8) (h : ¬ (a = 95 ∧ b = 58)) : ([a, b] == [95, 58]) = false := by
  rw [beq_eq_false_iff_ne]
  intro e
  simp only [List.cons.injEq, and_true] at e
  exact h e
theorem u8_ne {c d : UInt8} (h : ¬ c = d) : ((c.toNat : Int) == (d.toNat : Int)) = false := by
  rw [beq_eq_false_iff_ne]
  intro e
  exact h ((u8_int c d).1 (by rw [beq_iff_eq]; exact e))
theorem u8_yes {c d : UInt8} (h : c = d) : ((c.toNat : Int) == (d.toNat : Int)) = true := (u8_int c d).2 h
end Go.Proofs.Ytamnlifdfhmbnaa
/- The contracts of the functions on triples: which are right. -/
namespace Go.Proofs.Ytamnlifdfhmbnaa
open Go.RowKit
def triOk (s p o : List UInt8) : Bool := (decide (kindL s = 1) || decide (kindL s = 3)) && decide (kindL p = 1) && (decide (kindL o = 1) || decide (kindL o = 2) || decide (kindL o = 3))
theorem kindL_le (l : List UInt8) : kindL l ≤ 4 := by
  unfold kindL
  split
  · rename_i k r h
    have := shape_len h
    split <;> omega
  · omega
end Go.Proofs.Ytamnlifdfhmbnaa
