/- The contracts of the program's functions on kinds: KindOf and TextIn. -/
import Derived.Test.YtamnlifdfhmbnaaG04
import Derived.Deep.QuietTactic
import Derived.BigQuiet
import Derived.WalkSmall
namespace Go.Proofs.Ytamnlifdfhmbnaa
open Go.RowKit
end Go.Proofs.Ytamnlifdfhmbnaa
/- What kind a word is, told by its first byte. -/
namespace Go.Proofs.Ytamnlifdfhmbnaa
theorem has_first (x a : UInt8) (r : List UInt8) : Lib.hasPrefix (x :: r) [a] = decide (x = a) := by
  unfold Lib.hasPrefix
  rw [Bool.eq_iff_iff]
  simp [List.isPrefixOf]
  exact eq_comm
theorem has_last (r : List UInt8) (b : UInt8) : Lib.hasSuffix r [b] = decide (r.getLast? = some b) := by
  unfold Lib.hasSuffix
  rw [Bool.eq_iff_iff, List.isSuffixOf_iff_suffix, decide_eq_true_eq]
  constructor
  · rintro ⟨t, rfl⟩
    simp
  · intro h
    obtain ⟨t, rfl⟩ := List.getLast?_eq_some_iff.1 h
    exact ⟨t, rfl⟩
theorem inner_cons (x : UInt8) (r : List UInt8) (a b : UInt8) : inner (x :: r) a b = if x = a ∧ r.getLast? = some b then some r.dropLast else none := by
  unfold inner
  rw [has_first]
  by_cases h : x = a
  · have e : Lib.trimPrefix (x :: r) [a] = r := by unfold Lib.trimPrefix; rw [has_first, decide_eq_true h]; rfl
    rw [e, has_last]
    by_cases g : r.getLast? = some b
    · have e2 : Lib.trimSuffix r [b] = r.dropLast := by unfold Lib.trimSuffix; rw [has_last, decide_eq_true g, List.dropLast_eq_take]; rfl
      rw [e2]; simp [h, g]
    · simp [h, g]
  · simp [h]
theorem shape_cons (x : UInt8) (r : List UInt8) : shape (x :: r) = if x = 60 then (if r.getLast? = some 62 then some (1, r.dropLast) else none) else
    if x = 34 then (if r.getLast? = some 34 then some (2, r.dropLast) else none) else
    if x = 95 then (if r.head? = some 58 then some (3, r.drop 1) else none) else if x = 63 then some (4, r) else none := by
  unfold shape
  rw [inner_cons, inner_cons, has_first]
  have hp : Lib.hasPrefix (x :: r) [95, 58] = decide (x = 95 ∧ r.head? = some 58) := by
    unfold Lib.hasPrefix
    rw [Bool.eq_iff_iff]
    cases r with
    | nil => simp [List.isPrefixOf]
    | cons y q => simp [List.isPrefixOf]; constructor <;> (rintro ⟨h1, h2⟩; exact ⟨h1.symm, h2.symm⟩)
  rw [hp]
  by_cases h1 : x = 60
  · subst h1
    by_cases g : r.getLast? = some 62 <;> simp [g]
  by_cases h2 : x = 34
  · subst h2
    by_cases g : r.getLast? = some 34 <;> simp [g]
  by_cases h3 : x = 95
  · subst h3
    by_cases g : r.head? = some 58 <;> simp [g]
  by_cases h4 : x = 63
  · subst h4
    simp
  · simp [h1, h2, h3, h4]
theorem shape_nil : shape [] = none := by rfl
theorem textOk_some {r : List UInt8} (h : textOk r = true) : (unesc r).isSome = true := by
  unfold textOk at h
  split at h
  · rename_i t ht; rw [ht]; rfl
  · simp at h
theorem textIn_kind (l : List UInt8) : (textIn l).isSome = decide (kindL l = 2) := by
  unfold textIn kindL
  split
  · rename_i k r h
    by_cases hk : k = 2
    · subst hk
      have e : kindOk 2 r = textOk r := rfl
      cases ho : textOk r
      · simp [e, ho]
      · simp [e, ho, textOk_some ho]
    · simp only [hk, decide_false, Bool.false_and, Bool.false_eq_true, if_false, Option.isSome_none]
      symm
      rw [decide_eq_false_iff_not]
      split
      · exact hk
      · simp
  · simp
theorem kindL_cons (x : UInt8) (r : List UInt8) : kindL (x :: r) = if x = 60 then (if r.getLast? = some 62 then (if made r.dropLast 12 nameB then 1 else 0) else 0) else
    if x = 34 then (if r.getLast? = some 34 then (if textOk r.dropLast then 2 else 0) else 0) else
    if x = 95 then (if r.head? = some 58 then (if made (r.drop 1) 6 labB then 3 else 0) else 0) else if x = 63 then (if made r 6 labB then 4 else 0) else 0 := by
  unfold kindL
  rw [shape_cons]
  by_cases h1 : x = 60
  · subst h1
    by_cases g : r.getLast? = some 62 <;> simp [g, kindOk]
  by_cases h2 : x = 34
  · subst h2
    by_cases g : r.getLast? = some 34 <;> simp [g, kindOk]
  by_cases h3 : x = 95
  · subst h3
    by_cases g : r.head? = some 58 <;> simp [g, kindOk]
  by_cases h4 : x = 63
  · subst h4
    simp [kindOk]
  · simp [h1, h2, h3, h4]
theorem made_nil (m : Nat) (p : UInt8 → Bool) : made [] m p = false := rfl
theorem textIn_cons (x : UInt8) (r : List UInt8) : textIn (x :: r) = if x = 34 ∧ r.getLast? = some 34 then (if textOk r.dropLast then unesc r.dropLast else none) else none := by
  unfold textIn
  rw [shape_cons]
  by_cases h1 : x = 60
  · subst h1
    by_cases g : r.getLast? = some 62 <;> simp [g]
  by_cases h2 : x = 34
  · subst h2
    by_cases g : r.getLast? = some 34 <;> simp [g]
  by_cases h3 : x = 95
  · subst h3
    by_cases g : r.head? = some 58 <;> simp [g]
  by_cases h4 : x = 63
  · subst h4
    simp
  · simp [h1, h2, h3, h4]
/-- A text of two bytes or more: its first, what stands between, its last. -/
theorem ends (s : ByteArray) (h : 2 ≤ s.size) : s.data.toList = s[0] :: ((s.extract 1 (s.size - 1)).data.toList ++ [s[s.size - 1]]) := by
  have h0 := drop_cons s 0 (by omega)
  rw [List.drop_zero] at h0
  rw [h0, ext_toList]
  congr 1
  have h1 := take_snoc s (s.size - 1) (by omega)
  rw [show s.size - 1 + 1 = s.size from by omega, take_all s s.size (Nat.le_refl _)] at h1
  rw [h1, List.drop_append_of_le_length (by rw [List.length_take, size_len]; omega)]
  congr 1
  rw [List.take_append_of_le_length (by rw [List.length_take, size_len]; omega), List.take_take, Nat.min_self]
end Go.Proofs.Ytamnlifdfhmbnaa
/- The contracts of the model's functions on kinds. -/
namespace Go.Proofs.Ytamnlifdfhmbnaa
open Go.RowKit
def othB (o : List UInt8) (c : UInt8) : Bool := labB c || o.contains c
theorem lab_cases (c : UInt8) : (labB c = true ∧ 97 ≤ (c.toNat : Int) ∧ (c.toNat : Int) ≤ 122) ∨ (labB c = true ∧ (c.toNat : Int) < 97 ∧ 48 ≤ (c.toNat : Int) ∧ (c.toNat : Int) ≤ 57) ∨
    (labB c = false ∧ (c.toNat : Int) < 97 ∧ (c.toNat : Int) < 48) ∨ (labB c = false ∧ 122 < (c.toNat : Int)) ∨ (labB c = false ∧ (c.toNat : Int) < 97 ∧ 57 < (c.toNat : Int)) := by
  unfold labB
  simp only [Bool.or_eq_true, Bool.and_eq_true, decide_eq_true_eq, Bool.or_eq_false_iff, Bool.and_eq_false_iff, decide_eq_false_iff_not]
  omega
theorem contains_snoc (o : ByteArray) (j : Nat) (h : j < o.size) (c : UInt8) : (o.data.toList.take (j + 1)).contains c = ((o.data.toList.take j).contains c || ((c.toNat : Int) == (o[j].toNat : Int))) := by
  rw [take_snoc o j h, Bool.eq_iff_iff]
  have := u8_int c o[j]
  simp at *
  rw [this]
end Go.Proofs.Ytamnlifdfhmbnaa
