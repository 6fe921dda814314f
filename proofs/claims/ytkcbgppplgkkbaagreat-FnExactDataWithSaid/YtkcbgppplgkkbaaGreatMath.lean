/- Plain functions on lists of bytes that the program's text functions compute; no program is named here. -/
import Derived.WalkKit
namespace Go.Proofs.YtkcbgppplgkkbaaGreat

/-- The bytes of a list as a string's bytes. -/
def bs (l : List UInt8) : ByteArray := ⟨l.toArray⟩
theorem bs_toList (l : List UInt8) : (bs l).data.toList = l := rfl
theorem bs_size (l : List UInt8) : (bs l).size = l.length := rfl
theorem bs_list (l : List UInt8) : (bs l).toList = l := ByteArray.toList_mk l
theorem bs_of (s : ByteArray) : bs s.data.toList = s := by cases s; rfl
theorem bs_eq {s : ByteArray} {l : List UInt8} (h : s.data.toList = l) : s = bs l := by subst h; exact (bs_of s).symm
theorem app_toList (a b : ByteArray) : (a ++ b).data.toList = a.data.toList ++ b.data.toList := by simp [ByteArray.data_append]
theorem ext_toList (s : ByteArray) (i j : Nat) : (s.extract i j).data.toList = (s.data.toList.take j).drop i := by
  simp [ByteArray.data_extract, List.extract_eq_take_drop, List.drop_take]

theorem size_len (s : ByteArray) : s.data.toList.length = s.size := rfl
theorem lit_size (a : Array UInt8) : (ByteArray.mk a).size = a.size := rfl
theorem ext_one (s : ByteArray) (k : Nat) (h : k < s.size) : (s.extract k (k + 1)).data.toList = [s[k]] := by
  rw [ext_toList, List.take_succ_eq_append_getElem (by simpa using h), List.drop_append_of_le_length (by simp only [List.length_take, size_len]; omega)]
  simp; rfl
def escB (c : UInt8) : List UInt8 := if c = 34 then [92, 34] else if c = 92 then [92, 92] else if c = 10 then [92, 110] else [c]
def esc (l : List UInt8) : List UInt8 := l.flatMap escB
theorem esc_snoc (l : List UInt8) (c : UInt8) : esc (l ++ [c]) = esc l ++ escB c := by simp [esc]
theorem escB_len (c : UInt8) : 1 ≤ (escB c).length ∧ (escB c).length ≤ 2 := by
  unfold escB; split <;> (try split) <;> (try split) <;> simp
theorem esc_len (l : List UInt8) : l.length ≤ (esc l).length ∧ (esc l).length ≤ 2 * l.length := by
  induction l with
  | nil => simp [esc]
  | cons c l ih => have := escB_len c; simp only [esc, List.flatMap_cons, List.length_append, List.length_cons] at *; omega
theorem take_snoc (s : ByteArray) (k : Nat) (h : k < s.size) : s.data.toList.take (k + 1) = s.data.toList.take k ++ [s[k]] := by
  rw [List.take_succ_eq_append_getElem (by simpa using h)]; rfl
theorem drop_cons (s : ByteArray) (k : Nat) (h : k < s.size) : s.data.toList.drop k = s[k] :: s.data.toList.drop (k + 1) := by
  rw [List.drop_eq_getElem_cons (by simpa using h)]; rfl
theorem drop_all (s : ByteArray) (k : Nat) (h : s.size ≤ k) : s.data.toList.drop k = [] := List.drop_of_length_le (by simpa using h)
theorem take_all (s : ByteArray) (k : Nat) (h : s.size ≤ k) : s.data.toList.take k = s.data.toList := List.take_of_length_le (by simpa using h)
theorem u8_int (c d : UInt8) : (((c.toNat : Int) == (d.toNat : Int)) = true) ↔ c = d := by
  rw [beq_iff_eq]; constructor
  · intro h; exact UInt8.toNat.inj (by omega)
  · intro h; rw [h]
theorem escB_b (c : UInt8) : escB c = if ((c.toNat : Int) == 34) = true then [92, 34] else if ((c.toNat : Int) == 92) = true then [92, 92] else if ((c.toNat : Int) == 10) = true then [92, 110] else [c] := by
  have h1 := u8_int c 34; have h2 := u8_int c 92; have h3 := u8_int c 10
  unfold escB
  simp only [← h1, ← h2, ← h3]; rfl
def unesc : List UInt8 → Option (List UInt8)
  | [] => some []
  | c :: r =>
    if ((c.toNat : Int) == 34) = true then none else if ((c.toNat : Int) == 10) = true then none else
    if ((c.toNat : Int) == 92) = false then (unesc r).map (c :: ·) else
    match r with
    | [] => none
    | d :: r' =>
      if ((d.toNat : Int) == 34) = true then (unesc r').map (d :: ·) else if ((d.toNat : Int) == 92) = true then (unesc r').map (d :: ·) else
      if ((d.toNat : Int) == 110) = true then (unesc r').map (10 :: ·) else none
theorem unesc_len : ∀ (l m : List UInt8), unesc l = some m → m.length ≤ l.length
  | [], m, h => by simp only [unesc, Option.some.injEq] at h; subst h; simp
  | [c], m, h => by
    simp only [unesc] at h
    split at h <;> (try simp at h) <;> (try split at h) <;> (try simp at h) <;> (try split at h) <;> (try simp at h)
    obtain ⟨_, _, rfl⟩ := h; simp
  | c :: d :: r, m, h => by
    have i1 := unesc_len (d :: r); have i2 := unesc_len r
    rw [unesc] at h
    split at h; · simp at h
    split at h; · simp at h
    split at h
    · rw [Option.map_eq_some_iff] at h; obtain ⟨a, ha, rfl⟩ := h; have := i1 a ha; simp at *; omega
    · split at h
      · rw [Option.map_eq_some_iff] at h; obtain ⟨a, ha, rfl⟩ := h; have := i2 a ha; simp at *; omega
      split at h
      · rw [Option.map_eq_some_iff] at h; obtain ⟨a, ha, rfl⟩ := h; have := i2 a ha; simp at *; omega
      split at h
      · rw [Option.map_eq_some_iff] at h; obtain ⟨a, ha, rfl⟩ := h; have := i2 a ha; simp at *; omega
      · simp at h
theorem test3 (c : UInt8) : (((c.toNat : Int) == 34) = true ∧ escB c = [92, 34]) ∨ (((c.toNat : Int) == 34) = false ∧ ((c.toNat : Int) == 92) = true ∧ escB c = [92, 92]) ∨
    (((c.toNat : Int) == 34) = false ∧ ((c.toNat : Int) == 92) = false ∧ ((c.toNat : Int) == 10) = true ∧ escB c = [92, 110]) ∨
    (((c.toNat : Int) == 34) = false ∧ ((c.toNat : Int) == 92) = false ∧ ((c.toNat : Int) == 10) = false ∧ escB c = [c]) := by
  rw [escB_b]
  cases h1 : ((c.toNat : Int) == 34) <;> cases h2 : ((c.toNat : Int) == 92) <;> cases h3 : ((c.toNat : Int) == 10) <;> simp
theorem two_cells (c : UInt8) (h : ((c.toNat : Int) == 34) = true ∨ ((c.toNat : Int) == 92) = true) : [92, c] = escB c := by
  rw [escB_b]
  rcases h with h | h
  · rw [if_pos h, (u8_int c 34).1 h]
  · rw [if_neg, if_pos h, (u8_int c 92).1 h]
    rw [beq_iff_eq] at h; rw [beq_iff_eq]; omega
end Go.Proofs.YtkcbgppplgkkbaaGreat
