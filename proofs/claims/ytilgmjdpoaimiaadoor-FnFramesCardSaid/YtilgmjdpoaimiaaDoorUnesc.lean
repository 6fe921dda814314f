/- The contracts of the functions that take the escapes away again. -/
import Derived.Test.YtilgmjdpoaimiaaDoorBase
namespace Go.Proofs.YtilgmjdpoaimiaaDoor
open Go.RowKit
theorem unesc_quote {c : UInt8} {r : List UInt8} (h : ((c.toNat : Int) == 34) = true) : unesc (c :: r) = none := by rw [unesc.eq_def]; simp only [h, if_true]
theorem unesc_line {c : UInt8} {r : List UInt8} (h : ((c.toNat : Int) == 10) = true) : unesc (c :: r) = none := by rw [unesc.eq_def]; simp only [h, if_true, ite_self]
theorem unesc_plain {c : UInt8} {r : List UInt8} (h1 : ((c.toNat : Int) == 34) = false) (h2 : ((c.toNat : Int) == 10) = false) (h3 : ((c.toNat : Int) == 92) = false) : unesc (c :: r) = (unesc r).map (c :: ·) := by
  rw [unesc.eq_def]; simp only [h1, h2, h3]; simp
theorem unesc_end {c : UInt8} (h3 : ((c.toNat : Int) == 92) = true) : unesc [c] = none := by
  rw [(u8_int c 92).1 h3]; rfl
theorem unesc_two {c d : UInt8} {r : List UInt8} (h3 : ((c.toNat : Int) == 92) = true) : unesc (c :: d :: r) =
    if ((d.toNat : Int) == 34) = true then (unesc r).map (d :: ·) else if ((d.toNat : Int) == 92) = true then (unesc r).map (d :: ·) else
      if ((d.toNat : Int) == 110) = true then (unesc r).map (10 :: ·) else none := by
  rw [(u8_int c 92).1 h3, unesc]; rfl
theorem esc_append (a b : List UInt8) : esc (a ++ b) = esc a ++ esc b := by simp [esc]
theorem esc_cut (l : List UInt8) (k : Nat) : esc (l.take k) ++ esc (l.drop k) = esc l := by rw [← esc_append, List.take_append_drop]
theorem unesc_esc : ∀ l : List UInt8, unesc (esc l) = some l
  | [] => rfl
  | c :: r => by
    have ih := unesc_esc r
    have e : esc (c :: r) = escB c ++ esc r := by simp [esc]
    rw [e]
    rcases test3 c with ⟨h1, he⟩ | ⟨h1, h2, he⟩ | ⟨h1, h2, h3, he⟩ | ⟨h1, h2, h3, he⟩
    · rw [he, (u8_int c 34).1 h1]
      show unesc (92 :: 34 :: esc r) = _
      rw [unesc_two (by rfl), ih]; rfl
    · rw [he, (u8_int c 92).1 h2]
      show unesc (92 :: 92 :: esc r) = _
      rw [unesc_two (by rfl), ih]; rfl
    · rw [he, (u8_int c 10).1 h3]
      show unesc (92 :: 110 :: esc r) = _
      rw [unesc_two (by rfl), ih]; rfl
    · rw [he]
      show unesc (c :: esc r) = _
      rw [unesc_plain h1 h3 h2, ih]; rfl
theorem esc_unesc : ∀ (u x : List UInt8), unesc u = some x → esc x = u
  | [], x, h => by
    simp only [unesc, Option.some.injEq] at h; subst h; rfl
  | [c], x, h => by
    cases h1 : ((c.toNat : Int) == 34)
    rotate_left
    · rw [unesc_quote h1] at h; simp at h
    cases h2 : ((c.toNat : Int) == 10)
    rotate_left
    · rw [unesc_line h2] at h; simp at h
    cases h3 : ((c.toNat : Int) == 92)
    rotate_left
    · rw [unesc_end h3] at h; simp at h
    rw [unesc_plain h1 h2 h3] at h
    simp only [unesc, Option.map_some, Option.some.injEq] at h
    subst h
    simp [esc, escB_b, h1, h2, h3]
  | c :: d :: r, x, h => by
    have i1 := esc_unesc (d :: r); have i2 := esc_unesc r
    cases h1 : ((c.toNat : Int) == 34)
    rotate_left
    · rw [unesc_quote h1] at h; simp at h
    cases h2 : ((c.toNat : Int) == 10)
    rotate_left
    · rw [unesc_line h2] at h; simp at h
    cases h3 : ((c.toNat : Int) == 92)
    · rw [unesc_plain h1 h2 h3, Option.map_eq_some_iff] at h
      obtain ⟨a, ha, rfl⟩ := h
      have := i1 a ha
      have e : esc (c :: a) = escB c ++ esc a := by simp [esc]
      rw [e, this, escB_b]; simp [h1, h2, h3]
    · have hc := (u8_int c 92).1 h3
      subst hc
      rw [unesc_two h3] at h
      have e : ∀ q a, esc (q :: a) = escB q ++ esc a := fun q a => by simp [esc]
      split at h
      · rename_i g
        rw [Option.map_eq_some_iff] at h
        obtain ⟨a, ha, rfl⟩ := h
        rw [e, i2 a ha, (u8_int d 34).1 g]; rfl
      split at h
      · rename_i g
        rw [Option.map_eq_some_iff] at h
        obtain ⟨a, ha, rfl⟩ := h
        rw [e, i2 a ha, (u8_int d 92).1 g]; rfl
      split at h
      · rename_i g
        rw [Option.map_eq_some_iff] at h
        obtain ⟨a, ha, rfl⟩ := h
        rw [e, i2 a ha, (u8_int d 110).1 g]; rfl
      · simp at h
end Go.Proofs.YtilgmjdpoaimiaaDoor
