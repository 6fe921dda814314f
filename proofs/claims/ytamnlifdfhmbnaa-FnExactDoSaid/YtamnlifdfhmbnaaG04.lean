/- What kind a word is: plain functions on lists of bytes. -/
import Derived.Test.YtamnlifdfhmbnaaG03
import Derived.Lib.Strings
namespace Go.Proofs.Ytamnlifdfhmbnaa
def labB (c : UInt8) : Bool := (decide (97 ≤ (c.toNat : Int)) && decide ((c.toNat : Int) ≤ 122)) || (decide (48 ≤ (c.toNat : Int)) && decide ((c.toNat : Int) ≤ 57))
def nameB (c : UInt8) : Bool := labB c || ((c.toNat : Int) == 58) || ((c.toNat : Int) == 47) || ((c.toNat : Int) == 35)
def textB (c : UInt8) : Bool := (decide (32 ≤ (c.toNat : Int)) && decide ((c.toNat : Int) ≤ 126)) || ((c.toNat : Int) == 10)
def made (l : List UInt8) (most : Nat) (p : UInt8 → Bool) : Bool := decide (1 ≤ l.length) && decide (l.length ≤ most) && l.all p
/-- What stands between the two marks. -/
def inner (l : List UInt8) (a b : UInt8) : Option (List UInt8) :=
  if Lib.hasPrefix l [a] && Lib.hasSuffix (Lib.trimPrefix l [a]) [b] then some (Lib.trimSuffix (Lib.trimPrefix l [a]) [b]) else none
/-- Which mark a word has, and what stands behind it. -/
def shape (l : List UInt8) : Option (Nat × List UInt8) :=
  match inner l 60 62 with
  | some r => some (1, r)
  | none => match inner l 34 34 with
    | some r => some (2, r)
    | none => if Lib.hasPrefix l [95, 58] then some (3, l.drop 2) else if Lib.hasPrefix l [63] then some (4, l.drop 1) else none
def textOk (r : List UInt8) : Bool := match unesc r with
  | some t => t.isEmpty || made t 12 textB
  | none => false
def kindOk (k : Nat) (r : List UInt8) : Bool := if k = 1 then made r 12 nameB else if k = 2 then textOk r else made r 6 labB
def kindL (l : List UInt8) : Nat := match shape l with
  | some (k, r) => if kindOk k r then k else 0
  | none => 0
def textIn (l : List UInt8) : Option (List UInt8) := match shape l with
  | some (k, r) => if k = 2 && textOk r then unesc r else none
  | none => none
theorem shape_len {l : List UInt8} {k : Nat} {r : List UInt8} (h : shape l = some (k, r)) : r.length ≤ l.length ∧ 1 ≤ k ∧ k ≤ 4 := by
  have hi : ∀ a b q, inner l a b = some q → q.length ≤ l.length := by
    intro a b q hq
    unfold inner at hq
    split at hq
    · simp only [Option.some.injEq] at hq
      subst hq
      unfold Lib.trimSuffix Lib.trimPrefix
      split <;> (try split) <;> simp <;> omega
    · simp at hq
  unfold shape at h
  split at h
  · rename_i q hq; simp only [Option.some.injEq, Prod.mk.injEq] at h; obtain ⟨rfl, rfl⟩ := h; exact ⟨hi _ _ _ hq, by omega, by omega⟩
  · split at h
    · rename_i q hq; simp only [Option.some.injEq, Prod.mk.injEq] at h; obtain ⟨rfl, rfl⟩ := h; exact ⟨hi _ _ _ hq, by omega, by omega⟩
    · split at h
      · simp only [Option.some.injEq, Prod.mk.injEq] at h; obtain ⟨rfl, rfl⟩ := h; simp
      · split at h
        · simp only [Option.some.injEq, Prod.mk.injEq] at h; obtain ⟨rfl, rfl⟩ := h; simp
        · simp at h
end Go.Proofs.Ytamnlifdfhmbnaa
/- The contracts of the program's functions on kinds. -/
namespace Go.Proofs.Ytamnlifdfhmbnaa
open Go.RowKit
end Go.Proofs.Ytamnlifdfhmbnaa
/- The contracts of the program's functions on kinds: what a word is, and what a text has in it. -/
namespace Go.Proofs.Ytamnlifdfhmbnaa
open Go.RowKit
end Go.Proofs.Ytamnlifdfhmbnaa
