/- The exact laws' own marks: their texts, and a slice of triples that is marked and looked at again. -/
import Derived.Test.YthnpchcfjkepaaaG08
import Derived.Deep.RegionHeld3
namespace Go.Proofs.Ythnpchcfjkepaaa
open Go.RowKit Go.WideShapes
theorem graphOk_le {ts : List Tri3} (h : graphOk ts = true) : ts.length ≤ 80 := by
  unfold graphOk at h
  simp only [Bool.and_eq_true, decide_eq_true_eq] at h
  exact h.1
def dig (n : Nat) : List UInt8 := if _h : n = 0 then [] else dig (n / 10) ++ [UInt8.ofNat (48 + n % 10)]
termination_by n
decreasing_by omega
theorem dig_zero : dig 0 = [] := by unfold dig; simp
theorem dig_step {n : Nat} (h : 0 < n) : dig n = dig (n / 10) ++ [UInt8.ofNat (48 + n % 10)] := by
  conv => lhs; unfold dig
  rw [dif_neg (by omega)]
def mark (n : Nat) : ByteArray := bs (109 :: dig n)
theorem mark_text (o : ByteArray) : { data := #[109] } ++ o = bs (109 :: o.data.toList) := by
  apply bs_eq
  simp
def markT (i : Nat) : Tri3 := (mark (1 + 3 * i), mark (1 + 3 * i + 1), mark (1 + 3 * i + 2))
def marksT (n : Nat) : List Tri3 := (List.range n).map markT
theorem marksT_succ (n : Nat) : marksT (n + 1) = marksT n ++ [markT n] := by unfold marksT; rw [List.range_succ, List.map_append]; rfl
theorem marksT_len (n : Nat) : (marksT n).length = n := by simp [marksT]
theorem marksT_at {n i : Nat} (h : i < n) : (marksT n)[i]? = some (markT i) := by unfold marksT; rw [List.getElem?_map, List.getElem?_range h]; rfl
theorem grown_set {w w' : World} {g : Nat} (h : w.grownBy w' (some g)) (j : Nat) (u : Value) : w.grownBy (w'.setCell ⟨g, j, none⟩ u) (some g) := by
  refine ⟨h.os, h.tape, h.output, by have := h.size; simp [World.setCell]; omega, fun k hk hne => ?_⟩
  rw [Below.heap_setCell _ _ _ _ (by intro e; exact hne (by rw [e]))]
  exact h.block k hk hne
theorem grown_any {w w' : World} (h : w.grownBy w' none) (r : Option Nat) : w.grownBy w' r := ⟨h.os, h.tape, h.output, h.size, fun k hk _ => h.block k hk (by simp)⟩
theorem own_keep {B e g n c : Nat} {w w' : World} {xs : List Value} (h : w.ownsRow B e 3 (.slice (some ⟨g, 0, none⟩) n c) n xs) (hb : Below w.heap.size w w') : w'.ownsRow B e 3 (.slice (some ⟨g, 0, none⟩) n c) n xs := h.kept (grown_of_below hb) (.inr (by simp [Value.ownBlock]))
end Go.Proofs.Ythnpchcfjkepaaa
/- A slice of triples of whatever length that is marked, from whatever number on. -/
namespace Go.Proofs.Ythnpchcfjkepaaa
open Go.RowKit Go.WideShapes
theorem dig_len : ∀ n : Nat, (dig n).length ≤ n := by
  intro n
  induction n using Nat.strongRecOn with
  | _ n ih =>
    rcases Nat.eq_zero_or_pos n with rfl | h
    · rw [dig_zero]; simp
    · rw [dig_step h, List.length_append, List.length_singleton]
      have := ih (n / 10) (by omega)
      omega
theorem marks_small (n : Nat) (hn : n ≤ 80) : ∀ t ∈ marksT n, t.1.size ≤ maxLen ∧ t.2.1.size ≤ maxLen ∧ t.2.2.size ≤ maxLen := by
  intro t ht
  unfold marksT at ht
  obtain ⟨i, hi, rfl⟩ := List.mem_map.1 ht
  have hi := List.mem_range.1 hi
  have a := dig_len (1 + 3 * i)
  have b := dig_len (1 + 3 * i + 1)
  have c := dig_len (1 + 3 * i + 2)
  unfold markT mark maxLen
  simp only [bs_size, List.length_cons]
  omega
end Go.Proofs.Ythnpchcfjkepaaa
/- A slice of triples that is marked from whatever number on, and looked at again. -/
namespace Go.Proofs.Ythnpchcfjkepaaa
open Go.RowKit Go.WideShapes
def markK (k0 i : Nat) : Tri3 := (mark (k0 + 3 * i), mark (k0 + 3 * i + 1), mark (k0 + 3 * i + 2))
def marksK (k0 n : Nat) : List Tri3 := (List.range n).map (markK k0)
theorem marksK_succ (k0 n : Nat) : marksK k0 (n + 1) = marksK k0 n ++ [markK k0 n] := by unfold marksK; rw [List.range_succ, List.map_append]; rfl
theorem marksK_len (k0 n : Nat) : (marksK k0 n).length = n := by simp [marksK]
theorem marksK_at {k0 n i : Nat} (h : i < n) : (marksK k0 n)[i]? = some (markK k0 i) := by unfold marksK; rw [List.getElem?_map, List.getElem?_range h]; rfl
theorem marksK_small (k0 n : Nat) (hn : n ≤ 1048576) (hk : k0 ≤ 40000000) : ∀ t ∈ marksK k0 n, t.1.size ≤ maxLen ∧ t.2.1.size ≤ maxLen ∧ t.2.2.size ≤ maxLen := by
  intro t ht
  unfold marksK at ht
  obtain ⟨i, hi, rfl⟩ := List.mem_map.1 ht
  have hi := List.mem_range.1 hi
  have a := dig_len (k0 + 3 * i)
  have b := dig_len (k0 + 3 * i + 1)
  have c := dig_len (k0 + 3 * i + 2)
  unfold markK mark maxLen
  simp only [bs_size, List.length_cons]
  omega
end Go.Proofs.Ythnpchcfjkepaaa
