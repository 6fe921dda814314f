/- Slices of triples that the call owns: plain facts. -/
import Derived.Test.YtamnlifdfhmbnaaG07
import Derived.Test.YtamnlifdfhmbnaaG08
import Derived.Test.YtamnlifdfhmbnaaG01
import Derived.Outline
import Derived.Deep.RegionHeld3
namespace Go.Proofs.Ytamnlifdfhmbnaa
open Go.RowKit Go.WideShapes
theorem three_cell {w : World} {u v z : Value} {e : Nat} : ∀ (j : Nat) (x : Value), [u, v, z][j]? = some x → (w.alloc (.cells #[u, v, z] e)).cell? ((⟨w.heap.size, 0, none⟩ : Addr).add j) = some x := by
  intro j x hj
  match j, hj with
  | 0, hj => simp at hj; subst hj; simp [Addr.add]
  | 1, hj => simp at hj; subst hj; simp [Addr.add]
  | 2, hj => simp at hj; subst hj; simp [Addr.add]
end Go.Proofs.Ytamnlifdfhmbnaa
/- The exact laws' own marks: their texts, and a slice of triples that is marked and looked at again. -/
namespace Go.Proofs.Ytamnlifdfhmbnaa
open Go.RowKit Go.WideShapes
theorem graphOk_le {ts : List Tri3} (h : graphOk ts = true) : ts.length ≤ 80 := by
  unfold graphOk at h
  simp only [Bool.and_eq_true, decide_eq_true_eq] at h
  exact h.1
def dig (n : Nat) : List UInt8 := if _h : n = 0 then [] else dig (n / 10) ++ [UInt8.ofNat (48 + n % 10)]
termination_by n
decreasing_by omega
theorem dig_zero : dig 0 = [] := by unfold dig; simp
theorem dig_step {n : Nat} (h : 0 < n) : dig n = dig (n / 10) ++ [UInt8.ofNat (48 + n % 10)] := by
  conv => lhs; unfold dig
  rw [dif_neg (by omega)]
def mark (n : Nat) : ByteArray := bs (109 :: dig n)
theorem mark_text (o : ByteArray) : { data := #[109] } ++ o = bs (109 :: o.data.toList) := by
  apply bs_eq
  simp
set_option maxRecDepth 100000 in
set_option maxHeartbeats 1600000 in
theorem markText (n : Nat) (h0 : 0 < n) (h1 : n ≤ 8000000) (w : World) :
    Calls Try.prog 95 #[.int .i64 n] w fun e w' => e = .returned (.string (mark n)) ∧ Below w.heap.size w w' := by
  have h2 : ¬ (n : Int) ≤ 0 := by omega
  go_enter Try.func95, Try.ntmps95
  go_wp2_with fail
  go_loopw [0, 3] (fun k o wr => ∃ (m : Nat) (O : ByteArray), k = .int .i64 m ∧ o = .string O ∧ m + O.size ≤ n ∧ Hid (dig m ++ O.data.toList = dig n) ∧ Below w.heap.size w wr) (fun k _ _ => (intOf k).toNat)
  case atStart => exact ⟨n, ⟨#[]⟩, rfl, rfl, Nat.le_refl _, Lib.hid (by simp), Below.refl _ _⟩
  case round =>
    obtain ⟨m, O, rfl, rfl, hm, hd, hnx⟩ := hrel
    by_cases g : 0 < m
    · have g2 : (0 : Int) < (m : Int) := by omega
      have hcv := run_convert_bytes_arg (P := Try.prog) (wr.alloc (.cells #[.int .u8 (48 + (m : Int) % 10)] 5)) 22 5 Try.underlying22 Try.underlying5 wr.heap.size 0 1 1 [48 + (m : Int) % 10] rfl (fun i hi => by
        obtain rfl : i = 0 := by omega
        simp [List.getD]) 9 Try.underlying9
      obtain ⟨D, hD⟩ : ∃ D, strOfNums [48 + (m : Int) % 10] = D := ⟨_, rfl⟩
      rw [hD] at hcv
      have hDl : D.data.toList = [UInt8.ofNat (48 + m % 10)] := by
        rw [← hD]
        have e : (48 + (m : Int) % 10).toNat = 48 + m % 10 := by omega
        simp [strOfNums, e]
      have hDs : D.size = 1 := by rw [← size_len, hDl]; rfl
      have hO : O.size ≤ 8000000 := by omega
      have hDO : (D ++ O).size = O.size + 1 := by rw [ByteArray.size_append]; omega
      have HD : Hid (dig (m / 10) ++ (D ++ O).data.toList = dig n) := Lib.hid (by
        rw [← hd.out, dig_step g, ByteArray.data_append, Array.toList_append, hDl]; simp)
      have hq : ((m / 10 : Nat) : Int) = (m : Int) / 10 := by omega
      have B1 := hnx.alloc hnx.size (.cells #[.int .u8 (48 + (m : Int) % 10)] 5)
      clear hD hDl hd hnx
      go_wp2_with fail
      go_roundw
      case rel => exact ⟨m / 10, D ++ O, by rw [hq], rfl, by omega, HD, B1⟩
      case measure => simp [intOf]; omega
    · obtain rfl : m = 0 := by omega
      have HR : Hid ({ data := #[109] } ++ O = mark n) := Lib.hid (by have := hd.out; rw [dig_zero, List.nil_append] at this; rw [mark_text, this]; rfl)
      have hO : O.size ≤ 8000000 := by omega
      go_wp2_with fail
      go_ret
      exact ⟨by rw [← HR.out]; rfl, hnx⟩
def markT (i : Nat) : Tri3 := (mark (1 + 3 * i), mark (1 + 3 * i + 1), mark (1 + 3 * i + 2))
def marksT (n : Nat) : List Tri3 := (List.range n).map markT
theorem marksT_succ (n : Nat) : marksT (n + 1) = marksT n ++ [markT n] := by unfold marksT; rw [List.range_succ, List.map_append]; rfl
theorem marksT_len (n : Nat) : (marksT n).length = n := by simp [marksT]
theorem marksT_at {n i : Nat} (h : i < n) : (marksT n)[i]? = some (markT i) := by unfold marksT; rw [List.getElem?_map, List.getElem?_range h]; rfl
theorem grown_set {w w' : World} {g : Nat} (h : w.grownBy w' (some g)) (j : Nat) (u : Value) : w.grownBy (w'.setCell ⟨g, j, none⟩ u) (some g) := by
  refine ⟨h.os, h.tape, h.output, by have := h.size; simp [World.setCell]; omega, fun k hk hne => ?_⟩
  rw [Below.heap_setCell _ _ _ _ (by intro e; exact hne (by rw [e]))]
  exact h.block k hk hne
theorem grown_any {w w' : World} (h : w.grownBy w' none) (r : Option Nat) : w.grownBy w' r := ⟨h.os, h.tape, h.output, h.size, fun k hk _ => h.block k hk (by simp)⟩
theorem own_keep {B e g n c : Nat} {w w' : World} {xs : List Value} (h : w.ownsRow B e 3 (.slice (some ⟨g, 0, none⟩) n c) n xs) (hb : Below w.heap.size w w') : w'.ownsRow B e 3 (.slice (some ⟨g, 0, none⟩) n c) n xs := h.kept (grown_of_below hb) (.inr (by simp [Value.ownBlock]))
end Go.Proofs.Ytamnlifdfhmbnaa
/- A slice of triples of whatever length that is marked, from whatever number on. -/
namespace Go.Proofs.Ytamnlifdfhmbnaa
open Go.RowKit Go.WideShapes
theorem dig_len : ∀ n : Nat, (dig n).length ≤ n := by
  intro n
  induction n using Nat.strongRecOn with
  | _ n ih =>
    rcases Nat.eq_zero_or_pos n with rfl | h
    · rw [dig_zero]; simp
    · rw [dig_step h, List.length_append, List.length_singleton]
      have := ih (n / 10) (by omega)
      omega
theorem marks_small (n : Nat) (hn : n ≤ 80) : ∀ t ∈ marksT n, t.1.size ≤ maxLen ∧ t.2.1.size ≤ maxLen ∧ t.2.2.size ≤ maxLen := by
  intro t ht
  unfold marksT at ht
  obtain ⟨i, hi, rfl⟩ := List.mem_map.1 ht
  have hi := List.mem_range.1 hi
  have a := dig_len (1 + 3 * i)
  have b := dig_len (1 + 3 * i + 1)
  have c := dig_len (1 + 3 * i + 2)
  unfold markT mark maxLen
  simp only [bs_size, List.length_cons]
  omega
end Go.Proofs.Ytamnlifdfhmbnaa
