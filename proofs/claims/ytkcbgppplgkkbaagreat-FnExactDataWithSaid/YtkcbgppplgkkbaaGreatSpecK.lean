/- The contracts of the model's functions on kinds. -/
import Derived.Test.YtkcbgppplgkkbaaGreatKindM
import Derived.Deep.QuietTactic
import Derived.BigQuiet
import Derived.WalkSmall
namespace Go.Proofs.YtkcbgppplgkkbaaGreat
open Go.RowKit
def othB (o : List UInt8) (c : UInt8) : Bool := labB c || o.contains c
theorem lab_cases (c : UInt8) : (labB c = true ∧ 97 ≤ (c.toNat : Int) ∧ (c.toNat : Int) ≤ 122) ∨ (labB c = true ∧ (c.toNat : Int) < 97 ∧ 48 ≤ (c.toNat : Int) ∧ (c.toNat : Int) ≤ 57) ∨
    (labB c = false ∧ (c.toNat : Int) < 97 ∧ (c.toNat : Int) < 48) ∨ (labB c = false ∧ 122 < (c.toNat : Int)) ∨ (labB c = false ∧ (c.toNat : Int) < 97 ∧ 57 < (c.toNat : Int)) := by
  unfold labB
  simp only [Bool.or_eq_true, Bool.and_eq_true, decide_eq_true_eq, Bool.or_eq_false_iff, Bool.and_eq_false_iff, decide_eq_false_iff_not]
  omega
theorem contains_snoc (o : ByteArray) (j : Nat) (h : j < o.size) (c : UInt8) : (o.data.toList.take (j + 1)).contains c = ((o.data.toList.take j).contains c || ((c.toNat : Int) == (o[j].toNat : Int))) := by
  rw [take_snoc o j h, Bool.eq_iff_iff]
  have := u8_int c o[j]
  simp at *
  rw [this]
set_option maxRecDepth 100000 in
set_option maxHeartbeats 1600000 in
theorem specOf (s o : ByteArray) (most : Nat) (hs : s.size ≤ 2097152) (ho : o.size ≤ 100) (w : World) :
    Calls Tryz.prog 36 #[.string s, .int .i64 most, .string o] w fun e w' => e = .returned (.bool (made s.data.toList most (othB o.data.toList))) ∧ Below w.heap.size w w' := by
  go_enter Tryz.func36, Tryz.ntmps36
  go_wp2_with fail
  go_loopw [7] (fun i wr => ∃ k : Nat, k ≤ s.size ∧ i = .int .i64 k ∧ Hid ((s.data.toList.take k).all (othB o.data.toList) = true) ∧ Below w.heap.size w wr) (fun i _ => s.size - (intOf i).toNat)
  case atStart => exact ⟨0, Nat.zero_le _, rfl, Lib.hid (by simp), Below.refl _ _⟩
  case round =>
    obtain ⟨k, hk, rfl, hb, hnx⟩ := hrel
    obtain ⟨wo, rfl⟩ : ∃ wo : World, wo = wr := ⟨_, rfl⟩
    by_cases hlt : k < s.size
    · have HT := Lib.hid (take_snoc s k hlt)
      have HD := Lib.hid (drop_cons s k hlt)
      rcases lab_cases s[k] with ⟨hl, c1, c2⟩ | ⟨hl, c1, c2, c3⟩ | ⟨hl, c1, c2⟩ | ⟨hl, c1⟩ | ⟨hl, c1, c2⟩
      all_goals
        have HL := Lib.hid hl
        clear hl
        go_wp2_with fail
        go_loopw [8, 9] (fun f j wr => ∃ q : Nat, q ≤ o.size ∧ j = .int .i64 q ∧ (∃ b : Bool, f = .bool b ∧ Hid (b = (labB s[k] || (o.data.toList.take q).contains s[k]))) ∧ Below w.heap.size w wr) (fun _ j _ => o.size - (intOf j).toNat)
        case atStart => exact ⟨0, Nat.zero_le _, rfl, ⟨_, rfl, Lib.hid (by rw [HL.out]; simp; try omega)⟩, hnx⟩
        case round =>
          obtain ⟨q, hq, rfl, ⟨b, rfl, hbb⟩, hnx2⟩ := hrel
          by_cases hlt2 : q < o.size
          · have HC := Lib.hid (contains_snoc o q hlt2 s[k])
            cases b
            · go_wp2_with fail
              go_quiet (fail)
              go_wp2_with fail
              go_roundw
              case rel => exact ⟨q + 1, by omega, by go_num, ⟨_, rfl, Lib.hid (by rw [HC.out, ← Bool.or_assoc, ← hbb.out]; simp)⟩, below_drewN hnx2 _⟩
              case measure => simp [intOf]; omega
            · go_wp2_with fail
              go_quiet (fail)
              go_wp2_with fail
              go_roundw
              case rel => exact ⟨q + 1, by omega, by go_num, ⟨_, rfl, Lib.hid (by rw [HC.out, ← Bool.or_assoc, ← hbb.out]; simp)⟩, below_drewN hnx2 _⟩
              case measure => simp [intOf]; omega
          · have HB : Hid (b = othB o.data.toList s[k]) := Lib.hid (by have := hbb.out; rwa [take_all _ _ (by omega)] at this)
            clear hbb
            cases b
            · have HF : Hid (s.data.toList.all (othB o.data.toList) = false) := Lib.hid (by
                rw [← List.take_append_drop k s.data.toList, List.all_append, HD.out, List.all_cons, ← HB.out]; simp)
              go_wp2_with fail
              go_ret
              exact ⟨by unfold made; rw [HF.out]; simp, hnx2⟩
            · have HF : Hid ((s.data.toList.take (k + 1)).all (othB o.data.toList) = true) := Lib.hid (by rw [HT.out, List.all_append, hb.out]; simp [← HB.out])
              go_wp2_with fail
              go_roundw
              case rel => exact ⟨k + 1, by omega, by go_num, HF, hnx2⟩
              case measure => simp [intOf]; omega
    · have HF : Hid (s.data.toList.all (othB o.data.toList) = true) := Lib.hid (by have := hb.out; rwa [take_all _ _ (by omega)] at this)
      have HM : Hid (made s.data.toList most (othB o.data.toList) = (decide (1 ≤ s.size) && decide (s.size ≤ most))) := Lib.hid (by unfold made; rw [HF.out, size_len]; simp)
      by_cases g1 : (1 : Int) ≤ s.size
      · by_cases g2 : (s.size : Int) ≤ most
        · go_wp2_with fail
          go_ret
          exact ⟨by rw [HM.out, decide_eq_true (by omega : 1 ≤ s.size), decide_eq_true (by omega : s.size ≤ most)]; rfl, hnx⟩
        · go_wp2_with fail
          go_ret
          exact ⟨by rw [HM.out, decide_eq_true (by omega : 1 ≤ s.size), decide_eq_false (by omega : ¬ s.size ≤ most)]; rfl, hnx⟩
      · go_wp2_with fail
        go_ret
        exact ⟨by rw [HM.out, decide_eq_false (by omega : ¬ 1 ≤ s.size)]; rfl, hnx⟩
end Go.Proofs.YtkcbgppplgkkbaaGreat
