/- The contracts of the functions on triples that tell which is ahead. -/
import Derived.Test.YtkcbgppplgkkbaaGreatTri
namespace Go.Proofs.YtkcbgppplgkkbaaGreat
open Go.RowKit
def aheadL (s p o s' p' o' : List UInt8) : Bool := if s = s' then (if p = p' then Op.bytesLess o o' else Op.bytesLess p p') else Op.bytesLess s s'
theorem data_inj {a b : ByteArray} (h : a.data.toList = b.data.toList) : a = b := by rw [← bs_of a, ← bs_of b, h]
set_option maxRecDepth 100000 in
theorem implAhead (s p o s' p' o' : ByteArray) (w : World) :
    Calls Tryz.prog 57 #[.agg #[.string s, .string p, .string o], .agg #[.string s', .string p', .string o']] w fun e w' => e = .returned (.bool (aheadL s.data.toList p.data.toList o.data.toList s'.data.toList p'.data.toList o'.data.toList)) ∧ Below w.heap.size w w' := by
  by_cases h1 : s = s'
  · by_cases h2 : p = p'
    · have e1 : (s.toList == s'.toList) = true := by rw [h1]; simp
      have e2 : (p.toList == p'.toList) = true := by rw [h2]; simp
      have HR : Hid (aheadL s.data.toList p.data.toList o.data.toList s'.data.toList p'.data.toList o'.data.toList = Op.bytesLess o.toList o'.toList) := Lib.hid (by
        unfold aheadL; rw [if_pos (by rw [h1]), if_pos (by rw [h2]), ByteArray.toList_eq, ByteArray.toList_eq])
      clear h1 h2
      go_enter Tryz.func57, Tryz.ntmps57
      go_wp2_with fail
      go_ret
      exact ⟨by rw [HR.out]; rfl, ((Below.refl _ _).alloc (Nat.le_refl _) _).alloc (by simp) _⟩
    · have e1 : (s.toList == s'.toList) = true := by rw [h1]; simp
      have e2 : (p.toList == p'.toList) = false := by rw [beq_eq_false_iff_ne, ByteArray.toList_eq, ByteArray.toList_eq]; exact fun h => h2 (data_inj h)
      have HR : Hid (aheadL s.data.toList p.data.toList o.data.toList s'.data.toList p'.data.toList o'.data.toList = Op.bytesLess p.toList p'.toList) := Lib.hid (by
        unfold aheadL; rw [if_pos (by rw [h1]), if_neg (fun h => h2 (data_inj h)), ByteArray.toList_eq, ByteArray.toList_eq])
      clear h1 h2
      go_enter Tryz.func57, Tryz.ntmps57
      go_wp2_with fail
      go_ret
      exact ⟨by rw [HR.out]; rfl, ((Below.refl _ _).alloc (Nat.le_refl _) _).alloc (by simp) _⟩
  · have e1 : (s.toList == s'.toList) = false := by rw [beq_eq_false_iff_ne, ByteArray.toList_eq, ByteArray.toList_eq]; exact fun h => h1 (data_inj h)
    have HR : Hid (aheadL s.data.toList p.data.toList o.data.toList s'.data.toList p'.data.toList o'.data.toList = Op.bytesLess s.toList s'.toList) := Lib.hid (by
      unfold aheadL; rw [if_neg (fun h => h1 (data_inj h)), ByteArray.toList_eq, ByteArray.toList_eq])
    clear h1
    go_enter Tryz.func57, Tryz.ntmps57
    go_wp2_with fail
    go_ret
    exact ⟨by rw [HR.out]; rfl, ((Below.refl _ _).alloc (Nat.le_refl _) _).alloc (by simp) _⟩
set_option maxRecDepth 100000 in
theorem specAhead (s p o s' p' o' : ByteArray) (w : World) :
    Calls Tryz.prog 53 #[.agg #[.string s, .string p, .string o], .agg #[.string s', .string p', .string o']] w fun e w' => e = .returned (.bool (aheadL s.data.toList p.data.toList o.data.toList s'.data.toList p'.data.toList o'.data.toList)) ∧ Below w.heap.size w w' := by
  by_cases h1 : s = s'
  · by_cases h2 : p = p'
    · have e1 : (s.toList == s'.toList) = true := by rw [h1]; simp
      have e2 : (p.toList == p'.toList) = true := by rw [h2]; simp
      have HR : Hid (aheadL s.data.toList p.data.toList o.data.toList s'.data.toList p'.data.toList o'.data.toList = Op.bytesLess o.toList o'.toList) := Lib.hid (by
        unfold aheadL; rw [if_pos (by rw [h1]), if_pos (by rw [h2]), ByteArray.toList_eq, ByteArray.toList_eq])
      clear h1 h2
      go_enter Tryz.func53, Tryz.ntmps53
      go_wp2_with fail
      go_ret
      exact ⟨by rw [HR.out]; rfl, ((Below.refl _ _).alloc (Nat.le_refl _) _).alloc (by simp) _⟩
    · have e1 : (s.toList == s'.toList) = true := by rw [h1]; simp
      have e2 : (p.toList == p'.toList) = false := by rw [beq_eq_false_iff_ne, ByteArray.toList_eq, ByteArray.toList_eq]; exact fun h => h2 (data_inj h)
      have HR : Hid (aheadL s.data.toList p.data.toList o.data.toList s'.data.toList p'.data.toList o'.data.toList = Op.bytesLess p.toList p'.toList) := Lib.hid (by
        unfold aheadL; rw [if_pos (by rw [h1]), if_neg (fun h => h2 (data_inj h)), ByteArray.toList_eq, ByteArray.toList_eq])
      clear h1 h2
      go_enter Tryz.func53, Tryz.ntmps53
      go_wp2_with fail
      go_ret
      exact ⟨by rw [HR.out]; rfl, ((Below.refl _ _).alloc (Nat.le_refl _) _).alloc (by simp) _⟩
  · have e1 : (s.toList == s'.toList) = false := by rw [beq_eq_false_iff_ne, ByteArray.toList_eq, ByteArray.toList_eq]; exact fun h => h1 (data_inj h)
    have HR : Hid (aheadL s.data.toList p.data.toList o.data.toList s'.data.toList p'.data.toList o'.data.toList = Op.bytesLess s.toList s'.toList) := Lib.hid (by
      unfold aheadL; rw [if_neg (fun h => h1 (data_inj h)), ByteArray.toList_eq, ByteArray.toList_eq])
    clear h1
    go_enter Tryz.func53, Tryz.ntmps53
    go_wp2_with fail
    go_ret
    exact ⟨by rw [HR.out]; rfl, ((Below.refl _ _).alloc (Nat.le_refl _) _).alloc (by simp) _⟩
end Go.Proofs.YtkcbgppplgkkbaaGreat
