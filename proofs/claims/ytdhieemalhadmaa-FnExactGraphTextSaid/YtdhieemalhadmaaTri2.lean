/- The contracts of the functions on triples: their texts, and which is ahead. -/
import Derived.Test.YtdhieemalhadmaaTri
namespace Go.Proofs.Ytdhieemalhadmaa
open Go.RowKit
def triText (s p o : List UInt8) : List UInt8 := if triOk s p o then s ++ 32 :: (p ++ 32 :: (o ++ [32, 46])) else []
def aheadL (s p o s' p' o' : List UInt8) : Bool := if s = s' then (if p = p' then Op.bytesLess o o' else Op.bytesLess p p') else Op.bytesLess s s'
theorem join_text (s p o : ByteArray) : s ++ { data := #[32] } ++ p ++ { data := #[32] } ++ o ++ { data := #[32, 46] } = bs (s.data.toList ++ 32 :: (p.data.toList ++ 32 :: (o.data.toList ++ [32, 46]))) := by
  apply bs_eq
  simp
theorem data_inj {a b : ByteArray} (h : a.data.toList = b.data.toList) : a = b := by rw [← bs_of a, ← bs_of b, h]
set_option maxRecDepth 100000 in
theorem implTripleText (s p o : ByteArray) (hs : s.size ≤ 2097152) (hp : p.size ≤ 2097152) (ho : o.size ≤ 2097152) (w : World) :
    Calls Try.prog 45 #[.agg #[.string s, .string p, .string o]] w fun e w' => e = .returned (.string (bs (triText s.data.toList p.data.toList o.data.toList))) ∧ Below w.heap.size w w' := by
  have C' := implTripleOk s p o hs hp ho
  have HJ := Lib.hid (join_text s p o)
  unfold triText
  cases hk : triOk s.data.toList p.data.toList o.data.toList
  all_goals
    rw [hk] at C'
    have C := Lib.hid C'
    clear C' hk
    go_enter Try.func45, Try.ntmps45
    go_wp2_with fail
    refine (C.out _).mono ?_
    rintro e w1 ⟨rfl, hb1⟩
    have c0 : w1.cell? ⟨w.heap.size, 0, none⟩ = some (.string s) := by rw [hb1.cell (by simp)]; simp
    have c1 : w1.cell? ⟨w.heap.size, 1, none⟩ = some (.string p) := by rw [hb1.cell (by simp)]; simp
    have c2 : w1.cell? ⟨w.heap.size, 2, none⟩ = some (.string o) := by rw [hb1.cell (by simp)]; simp
    have hbel : Below w.heap.size w w1 := ((Below.refl _ _).alloc (Nat.le_refl _) _).trans (hb1.mono (by simp))
    clear hb1
    go_wp2_with fail
    go_ret
    exact ⟨by first | rfl | (rw [← HJ.out]; rfl), hbel⟩
set_option maxRecDepth 100000 in
theorem implAhead (s p o s' p' o' : ByteArray) (w : World) :
    Calls Try.prog 52 #[.agg #[.string s, .string p, .string o], .agg #[.string s', .string p', .string o']] w fun e w' => e = .returned (.bool (aheadL s.data.toList p.data.toList o.data.toList s'.data.toList p'.data.toList o'.data.toList)) ∧ Below w.heap.size w w' := by
  by_cases h1 : s = s'
  · by_cases h2 : p = p'
    · have e1 : (s.toList == s'.toList) = true := by rw [h1]; simp
      have e2 : (p.toList == p'.toList) = true := by rw [h2]; simp
      have HR : Hid (aheadL s.data.toList p.data.toList o.data.toList s'.data.toList p'.data.toList o'.data.toList = Op.bytesLess o.toList o'.toList) := Lib.hid (by
        unfold aheadL; rw [if_pos (by rw [h1]), if_pos (by rw [h2]), ByteArray.toList_eq, ByteArray.toList_eq])
      clear h1 h2
      go_enter Try.func52, Try.ntmps52
      go_wp2_with fail
      go_ret
      exact ⟨by rw [HR.out]; rfl, ((Below.refl _ _).alloc (Nat.le_refl _) _).alloc (by simp) _⟩
    · have e1 : (s.toList == s'.toList) = true := by rw [h1]; simp
      have e2 : (p.toList == p'.toList) = false := by rw [beq_eq_false_iff_ne, ByteArray.toList_eq, ByteArray.toList_eq]; exact fun h => h2 (data_inj h)
      have HR : Hid (aheadL s.data.toList p.data.toList o.data.toList s'.data.toList p'.data.toList o'.data.toList = Op.bytesLess p.toList p'.toList) := Lib.hid (by
        unfold aheadL; rw [if_pos (by rw [h1]), if_neg (fun h => h2 (data_inj h)), ByteArray.toList_eq, ByteArray.toList_eq])
      clear h1 h2
      go_enter Try.func52, Try.ntmps52
      go_wp2_with fail
      go_ret
      exact ⟨by rw [HR.out]; rfl, ((Below.refl _ _).alloc (Nat.le_refl _) _).alloc (by simp) _⟩
  · have e1 : (s.toList == s'.toList) = false := by rw [beq_eq_false_iff_ne, ByteArray.toList_eq, ByteArray.toList_eq]; exact fun h => h1 (data_inj h)
    have HR : Hid (aheadL s.data.toList p.data.toList o.data.toList s'.data.toList p'.data.toList o'.data.toList = Op.bytesLess s.toList s'.toList) := Lib.hid (by
      unfold aheadL; rw [if_neg (fun h => h1 (data_inj h)), ByteArray.toList_eq, ByteArray.toList_eq])
    clear h1
    go_enter Try.func52, Try.ntmps52
    go_wp2_with fail
    go_ret
    exact ⟨by rw [HR.out]; rfl, ((Below.refl _ _).alloc (Nat.le_refl _) _).alloc (by simp) _⟩
set_option maxRecDepth 100000 in
theorem specTripleText (s p o : ByteArray) (hs : s.size ≤ 2097152) (hp : p.size ≤ 2097152) (ho : o.size ≤ 2097152) (w : World) :
    Calls Try.prog 50 #[.agg #[.string s, .string p, .string o]] w fun e w' => e = .returned (.string (bs (triText s.data.toList p.data.toList o.data.toList))) ∧ Below w.heap.size w w' := by
  have C' := specTripleOk s p o hs hp ho
  have HJ := Lib.hid (join_text s p o)
  unfold triText
  cases hk : triOk s.data.toList p.data.toList o.data.toList
  all_goals
    rw [hk] at C'
    have C := Lib.hid C'
    clear C' hk
    go_enter Try.func50, Try.ntmps50
    go_wp2_with fail
    refine (C.out _).mono ?_
    rintro e w1 ⟨rfl, hb1⟩
    have c0 : w1.cell? ⟨w.heap.size, 0, none⟩ = some (.string s) := by rw [hb1.cell (by simp)]; simp
    have c1 : w1.cell? ⟨w.heap.size, 1, none⟩ = some (.string p) := by rw [hb1.cell (by simp)]; simp
    have c2 : w1.cell? ⟨w.heap.size, 2, none⟩ = some (.string o) := by rw [hb1.cell (by simp)]; simp
    have hbel : Below w.heap.size w w1 := ((Below.refl _ _).alloc (Nat.le_refl _) _).trans (hb1.mono (by simp))
    clear hb1
    go_wp2_with fail
    go_ret
    exact ⟨by first | rfl | (rw [← HJ.out]; rfl), hbel⟩
set_option maxRecDepth 100000 in
theorem specAhead (s p o s' p' o' : ByteArray) (w : World) :
    Calls Try.prog 54 #[.agg #[.string s, .string p, .string o], .agg #[.string s', .string p', .string o']] w fun e w' => e = .returned (.bool (aheadL s.data.toList p.data.toList o.data.toList s'.data.toList p'.data.toList o'.data.toList)) ∧ Below w.heap.size w w' := by
  by_cases h1 : s = s'
  · by_cases h2 : p = p'
    · have e1 : (s.toList == s'.toList) = true := by rw [h1]; simp
      have e2 : (p.toList == p'.toList) = true := by rw [h2]; simp
      have HR : Hid (aheadL s.data.toList p.data.toList o.data.toList s'.data.toList p'.data.toList o'.data.toList = Op.bytesLess o.toList o'.toList) := Lib.hid (by
        unfold aheadL; rw [if_pos (by rw [h1]), if_pos (by rw [h2]), ByteArray.toList_eq, ByteArray.toList_eq])
      clear h1 h2
      go_enter Try.func54, Try.ntmps54
      go_wp2_with fail
      go_ret
      exact ⟨by rw [HR.out]; rfl, ((Below.refl _ _).alloc (Nat.le_refl _) _).alloc (by simp) _⟩
    · have e1 : (s.toList == s'.toList) = true := by rw [h1]; simp
      have e2 : (p.toList == p'.toList) = false := by rw [beq_eq_false_iff_ne, ByteArray.toList_eq, ByteArray.toList_eq]; exact fun h => h2 (data_inj h)
      have HR : Hid (aheadL s.data.toList p.data.toList o.data.toList s'.data.toList p'.data.toList o'.data.toList = Op.bytesLess p.toList p'.toList) := Lib.hid (by
        unfold aheadL; rw [if_pos (by rw [h1]), if_neg (fun h => h2 (data_inj h)), ByteArray.toList_eq, ByteArray.toList_eq])
      clear h1 h2
      go_enter Try.func54, Try.ntmps54
      go_wp2_with fail
      go_ret
      exact ⟨by rw [HR.out]; rfl, ((Below.refl _ _).alloc (Nat.le_refl _) _).alloc (by simp) _⟩
  · have e1 : (s.toList == s'.toList) = false := by rw [beq_eq_false_iff_ne, ByteArray.toList_eq, ByteArray.toList_eq]; exact fun h => h1 (data_inj h)
    have HR : Hid (aheadL s.data.toList p.data.toList o.data.toList s'.data.toList p'.data.toList o'.data.toList = Op.bytesLess s.toList s'.toList) := Lib.hid (by
      unfold aheadL; rw [if_neg (fun h => h1 (data_inj h)), ByteArray.toList_eq, ByteArray.toList_eq])
    clear h1
    go_enter Try.func54, Try.ntmps54
    go_wp2_with fail
    go_ret
    exact ⟨by rw [HR.out]; rfl, ((Below.refl _ _).alloc (Nat.le_refl _) _).alloc (by simp) _⟩
end Go.Proofs.Ytdhieemalhadmaa
