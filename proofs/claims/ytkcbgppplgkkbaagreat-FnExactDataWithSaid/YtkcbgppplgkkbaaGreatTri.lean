/- The contracts of the functions on triples: which are right. -/
import Derived.Test.YtkcbgppplgkkbaaGreatKind3
import Derived.Test.YtkcbgppplgkkbaaGreatSpecKO
import Derived.Deep.RegionHeld3
namespace Go.Proofs.YtkcbgppplgkkbaaGreat
open Go.RowKit
def triOk (s p o : List UInt8) : Bool := (decide (kindL s = 1) || decide (kindL s = 3)) && decide (kindL p = 1) && (decide (kindL o = 1) || decide (kindL o = 2) || decide (kindL o = 3))
theorem kindL_le (l : List UInt8) : kindL l ≤ 4 := by
  unfold kindL
  split
  · rename_i k r h
    have := shape_len h
    split <;> omega
  · omega
set_option maxRecDepth 100000 in
set_option maxHeartbeats 1600000 in
theorem implTripleOk (s p o : ByteArray) (hs : s.size ≤ 2097152) (hp : p.size ≤ 2097152) (ho : o.size ≤ 2097152) (w : World) :
    Calls Tryz.prog 45 #[.agg #[.string s, .string p, .string o]] w fun e w' => e = .returned (.bool (triOk s.data.toList p.data.toList o.data.toList)) ∧ Below w.heap.size w w' := by
  have CS' := implKindOf s hs
  have CP' := implKindOf p hp
  have CO' := implKindOf o ho
  unfold triOk
  have gp := kindL_le p.data.toList
  generalize kindL s.data.toList = ks at CS' ⊢
  generalize kindL p.data.toList = kp at CP' gp ⊢
  generalize kindL o.data.toList = ko at CO' ⊢
  have CS := Lib.hid CS'
  have CP := Lib.hid CP'
  have CO := Lib.hid CO'
  clear CS' CP' CO'
  go_enter Tryz.func45, Tryz.ntmps45
  go_wp2_with fail
  go_region_held3 (fun w' => w'.cell? ⟨w.heap.size, 0, none⟩ = some (.string s) ∧ w'.cell? ⟨w.heap.size, 1, none⟩ = some (.string p) ∧ w'.cell? ⟨w.heap.size, 2, none⟩ = some (.string o))
    (first | go_keep | (go_split_ands; refine ⟨?_, ?_, ?_⟩ <;> (rw [hb2.cell (by first | (simp; done) | exact World.block_lt_of_cell? _ _ (by assumption))]; assumption)) | (go_split_ands; refine ⟨?_, ?_, ?_⟩ <;> (rw [hb1.cell (by first | (simp; done) | exact World.block_lt_of_cell? _ _ (by assumption))]; assumption)))
    (first
      | (go_at_call_of 24 s; refine (CS.out _).mono ?_; rintro e w1 ⟨rfl, hb1⟩)
      | (go_at_call_of 24 o; refine (CO.out _).mono ?_; rintro e w2 ⟨rfl, hb2⟩))
  go_split_ands
  have hbel : Below w.heap.size w w2 := ((((Below.refl _ _).alloc (Nat.le_refl _) _).drew).trans (hb1.mono (by simp))).trans (hb2.mono (by have := hb1.size; simp at this; omega))
  clear hb1 hb2
  have ES : (((ks : Int) != 1) = false ∧ ks = 1) ∨ (((ks : Int) != 1) = true ∧ ((ks : Int) != 3) = false ∧ ks = 3) ∨ (((ks : Int) != 1) = true ∧ ((ks : Int) != 3) = true ∧ ks ≠ 1 ∧ ks ≠ 3) := by
    simp only [bne_iff_ne, bne_eq_false_iff_eq]; omega
  have EO : (((ko : Int) == 1) = true ∧ (decide (ko = 1) || decide (ko = 2) || decide (ko = 3)) = true) ∨ (((ko : Int) == 1) = false ∧ ((ko : Int) == 2) = true ∧ (decide (ko = 1) || decide (ko = 2) || decide (ko = 3)) = true) ∨
      (((ko : Int) == 1) = false ∧ ((ko : Int) == 2) = false ∧ ((ko : Int) == 3) = true ∧ (decide (ko = 1) || decide (ko = 2) || decide (ko = 3)) = true) ∨ (((ko : Int) == 1) = false ∧ ((ko : Int) == 2) = false ∧ ((ko : Int) == 3) = false ∧ (decide (ko = 1) || decide (ko = 2) || decide (ko = 3)) = false) := by
    simp only [beq_iff_eq, beq_eq_false_iff_ne, Bool.or_eq_true, Bool.or_eq_false_iff, decide_eq_true_eq, decide_eq_false_iff_not]; omega
  have EP : (((kp : Int) != 1) = false ∧ decide (kp = 1) = true) ∨ (((kp : Int) != 1) = true ∧ decide (kp = 1) = false) := by
    simp only [bne_iff_ne, bne_eq_false_iff_eq, decide_eq_true_eq, decide_eq_false_iff_not]; omega
  clear gp
  have HO := Lib.hid EO
  have HP := Lib.hid EP
  clear EO EP
  rcases ES with ⟨s1, h⟩ | ⟨s1, s2, h⟩ | ⟨s1, s2, h, h'⟩
  rotate_right
  · have HR : Hid (((decide (ks = 1) || decide (ks = 3)) && decide (kp = 1) && (decide (ko = 1) || decide (ko = 2) || decide (ko = 3))) = false) := Lib.hid (by rw [decide_eq_false h, decide_eq_false h']; rfl)
    clear h h' CP HO HP
    go_wp2_with fail
    go_ret
    exact ⟨by rw [HR.out]; rfl, hbel⟩
  all_goals
    have HR : Hid (((decide (ks = 1) || decide (ks = 3)) && decide (kp = 1) && (decide (ko = 1) || decide (ko = 2) || decide (ko = 3))) = (decide (kp = 1) && (decide (ko = 1) || decide (ko = 2) || decide (ko = 3)))) := Lib.hid (by rw [h]; rfl)
    clear h
    go_wp2_with fail
    refine (CP.out _).mono ?_
    rintro e w3 ⟨rfl, hb3⟩
    have hbel2 := hbel.trans (hb3.mono hbel.size)
    clear hbel hb3
    rcases HP.out with ⟨p1, h⟩ | ⟨p1, h⟩
    rotate_right
    · have HQ : Hid (((decide (ks = 1) || decide (ks = 3)) && decide (kp = 1) && (decide (ko = 1) || decide (ko = 2) || decide (ko = 3))) = false) := Lib.hid (by rw [HR.out, h]; rfl)
      clear h HR HO HP
      go_wp2_with fail
      go_ret
      exact ⟨by rw [HQ.out]; rfl, hbel2⟩
    have HQ : Hid (((decide (ks = 1) || decide (ks = 3)) && decide (kp = 1) && (decide (ko = 1) || decide (ko = 2) || decide (ko = 3))) = (decide (ko = 1) || decide (ko = 2) || decide (ko = 3))) := Lib.hid (by rw [HR.out, h]; rfl)
    clear h HR HP
    rcases HO.out with ⟨o1, h⟩ | ⟨o1, o2, h⟩ | ⟨o1, o2, o3, h⟩ | ⟨o1, o2, o3, h⟩
    all_goals
      have HB := Lib.hid h
      clear h HO
      go_wp2_with fail
      go_ret
      exact ⟨by rw [HQ.out, HB.out]; rfl, hbel2⟩
set_option maxRecDepth 100000 in
set_option maxHeartbeats 1600000 in
theorem specTripleOk (s p o : ByteArray) (hs : s.size ≤ 2097152) (hp : p.size ≤ 2097152) (ho : o.size ≤ 2097152) (w : World) :
    Calls Tryz.prog 37 #[.agg #[.string s, .string p, .string o]] w fun e w' => e = .returned (.bool (triOk s.data.toList p.data.toList o.data.toList)) ∧ Below w.heap.size w w' := by
  have CS' := specKindOf s hs
  have CP' := specKindOf p hp
  have CO' := specKindOf o ho
  unfold triOk
  have gp := kindL_le o.data.toList
  generalize kindL s.data.toList = ks at CS' ⊢
  generalize kindL p.data.toList = kp at CP' ⊢
  generalize kindL o.data.toList = ko at CO' gp ⊢
  have CS := Lib.hid CS'
  have CP := Lib.hid CP'
  have CO := Lib.hid CO'
  clear CS' CP' CO'
  have ES : (((ks : Int) == 1) = true ∧ ks = 1) ∨ (((ks : Int) == 1) = false ∧ ((ks : Int) == 3) = true ∧ ks = 3) ∨ (((ks : Int) == 1) = false ∧ ((ks : Int) == 3) = false ∧ ks ≠ 1 ∧ ks ≠ 3) := by
    simp only [beq_iff_eq, beq_eq_false_iff_ne]; omega
  have EP : (((kp : Int) == 1) = true ∧ decide (kp = 1) = true) ∨ (((kp : Int) == 1) = false ∧ decide (kp = 1) = false) := by
    simp only [beq_iff_eq, beq_eq_false_iff_ne, decide_eq_true_eq, decide_eq_false_iff_not]; omega
  have EO : ((1 : Int) ≤ (ko : Int) ∧ (ko : Int) ≤ 3 ∧ (decide (ko = 1) || decide (ko = 2) || decide (ko = 3)) = true) ∨ ((ko : Int) < 1 ∧ (decide (ko = 1) || decide (ko = 2) || decide (ko = 3)) = false) ∨ ((3 : Int) < (ko : Int) ∧ (decide (ko = 1) || decide (ko = 2) || decide (ko = 3)) = false) := by
    simp only [Bool.or_eq_true, Bool.or_eq_false_iff, decide_eq_true_eq, decide_eq_false_iff_not]; omega
  have HO := Lib.hid EO
  have HP := Lib.hid EP
  have HS := Lib.hid ES
  clear EO EP ES gp
  go_enter Tryz.func37, Tryz.ntmps37
  go_wp2_with fail
  refine (CS.out _).mono ?_
  rintro e w1 ⟨rfl, hb1⟩
  have c1 : w1.cell? ⟨w.heap.size, 1, none⟩ = some (.string p) := by rw [hb1.cell (by simp)]; simp
  have c2 : w1.cell? ⟨w.heap.size, 2, none⟩ = some (.string o) := by rw [hb1.cell (by simp)]; simp
  have hbel : Below w.heap.size w w1 := ((Below.refl _ _).alloc (Nat.le_refl _) _).trans (hb1.mono (by simp))
  have hw1 := World.block_lt_of_cell? _ _ c1
  clear hb1
  go_wp2_with fail
  refine (CO.out _).mono ?_
  rintro e w2 ⟨rfl, hb2⟩
  have c3 : w2.cell? ⟨w.heap.size, 1, none⟩ = some (.string p) := by rw [hb2.cell hw1]; exact c1
  have hbel2 := hbel.trans (hb2.mono hbel.size)
  clear hb2 hbel c1 c2 hw1
  rcases HS.out with ⟨s1, h⟩ | ⟨s1, s2, h⟩ | ⟨s1, s2, h, h'⟩
  rotate_right
  · have HR : Hid (((decide (ks = 1) || decide (ks = 3)) && decide (kp = 1) && (decide (ko = 1) || decide (ko = 2) || decide (ko = 3))) = false) := Lib.hid (by rw [decide_eq_false h, decide_eq_false h']; rfl)
    clear h h' CP HO HP HS
    go_wp2_with fail
    go_ret
    exact ⟨by rw [HR.out]; rfl, hbel2⟩
  all_goals
    have HR : Hid (((decide (ks = 1) || decide (ks = 3)) && decide (kp = 1) && (decide (ko = 1) || decide (ko = 2) || decide (ko = 3))) = (decide (kp = 1) && (decide (ko = 1) || decide (ko = 2) || decide (ko = 3)))) := Lib.hid (by rw [h]; rfl)
    clear h HS
    go_wp2_with fail
    refine (CP.out _).mono ?_
    rintro e w3 ⟨rfl, hb3⟩
    have hbel3 := hbel2.trans (hb3.mono hbel2.size)
    clear hbel2 hb3
    rcases HP.out with ⟨p1, h⟩ | ⟨p1, h⟩
    rotate_right
    · have HQ : Hid (((decide (ks = 1) || decide (ks = 3)) && decide (kp = 1) && (decide (ko = 1) || decide (ko = 2) || decide (ko = 3))) = false) := Lib.hid (by rw [HR.out, h]; rfl)
      clear h HR HO HP
      go_wp2_with fail
      go_ret
      exact ⟨by rw [HQ.out]; rfl, hbel3⟩
    have HQ : Hid (((decide (ks = 1) || decide (ks = 3)) && decide (kp = 1) && (decide (ko = 1) || decide (ko = 2) || decide (ko = 3))) = (decide (ko = 1) || decide (ko = 2) || decide (ko = 3))) := Lib.hid (by rw [HR.out, h]; rfl)
    clear h HR HP
    rcases HO.out with ⟨o1, o2, h⟩ | ⟨o1, h⟩ | ⟨o1, h⟩
    all_goals
      have HB := Lib.hid h
      clear h HO
      go_wp2_with go_in
      go_ret
      exact ⟨by rw [HQ.out, HB.out]; first | rfl | (simp; omega), hbel3⟩
end Go.Proofs.YtkcbgppplgkkbaaGreat
