/- The contracts of the functions on patterns: which are right, and which lists of them. -/
import Derived.Test.YtapcbhpkbdlinabRise
import Derived.Deep.RegionHeld3
import Derived.Deep.RegionWith
namespace Go.Proofs.Ytapcbhpkbdlinab
open Go.RowKit Go.WideShapes
def patOk (s p o : List UInt8) : Bool := (decide (kindL s = 1) || decide (kindL s = 3) || decide (kindL s = 4)) && (decide (kindL p = 1) || decide (kindL p = 4)) && !decide (kindL o = 0)
def patT (t : Tri3) : Bool := patOk t.1.data.toList t.2.1.data.toList t.2.2.data.toList
def bgpOk (ts : List Tri3) : Bool := decide (ts.length ≤ 4) && ts.all patT
theorem pat_step {ts : List Tri3} {k : Nat} {t : Tri3} (h : ts[k]? = some t) (hk : (ts.take k).all patT = true) : (ts.take (k + 1)).all patT = patT t := by
  rw [List.take_add_one, h, List.all_append, hk]; simp
theorem pat_no {ts : List Tri3} {k : Nat} {t : Tri3} (h : ts[k]? = some t) (hp : patT t = false) : ts.all patT = false := by
  rw [List.all_eq_false]
  exact ⟨t, List.mem_of_getElem? h, by rw [hp]; simp⟩
set_option maxRecDepth 100000 in
set_option maxHeartbeats 1600000 in
theorem implPatternOk (s p o : ByteArray) (hs : s.size ≤ 2097152) (hp : p.size ≤ 2097152) (ho : o.size ≤ 2097152) (w : World) :
    Calls Try.prog 69 #[.agg #[.string s, .string p, .string o]] w fun e w' => e = .returned (.bool (patOk s.data.toList p.data.toList o.data.toList)) ∧ Below w.heap.size w w' := by
  have CS' := implKindOf s hs
  have CP' := implKindOf p hp
  have CO' := implKindOf o ho
  unfold patOk
  generalize kindL s.data.toList = ks at CS' ⊢
  generalize kindL p.data.toList = kp at CP' ⊢
  generalize kindL o.data.toList = ko at CO' ⊢
  have CS := Lib.hid CS'
  have CP := Lib.hid CP'
  have CO := Lib.hid CO'
  clear CS' CP' CO'
  have ES : (((ks : Int) != 1) = false ∧ (decide (ks = 1) || decide (ks = 3) || decide (ks = 4)) = true) ∨ (((ks : Int) != 1) = true ∧ ((ks : Int) != 3) = false ∧ (decide (ks = 1) || decide (ks = 3) || decide (ks = 4)) = true) ∨
      (((ks : Int) != 1) = true ∧ ((ks : Int) != 3) = true ∧ ((ks : Int) != 4) = false ∧ (decide (ks = 1) || decide (ks = 3) || decide (ks = 4)) = true) ∨ (((ks : Int) != 1) = true ∧ ((ks : Int) != 3) = true ∧ ((ks : Int) != 4) = true ∧ (decide (ks = 1) || decide (ks = 3) || decide (ks = 4)) = false) := by
    simp only [bne_iff_ne, bne_eq_false_iff_eq, Bool.or_eq_true, Bool.or_eq_false_iff, decide_eq_true_eq, decide_eq_false_iff_not]; omega
  have EP : (((kp : Int) != 1) = false ∧ (decide (kp = 1) || decide (kp = 4)) = true) ∨ (((kp : Int) != 1) = true ∧ ((kp : Int) != 4) = false ∧ (decide (kp = 1) || decide (kp = 4)) = true) ∨ (((kp : Int) != 1) = true ∧ ((kp : Int) != 4) = true ∧ (decide (kp = 1) || decide (kp = 4)) = false) := by
    simp only [bne_iff_ne, bne_eq_false_iff_eq, Bool.or_eq_true, Bool.or_eq_false_iff, decide_eq_true_eq, decide_eq_false_iff_not]; omega
  have EO : (((ko : Int) != 0) = true ∧ decide (ko = 0) = false) ∨ (((ko : Int) != 0) = false ∧ decide (ko = 0) = true) := by
    simp only [bne_iff_ne, bne_eq_false_iff_eq, decide_eq_true_eq, decide_eq_false_iff_not]; omega
  have HO := Lib.hid EO
  have HP := Lib.hid EP
  have HS := Lib.hid ES
  clear EO EP ES
  generalize (decide (ks = 1) || decide (ks = 3) || decide (ks = 4)) = qs at HS ⊢
  generalize (decide (kp = 1) || decide (kp = 4)) = qp at HP ⊢
  generalize decide (ko = 0) = qo at HO ⊢
  go_enter Try.func69, Try.ntmps69
  go_wp2_with fail
  go_region_held3 (fun w' => w'.cell? ⟨w.heap.size, 0, none⟩ = some (.string s) ∧ w'.cell? ⟨w.heap.size, 1, none⟩ = some (.string p) ∧ w'.cell? ⟨w.heap.size, 2, none⟩ = some (.string o))
    (first | go_keep | (go_split_ands; refine ⟨?_, ?_, ?_⟩ <;> (rw [hb2.cell (by first | (simp; done) | exact World.block_lt_of_cell? _ _ (by assumption))]; assumption)) | (go_split_ands; refine ⟨?_, ?_, ?_⟩ <;> (rw [hb1.cell (by first | (simp; done) | exact World.block_lt_of_cell? _ _ (by assumption))]; assumption)))
    (first
      | (go_at_call_of 89 s; refine (CS.out _).mono ?_; rintro e w1 ⟨rfl, hb1⟩)
      | (go_at_call_of 89 p; refine (CP.out _).mono ?_; rintro e w2 ⟨rfl, hb2⟩))
  go_split_ands
  have hbel : Below w.heap.size w w2 := ((((Below.refl _ _).alloc (Nat.le_refl _) _).drew).trans (hb1.mono (by simp))).trans (hb2.mono (by have := hb1.size; simp at this; omega))
  clear hb1 hb2
  rcases HS.out with ⟨s1, hS⟩ | ⟨s1, s2, hS⟩ | ⟨s1, s2, s3, hS⟩ | ⟨s1, s2, s3, hS⟩
  rotate_right
  · subst hS
    clear HO HP HS CO
    go_wp2_with fail
    go_ret
    exact ⟨rfl, hbel⟩
  all_goals
    subst hS
    clear HS
    rcases HP.out with ⟨p1, hP⟩ | ⟨p1, p2, hP⟩ | ⟨p1, p2, hP⟩
    rotate_right
    · subst hP
      clear HO HP CO
      go_wp2_with fail
      go_ret
      exact ⟨rfl, hbel⟩
    all_goals
      subst hP
      clear HP
      go_wp2_with fail
      refine (CO.out _).mono ?_
      rintro e w3 ⟨rfl, hb3⟩
      have hbel2 := hbel.trans (hb3.mono hbel.size)
      clear hbel hb3
      rcases HO.out with ⟨o1, hO⟩ | ⟨o1, hO⟩
      all_goals
        subst hO
        clear HO
        go_wp2_with fail
        go_ret
        exact ⟨rfl, hbel2⟩
set_option maxRecDepth 100000 in
set_option maxHeartbeats 1600000 in
theorem specPattern (s p o : ByteArray) (hs : s.size ≤ 2097152) (hp : p.size ≤ 2097152) (ho : o.size ≤ 2097152) (w : World) :
    Calls Try.prog 66 #[.agg #[.string s, .string p, .string o]] w fun e w' => e = .returned (.bool (patOk s.data.toList p.data.toList o.data.toList)) ∧ Below w.heap.size w w' := by
  have CS' := specKindOf s hs
  have CP' := specKindOf p hp
  have CO' := specKindOf o ho
  unfold patOk
  generalize kindL s.data.toList = ks at CS' ⊢
  generalize kindL p.data.toList = kp at CP' ⊢
  generalize kindL o.data.toList = ko at CO' ⊢
  have CS := Lib.hid CS'
  have CP := Lib.hid CP'
  have CO := Lib.hid CO'
  clear CS' CP' CO'
  have ES : (((ks : Int) == 1) = true ∧ (decide (ks = 1) || decide (ks = 3) || decide (ks = 4)) = true) ∨ (((ks : Int) == 1) = false ∧ ((ks : Int) == 3) = true ∧ (decide (ks = 1) || decide (ks = 3) || decide (ks = 4)) = true) ∨
      (((ks : Int) == 1) = false ∧ ((ks : Int) == 3) = false ∧ ((ks : Int) == 4) = true ∧ (decide (ks = 1) || decide (ks = 3) || decide (ks = 4)) = true) ∨ (((ks : Int) == 1) = false ∧ ((ks : Int) == 3) = false ∧ ((ks : Int) == 4) = false ∧ (decide (ks = 1) || decide (ks = 3) || decide (ks = 4)) = false) := by
    simp only [beq_iff_eq, beq_eq_false_iff_ne, Bool.or_eq_true, Bool.or_eq_false_iff, decide_eq_true_eq, decide_eq_false_iff_not]; omega
  have EP : (((kp : Int) == 1) = true ∧ (decide (kp = 1) || decide (kp = 4)) = true) ∨ (((kp : Int) == 1) = false ∧ ((kp : Int) == 4) = true ∧ (decide (kp = 1) || decide (kp = 4)) = true) ∨ (((kp : Int) == 1) = false ∧ ((kp : Int) == 4) = false ∧ (decide (kp = 1) || decide (kp = 4)) = false) := by
    simp only [beq_iff_eq, beq_eq_false_iff_ne, Bool.or_eq_true, Bool.or_eq_false_iff, decide_eq_true_eq, decide_eq_false_iff_not]; omega
  have EO : (((ko : Int) != 0) = true ∧ decide (ko = 0) = false) ∨ (((ko : Int) != 0) = false ∧ decide (ko = 0) = true) := by
    simp only [bne_iff_ne, bne_eq_false_iff_eq, decide_eq_true_eq, decide_eq_false_iff_not]; omega
  have HO := Lib.hid EO
  have HP := Lib.hid EP
  have HS := Lib.hid ES
  clear EO EP ES
  generalize (decide (ks = 1) || decide (ks = 3) || decide (ks = 4)) = qs at HS ⊢
  generalize (decide (kp = 1) || decide (kp = 4)) = qp at HP ⊢
  generalize decide (ko = 0) = qo at HO ⊢
  go_enter Try.func66, Try.ntmps66
  go_wp2_with fail
  refine (CS.out _).mono ?_
  rintro e w1 ⟨rfl, hb1⟩
  have c1 : w1.cell? ⟨w.heap.size, 1, none⟩ = some (.string p) := by rw [hb1.cell (by simp)]; simp
  have c2 : w1.cell? ⟨w.heap.size, 2, none⟩ = some (.string o) := by rw [hb1.cell (by simp)]; simp
  have hbel : Below w.heap.size w w1 := ((Below.refl _ _).alloc (Nat.le_refl _) _).trans (hb1.mono (by simp))
  have hw1 := World.block_lt_of_cell? _ _ c1
  clear hb1
  go_wp2_with fail
  refine (CP.out _).mono ?_
  rintro e w2 ⟨rfl, hb2⟩
  have c3 : w2.cell? ⟨w.heap.size, 2, none⟩ = some (.string o) := by rw [hb2.cell hw1]; exact c2
  have hbel2 := hbel.trans (hb2.mono hbel.size)
  clear hb2 hbel c1 c2 hw1
  rcases HS.out with ⟨s1, hS⟩ | ⟨s1, s2, hS⟩ | ⟨s1, s2, s3, hS⟩ | ⟨s1, s2, s3, hS⟩
  rotate_right
  · subst hS
    clear HO HP HS CO
    go_wp2_with fail
    go_ret
    exact ⟨rfl, hbel2⟩
  all_goals
    subst hS
    clear HS
    rcases HP.out with ⟨p1, hP⟩ | ⟨p1, p2, hP⟩ | ⟨p1, p2, hP⟩
    rotate_right
    · subst hP
      clear HO HP CO
      go_wp2_with fail
      go_ret
      exact ⟨rfl, hbel2⟩
    all_goals
      subst hP
      clear HP
      go_wp2_with fail
      refine (CO.out _).mono ?_
      rintro e w3 ⟨rfl, hb3⟩
      have hbel3 := hbel2.trans (hb3.mono hbel2.size)
      clear hbel2 hb3
      rcases HO.out with ⟨o1, hO⟩ | ⟨o1, hO⟩
      all_goals
        subst hO
        clear HO
        go_wp2_with fail
        go_ret
        exact ⟨rfl, hbel3⟩
end Go.Proofs.Ytapcbhpkbdlinab
