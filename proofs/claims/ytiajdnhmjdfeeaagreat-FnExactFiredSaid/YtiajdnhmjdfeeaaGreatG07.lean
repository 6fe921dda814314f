/- The contracts of the functions on triples: which are right. -/
import Derived.Test.YtiajdnhmjdfeeaaGreatG05
import Derived.Test.YtiajdnhmjdfeeaaGreatG06
import Derived.Deep.RegionHeld3
import Derived.Test.YtiajdnhmjdfeeaaGreatG03
namespace Go.Proofs.YtiajdnhmjdfeeaaGreat
open Go.RowKit
def triOk (s p o : List UInt8) : Bool := (decide (kindL s = 1) || decide (kindL s = 3)) && decide (kindL p = 1) && (decide (kindL o = 1) || decide (kindL o = 2) || decide (kindL o = 3))
theorem kindL_le (l : List UInt8) : kindL l ≤ 4 := by
  unfold kindL
  split
  · rename_i k r h
    have := shape_len h
    split <;> omega
  · omega
set_option maxRecDepth 100000 in
set_option maxHeartbeats 1600000 in
theorem implTripleOk (s p o : ByteArray) (hs : s.size ≤ 2097152) (hp : p.size ≤ 2097152) (ho : o.size ≤ 2097152) (w : World) :
    Calls Tryz.prog 43 #[.agg #[.string s, .string p, .string o]] w fun e w' => e = .returned (.bool (triOk s.data.toList p.data.toList o.data.toList)) ∧ Below w.heap.size w w' := by
  have CS' := implKindOf s hs
  have CP' := implKindOf p hp
  have CO' := implKindOf o ho
  unfold triOk
  have gp := kindL_le p.data.toList
  generalize kindL s.data.toList = ks at CS' ⊢
  generalize kindL p.data.toList = kp at CP' gp ⊢
  generalize kindL o.data.toList = ko at CO' ⊢
  have CS := Lib.hid CS'
  have CP := Lib.hid CP'
  have CO := Lib.hid CO'
  clear CS' CP' CO'
  go_enter Tryz.func43, Tryz.ntmps43
  go_wp2_with fail
  go_region_held3 (fun w' => w'.cell? ⟨w.heap.size, 0, none⟩ = some (.string s) ∧ w'.cell? ⟨w.heap.size, 1, none⟩ = some (.string p) ∧ w'.cell? ⟨w.heap.size, 2, none⟩ = some (.string o))
    (first | go_keep | (go_split_ands; refine ⟨?_, ?_, ?_⟩ <;> (rw [hb2.cell (by first | (simp; done) | exact World.block_lt_of_cell? _ _ (by assumption))]; assumption)) | (go_split_ands; refine ⟨?_, ?_, ?_⟩ <;> (rw [hb1.cell (by first | (simp; done) | exact World.block_lt_of_cell? _ _ (by assumption))]; assumption)))
    (first
      | (go_at_call_of 95 s; refine (CS.out _).mono ?_; rintro e w1 ⟨rfl, hb1⟩)
      | (go_at_call_of 95 o; refine (CO.out _).mono ?_; rintro e w2 ⟨rfl, hb2⟩))
  go_split_ands
  have hbel : Below w.heap.size w w2 := ((((Below.refl _ _).alloc (Nat.le_refl _) _).drew).trans (hb1.mono (by simp))).trans (hb2.mono (by have := hb1.size; simp at this; omega))
  clear hb1 hb2
  have ES : (((ks : Int) != 1) = false ∧ ks = 1) ∨ (((ks : Int) != 1) = true ∧ ((ks : Int) != 3) = false ∧ ks = 3) ∨ (((ks : Int) != 1) = true ∧ ((ks : Int) != 3) = true ∧ ks ≠ 1 ∧ ks ≠ 3) := by
    simp only [bne_iff_ne, bne_eq_false_iff_eq]; omega
  have EO : (((ko : Int) == 1) = true ∧ (decide (ko = 1) || decide (ko = 2) || decide (ko = 3)) = true) ∨ (((ko : Int) == 1) = false ∧ ((ko : Int) == 2) = true ∧ (decide (ko = 1) || decide (ko = 2) || decide (ko = 3)) = true) ∨
      (((ko : Int) == 1) = false ∧ ((ko : Int) == 2) = false ∧ ((ko : Int) == 3) = true ∧ (decide (ko = 1) || decide (ko = 2) || decide (ko = 3)) = true) ∨ (((ko : Int) == 1) = false ∧ ((ko : Int) == 2) = false ∧ ((ko : Int) == 3) = false ∧ (decide (ko = 1) || decide (ko = 2) || decide (ko = 3)) = false) := by
    simp only [beq_iff_eq, beq_eq_false_iff_ne, Bool.or_eq_true, Bool.or_eq_false_iff, decide_eq_true_eq, decide_eq_false_iff_not]; omega
  have EP : (((kp : Int) != 1) = false ∧ decide (kp = 1) = true) ∨ (((kp : Int) != 1) = true ∧ decide (kp = 1) = false) := by
    simp only [bne_iff_ne, bne_eq_false_iff_eq, decide_eq_true_eq, decide_eq_false_iff_not]; omega
  clear gp
  have HO := Lib.hid EO
  have HP := Lib.hid EP
  clear EO EP
  rcases ES with ⟨s1, h⟩ | ⟨s1, s2, h⟩ | ⟨s1, s2, h, h'⟩
  rotate_right
  · have HR : Hid (((decide (ks = 1) || decide (ks = 3)) && decide (kp = 1) && (decide (ko = 1) || decide (ko = 2) || decide (ko = 3))) = false) := Lib.hid (by rw [decide_eq_false h, decide_eq_false h']; rfl)
    clear h h' CP HO HP
    go_wp2_with fail
    go_ret
    exact ⟨by rw [HR.out]; rfl, hbel⟩
  all_goals
    have HR : Hid (((decide (ks = 1) || decide (ks = 3)) && decide (kp = 1) && (decide (ko = 1) || decide (ko = 2) || decide (ko = 3))) = (decide (kp = 1) && (decide (ko = 1) || decide (ko = 2) || decide (ko = 3)))) := Lib.hid (by rw [h]; rfl)
    clear h
    go_wp2_with fail
    refine (CP.out _).mono ?_
    rintro e w3 ⟨rfl, hb3⟩
    have hbel2 := hbel.trans (hb3.mono hbel.size)
    clear hbel hb3
    rcases HP.out with ⟨p1, h⟩ | ⟨p1, h⟩
    rotate_right
    · have HQ : Hid (((decide (ks = 1) || decide (ks = 3)) && decide (kp = 1) && (decide (ko = 1) || decide (ko = 2) || decide (ko = 3))) = false) := Lib.hid (by rw [HR.out, h]; rfl)
      clear h HR HO HP
      go_wp2_with fail
      go_ret
      exact ⟨by rw [HQ.out]; rfl, hbel2⟩
    have HQ : Hid (((decide (ks = 1) || decide (ks = 3)) && decide (kp = 1) && (decide (ko = 1) || decide (ko = 2) || decide (ko = 3))) = (decide (ko = 1) || decide (ko = 2) || decide (ko = 3))) := Lib.hid (by rw [HR.out, h]; rfl)
    clear h HR HP
    rcases HO.out with ⟨o1, h⟩ | ⟨o1, o2, h⟩ | ⟨o1, o2, o3, h⟩ | ⟨o1, o2, o3, h⟩
    all_goals
      have HB := Lib.hid h
      clear h HO
      go_wp2_with fail
      go_ret
      exact ⟨by rw [HQ.out, HB.out]; rfl, hbel2⟩
set_option maxRecDepth 100000 in
set_option maxHeartbeats 1600000 in
theorem specTripleOk (s p o : ByteArray) (hs : s.size ≤ 2097152) (hp : p.size ≤ 2097152) (ho : o.size ≤ 2097152) (w : World) :
    Calls Tryz.prog 96 #[.agg #[.string s, .string p, .string o]] w fun e w' => e = .returned (.bool (triOk s.data.toList p.data.toList o.data.toList)) ∧ Below w.heap.size w w' := by
  have CS' := specKindOf s hs
  have CP' := specKindOf p hp
  have CO' := specKindOf o ho
  unfold triOk
  have gp := kindL_le o.data.toList
  generalize kindL s.data.toList = ks at CS' ⊢
  generalize kindL p.data.toList = kp at CP' ⊢
  generalize kindL o.data.toList = ko at CO' gp ⊢
  have CS := Lib.hid CS'
  have CP := Lib.hid CP'
  have CO := Lib.hid CO'
  clear CS' CP' CO'
  have ES : (((ks : Int) == 1) = true ∧ ks = 1) ∨ (((ks : Int) == 1) = false ∧ ((ks : Int) == 3) = true ∧ ks = 3) ∨ (((ks : Int) == 1) = false ∧ ((ks : Int) == 3) = false ∧ ks ≠ 1 ∧ ks ≠ 3) := by
    simp only [beq_iff_eq, beq_eq_false_iff_ne]; omega
  have EP : (((kp : Int) == 1) = true ∧ decide (kp = 1) = true) ∨ (((kp : Int) == 1) = false ∧ decide (kp = 1) = false) := by
    simp only [beq_iff_eq, beq_eq_false_iff_ne, decide_eq_true_eq, decide_eq_false_iff_not]; omega
  have EO : ((1 : Int) ≤ (ko : Int) ∧ (ko : Int) ≤ 3 ∧ (decide (ko = 1) || decide (ko = 2) || decide (ko = 3)) = true) ∨ ((ko : Int) < 1 ∧ (decide (ko = 1) || decide (ko = 2) || decide (ko = 3)) = false) ∨ ((3 : Int) < (ko : Int) ∧ (decide (ko = 1) || decide (ko = 2) || decide (ko = 3)) = false) := by
    simp only [Bool.or_eq_true, Bool.or_eq_false_iff, decide_eq_true_eq, decide_eq_false_iff_not]; omega
  have HO := Lib.hid EO
  have HP := Lib.hid EP
  have HS := Lib.hid ES
  clear EO EP ES gp
  go_enter Tryz.func96, Tryz.ntmps96
  go_wp2_with fail
  refine (CS.out _).mono ?_
  rintro e w1 ⟨rfl, hb1⟩
  have c1 : w1.cell? ⟨w.heap.size, 1, none⟩ = some (.string p) := by rw [hb1.cell (by simp)]; simp
  have c2 : w1.cell? ⟨w.heap.size, 2, none⟩ = some (.string o) := by rw [hb1.cell (by simp)]; simp
  have hbel : Below w.heap.size w w1 := ((Below.refl _ _).alloc (Nat.le_refl _) _).trans (hb1.mono (by simp))
  have hw1 := World.block_lt_of_cell? _ _ c1
  clear hb1
  go_wp2_with fail
  refine (CO.out _).mono ?_
  rintro e w2 ⟨rfl, hb2⟩
  have c3 : w2.cell? ⟨w.heap.size, 1, none⟩ = some (.string p) := by rw [hb2.cell hw1]; exact c1
  have hbel2 := hbel.trans (hb2.mono hbel.size)
  clear hb2 hbel c1 c2 hw1
  rcases HS.out with ⟨s1, h⟩ | ⟨s1, s2, h⟩ | ⟨s1, s2, h, h'⟩
  rotate_right
  · have HR : Hid (((decide (ks = 1) || decide (ks = 3)) && decide (kp = 1) && (decide (ko = 1) || decide (ko = 2) || decide (ko = 3))) = false) := Lib.hid (by rw [decide_eq_false h, decide_eq_false h']; rfl)
    clear h h' CP HO HP HS
    go_wp2_with fail
    go_ret
    exact ⟨by rw [HR.out]; rfl, hbel2⟩
  all_goals
    have HR : Hid (((decide (ks = 1) || decide (ks = 3)) && decide (kp = 1) && (decide (ko = 1) || decide (ko = 2) || decide (ko = 3))) = (decide (kp = 1) && (decide (ko = 1) || decide (ko = 2) || decide (ko = 3)))) := Lib.hid (by rw [h]; rfl)
    clear h HS
    go_wp2_with fail
    refine (CP.out _).mono ?_
    rintro e w3 ⟨rfl, hb3⟩
    have hbel3 := hbel2.trans (hb3.mono hbel2.size)
    clear hbel2 hb3
    rcases HP.out with ⟨p1, h⟩ | ⟨p1, h⟩
    rotate_right
    · have HQ : Hid (((decide (ks = 1) || decide (ks = 3)) && decide (kp = 1) && (decide (ko = 1) || decide (ko = 2) || decide (ko = 3))) = false) := Lib.hid (by rw [HR.out, h]; rfl)
      clear h HR HO HP
      go_wp2_with fail
      go_ret
      exact ⟨by rw [HQ.out]; rfl, hbel3⟩
    have HQ : Hid (((decide (ks = 1) || decide (ks = 3)) && decide (kp = 1) && (decide (ko = 1) || decide (ko = 2) || decide (ko = 3))) = (decide (ko = 1) || decide (ko = 2) || decide (ko = 3))) := Lib.hid (by rw [HR.out, h]; rfl)
    clear h HR HP
    rcases HO.out with ⟨o1, o2, h⟩ | ⟨o1, h⟩ | ⟨o1, h⟩
    all_goals
      have HB := Lib.hid h
      clear h HO
      go_wp2_with go_in
      go_ret
      exact ⟨by rw [HQ.out, HB.out]; first | rfl | (simp; omega), hbel3⟩
end Go.Proofs.YtiajdnhmjdfeeaaGreat
/- The contracts of the functions on triples that tell which is ahead. -/
namespace Go.Proofs.YtiajdnhmjdfeeaaGreat
open Go.RowKit
def aheadL (s p o s' p' o' : List UInt8) : Bool := if s = s' then (if p = p' then Op.bytesLess o o' else Op.bytesLess p p') else Op.bytesLess s s'
theorem data_inj {a b : ByteArray} (h : a.data.toList = b.data.toList) : a = b := by rw [← bs_of a, ← bs_of b, h]
set_option maxRecDepth 100000 in
theorem implAhead (s p o s' p' o' : ByteArray) (w : World) :
    Calls Tryz.prog 116 #[.agg #[.string s, .string p, .string o], .agg #[.string s', .string p', .string o']] w fun e w' => e = .returned (.bool (aheadL s.data.toList p.data.toList o.data.toList s'.data.toList p'.data.toList o'.data.toList)) ∧ Below w.heap.size w w' := by
  by_cases h1 : s = s'
  · by_cases h2 : p = p'
    · have e1 : (s.toList == s'.toList) = true := by rw [h1]; simp
      have e2 : (p.toList == p'.toList) = true := by rw [h2]; simp
      have HR : Hid (aheadL s.data.toList p.data.toList o.data.toList s'.data.toList p'.data.toList o'.data.toList = Op.bytesLess o.toList o'.toList) := Lib.hid (by
        unfold aheadL; rw [if_pos (by rw [h1]), if_pos (by rw [h2]), ByteArray.toList_eq, ByteArray.toList_eq])
      clear h1 h2
      go_enter Tryz.func116, Tryz.ntmps116
      go_wp2_with fail
      go_ret
      exact ⟨by rw [HR.out]; rfl, ((Below.refl _ _).alloc (Nat.le_refl _) _).alloc (by simp) _⟩
    · have e1 : (s.toList == s'.toList) = true := by rw [h1]; simp
      have e2 : (p.toList == p'.toList) = false := by rw [beq_eq_false_iff_ne, ByteArray.toList_eq, ByteArray.toList_eq]; exact fun h => h2 (data_inj h)
      have HR : Hid (aheadL s.data.toList p.data.toList o.data.toList s'.data.toList p'.data.toList o'.data.toList = Op.bytesLess p.toList p'.toList) := Lib.hid (by
        unfold aheadL; rw [if_pos (by rw [h1]), if_neg (fun h => h2 (data_inj h)), ByteArray.toList_eq, ByteArray.toList_eq])
      clear h1 h2
      go_enter Tryz.func116, Tryz.ntmps116
      go_wp2_with fail
      go_ret
      exact ⟨by rw [HR.out]; rfl, ((Below.refl _ _).alloc (Nat.le_refl _) _).alloc (by simp) _⟩
  · have e1 : (s.toList == s'.toList) = false := by rw [beq_eq_false_iff_ne, ByteArray.toList_eq, ByteArray.toList_eq]; exact fun h => h1 (data_inj h)
    have HR : Hid (aheadL s.data.toList p.data.toList o.data.toList s'.data.toList p'.data.toList o'.data.toList = Op.bytesLess s.toList s'.toList) := Lib.hid (by
      unfold aheadL; rw [if_neg (fun h => h1 (data_inj h)), ByteArray.toList_eq, ByteArray.toList_eq])
    clear h1
    go_enter Tryz.func116, Tryz.ntmps116
    go_wp2_with fail
    go_ret
    exact ⟨by rw [HR.out]; rfl, ((Below.refl _ _).alloc (Nat.le_refl _) _).alloc (by simp) _⟩
set_option maxRecDepth 100000 in
theorem specAhead (s p o s' p' o' : ByteArray) (w : World) :
    Calls Tryz.prog 97 #[.agg #[.string s, .string p, .string o], .agg #[.string s', .string p', .string o']] w fun e w' => e = .returned (.bool (aheadL s.data.toList p.data.toList o.data.toList s'.data.toList p'.data.toList o'.data.toList)) ∧ Below w.heap.size w w' := by
  by_cases h1 : s = s'
  · by_cases h2 : p = p'
    · have e1 : (s.toList == s'.toList) = true := by rw [h1]; simp
      have e2 : (p.toList == p'.toList) = true := by rw [h2]; simp
      have HR : Hid (aheadL s.data.toList p.data.toList o.data.toList s'.data.toList p'.data.toList o'.data.toList = Op.bytesLess o.toList o'.toList) := Lib.hid (by
        unfold aheadL; rw [if_pos (by rw [h1]), if_pos (by rw [h2]), ByteArray.toList_eq, ByteArray.toList_eq])
      clear h1 h2
      go_enter Tryz.func97, Tryz.ntmps97
      go_wp2_with fail
      go_ret
      exact ⟨by rw [HR.out]; rfl, ((Below.refl _ _).alloc (Nat.le_refl _) _).alloc (by simp) _⟩
    · have e1 : (s.toList == s'.toList) = true := by rw [h1]; simp
      have e2 : (p.toList == p'.toList) = false := by rw [beq_eq_false_iff_ne, ByteArray.toList_eq, ByteArray.toList_eq]; exact fun h => h2 (data_inj h)
      have HR : Hid (aheadL s.data.toList p.data.toList o.data.toList s'.data.toList p'.data.toList o'.data.toList = Op.bytesLess p.toList p'.toList) := Lib.hid (by
        unfold aheadL; rw [if_pos (by rw [h1]), if_neg (fun h => h2 (data_inj h)), ByteArray.toList_eq, ByteArray.toList_eq])
      clear h1 h2
      go_enter Tryz.func97, Tryz.ntmps97
      go_wp2_with fail
      go_ret
      exact ⟨by rw [HR.out]; rfl, ((Below.refl _ _).alloc (Nat.le_refl _) _).alloc (by simp) _⟩
  · have e1 : (s.toList == s'.toList) = false := by rw [beq_eq_false_iff_ne, ByteArray.toList_eq, ByteArray.toList_eq]; exact fun h => h1 (data_inj h)
    have HR : Hid (aheadL s.data.toList p.data.toList o.data.toList s'.data.toList p'.data.toList o'.data.toList = Op.bytesLess s.toList s'.toList) := Lib.hid (by
      unfold aheadL; rw [if_neg (fun h => h1 (data_inj h)), ByteArray.toList_eq, ByteArray.toList_eq])
    clear h1
    go_enter Tryz.func97, Tryz.ntmps97
    go_wp2_with fail
    go_ret
    exact ⟨by rw [HR.out]; rfl, ((Below.refl _ _).alloc (Nat.le_refl _) _).alloc (by simp) _⟩
end Go.Proofs.YtiajdnhmjdfeeaaGreat
/- Lists of which each is right, and each ahead of the next: plain facts. -/
namespace Go.Proofs.YtiajdnhmjdfeeaaGreat
def gAt {α : Type} (ok : α → Bool) (ah : α → α → Bool) (ts : List α) (i : Nat) : Bool := match ts[i]? with
  | some t => ok t && (i == 0 || match ts[i - 1]? with | some u => ah u t | none => true)
  | none => true
def gUpto {α : Type} (ok : α → Bool) (ah : α → α → Bool) (ts : List α) (k : Nat) : Bool := (List.range k).all (gAt ok ah ts)
theorem gUpto_succ {α : Type} (ok : α → Bool) (ah : α → α → Bool) (ts : List α) (k : Nat) : gUpto ok ah ts (k + 1) = (gUpto ok ah ts k && gAt ok ah ts k) := by
  unfold gUpto; rw [List.range_succ, List.all_append]; simp
theorem gUpto_no {α : Type} {ok : α → Bool} {ah : α → α → Bool} {ts : List α} {k : Nat} (h : gAt ok ah ts k = false) (hk : k < ts.length) : gUpto ok ah ts ts.length = false := by
  unfold gUpto
  rw [List.all_eq_false]
  exact ⟨k, List.mem_range.2 hk, by rw [h]; simp⟩
theorem gAt_not {α : Type} {ok : α → Bool} {ah : α → α → Bool} {ts : List α} {k : Nat} {t : α} (h : ts[k]? = some t) (ho : ok t = false) : gAt ok ah ts k = false := by unfold gAt; rw [h]; simp [ho]
theorem gAt_zero {α : Type} {ok : α → Bool} {ah : α → α → Bool} {ts : List α} {t : α} (h : ts[0]? = some t) : gAt ok ah ts 0 = ok t := by unfold gAt; rw [h]; simp
theorem gAt_next {α : Type} {ok : α → Bool} {ah : α → α → Bool} {ts : List α} {k : Nat} {t u : α} (h0 : 0 < k) (h : ts[k]? = some t) (hu : ts[k - 1]? = some u) : gAt ok ah ts k = (ok t && ah u t) := by
  have e : (k == 0) = false := by rw [beq_eq_false_iff_ne]; omega
  unfold gAt; rw [h]; simp [hu, e]
theorem gUpto_mem {α : Type} {ok : α → Bool} {ah : α → α → Bool} {ts : List α} (h : gUpto ok ah ts ts.length = true) : ∀ t ∈ ts, ok t = true := by
  intro t ht
  obtain ⟨i, hi⟩ := List.mem_iff_getElem?.1 ht
  have hl := (List.getElem?_eq_some_iff.1 hi).1
  have := List.all_eq_true.1 h i (List.mem_range.2 hl)
  unfold gAt at this
  rw [hi] at this
  simp only [Bool.and_eq_true] at this
  exact this.1
def okT (t : Tri3) : Bool := triOk t.1.data.toList t.2.1.data.toList t.2.2.data.toList
def aheadT (t u : Tri3) : Bool := aheadL t.1.data.toList t.2.1.data.toList t.2.2.data.toList u.1.data.toList u.2.1.data.toList u.2.2.data.toList
def graphOk (ts : List Tri3) : Bool := decide (ts.length ≤ 80) && gUpto okT aheadT ts ts.length
def preT (t : Pre2) : Bool := made t.1.data.toList 4 labB && made t.2.data.toList 12 nameB
def lessP (t u : Pre2) : Bool := Op.bytesLess t.1.toList u.1.toList
def presOk (ts : List Pre2) : Bool := decide (ts.length ≤ 4) && gUpto preT lessP ts ts.length
def Sm (ts : List Tri3) : Prop := ∀ t ∈ ts, t.1.size ≤ 2097152 ∧ t.2.1.size ≤ 2097152 ∧ t.2.2.size ≤ 2097152
def SmP (ts : List Pre2) : Prop := ∀ t ∈ ts, t.1.size ≤ 1048576 ∧ t.2.size ≤ 1048576
end Go.Proofs.YtiajdnhmjdfeeaaGreat
