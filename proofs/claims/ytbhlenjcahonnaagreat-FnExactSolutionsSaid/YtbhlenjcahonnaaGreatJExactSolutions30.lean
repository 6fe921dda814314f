/- The contracts of the functions on patterns: which are right, and which lists of them. -/
import Derived.Test.YtbhlenjcahonnaaGreatJExactSolutions11
import Derived.Deep.RegionHeld3
import Derived.Deep.RegionWith
namespace Go.Proofs.YtbhlenjcahonnaaGreat
open Go.RowKit Go.WideShapes
def patOk (s p o : List UInt8) : Bool := (decide (kindL s = 1) || decide (kindL s = 3) || decide (kindL s = 4)) && (decide (kindL p = 1) || decide (kindL p = 4)) && !decide (kindL o = 0)
def patT (t : Tri3) : Bool := patOk t.1.data.toList t.2.1.data.toList t.2.2.data.toList
def bgpOk (ts : List Tri3) : Bool := decide (ts.length ≤ 4) && ts.all patT
theorem pat_step {ts : List Tri3} {k : Nat} {t : Tri3} (h : ts[k]? = some t) (hk : (ts.take k).all patT = true) : (ts.take (k + 1)).all patT = patT t := by
  rw [List.take_add_one, h, List.all_append, hk]; simp
theorem pat_no {ts : List Tri3} {k : Nat} {t : Tri3} (h : ts[k]? = some t) (hp : patT t = false) : ts.all patT = false := by
  rw [List.all_eq_false]
  exact ⟨t, List.mem_of_getElem? h, by rw [hp]; simp⟩
set_option maxRecDepth 100000 in
set_option maxHeartbeats 1600000 in
theorem implPatternOk (s p o : ByteArray) (hs : s.size ≤ 2097152) (hp : p.size ≤ 2097152) (ho : o.size ≤ 2097152) (w : World) :
    Calls Tryz.prog 89 #[.agg #[.string s, .string p, .string o]] w fun e w' => e = .returned (.bool (patOk s.data.toList p.data.toList o.data.toList)) ∧ Below w.heap.size w w' := by
  have CS' := implKindOf s hs
  have CP' := implKindOf p hp
  have CO' := implKindOf o ho
  unfold patOk
  generalize kindL s.data.toList = ks at CS' ⊢
  generalize kindL p.data.toList = kp at CP' ⊢
  generalize kindL o.data.toList = ko at CO' ⊢
  have CS := Lib.hid CS'
  have CP := Lib.hid CP'
  have CO := Lib.hid CO'
  clear CS' CP' CO'
  have ES : (((ks : Int) != 1) = false ∧ (decide (ks = 1) || decide (ks = 3) || decide (ks = 4)) = true) ∨ (((ks : Int) != 1) = true ∧ ((ks : Int) != 3) = false ∧ (decide (ks = 1) || decide (ks = 3) || decide (ks = 4)) = true) ∨
      (((ks : Int) != 1) = true ∧ ((ks : Int) != 3) = true ∧ ((ks : Int) != 4) = false ∧ (decide (ks = 1) || decide (ks = 3) || decide (ks = 4)) = true) ∨ (((ks : Int) != 1) = true ∧ ((ks : Int) != 3) = true ∧ ((ks : Int) != 4) = true ∧ (decide (ks = 1) || decide (ks = 3) || decide (ks = 4)) = false) := by
    simp only [bne_iff_ne, bne_eq_false_iff_eq, Bool.or_eq_true, Bool.or_eq_false_iff, decide_eq_true_eq, decide_eq_false_iff_not]; omega
  have EP : (((kp : Int) != 1) = false ∧ (decide (kp = 1) || decide (kp = 4)) = true) ∨ (((kp : Int) != 1) = true ∧ ((kp : Int) != 4) = false ∧ (decide (kp = 1) || decide (kp = 4)) = true) ∨ (((kp : Int) != 1) = true ∧ ((kp : Int) != 4) = true ∧ (decide (kp = 1) || decide (kp = 4)) = false) := by
    simp only [bne_iff_ne, bne_eq_false_iff_eq, Bool.or_eq_true, Bool.or_eq_false_iff, decide_eq_true_eq, decide_eq_false_iff_not]; omega
  have EO : (((ko : Int) != 0) = true ∧ decide (ko = 0) = false) ∨ (((ko : Int) != 0) = false ∧ decide (ko = 0) = true) := by
    simp only [bne_iff_ne, bne_eq_false_iff_eq, decide_eq_true_eq, decide_eq_false_iff_not]; omega
  have HO := Lib.hid EO
  have HP := Lib.hid EP
  have HS := Lib.hid ES
  clear EO EP ES
  generalize (decide (ks = 1) || decide (ks = 3) || decide (ks = 4)) = qs at HS ⊢
  generalize (decide (kp = 1) || decide (kp = 4)) = qp at HP ⊢
  generalize decide (ko = 0) = qo at HO ⊢
  go_enter Tryz.func89, Tryz.ntmps89
  go_wp2_with fail
  go_region_held3 (fun w' => w'.cell? ⟨w.heap.size, 0, none⟩ = some (.string s) ∧ w'.cell? ⟨w.heap.size, 1, none⟩ = some (.string p) ∧ w'.cell? ⟨w.heap.size, 2, none⟩ = some (.string o))
    (first | go_keep | (go_split_ands; refine ⟨?_, ?_, ?_⟩ <;> (rw [hb2.cell (by first | (simp; done) | exact World.block_lt_of_cell? _ _ (by assumption))]; assumption)) | (go_split_ands; refine ⟨?_, ?_, ?_⟩ <;> (rw [hb1.cell (by first | (simp; done) | exact World.block_lt_of_cell? _ _ (by assumption))]; assumption)))
    (first
      | (go_at_call_of 74 s; refine (CS.out _).mono ?_; rintro e w1 ⟨rfl, hb1⟩)
      | (go_at_call_of 74 p; refine (CP.out _).mono ?_; rintro e w2 ⟨rfl, hb2⟩))
  go_split_ands
  have hbel : Below w.heap.size w w2 := ((((Below.refl _ _).alloc (Nat.le_refl _) _).drew).trans (hb1.mono (by simp))).trans (hb2.mono (by have := hb1.size; simp at this; omega))
  clear hb1 hb2
  rcases HS.out with ⟨s1, hS⟩ | ⟨s1, s2, hS⟩ | ⟨s1, s2, s3, hS⟩ | ⟨s1, s2, s3, hS⟩
  rotate_right
  · subst hS
    clear HO HP HS CO
    go_wp2_with fail
    go_ret
    exact ⟨rfl, hbel⟩
  all_goals
    subst hS
    clear HS
    rcases HP.out with ⟨p1, hP⟩ | ⟨p1, p2, hP⟩ | ⟨p1, p2, hP⟩
    rotate_right
    · subst hP
      clear HO HP CO
      go_wp2_with fail
      go_ret
      exact ⟨rfl, hbel⟩
    all_goals
      subst hP
      clear HP
      go_wp2_with fail
      refine (CO.out _).mono ?_
      rintro e w3 ⟨rfl, hb3⟩
      have hbel2 := hbel.trans (hb3.mono hbel.size)
      clear hbel hb3
      rcases HO.out with ⟨o1, hO⟩ | ⟨o1, hO⟩
      all_goals
        subst hO
        clear HO
        go_wp2_with fail
        go_ret
        exact ⟨rfl, hbel2⟩
set_option maxRecDepth 100000 in
set_option maxHeartbeats 1600000 in
theorem specPattern (s p o : ByteArray) (hs : s.size ≤ 2097152) (hp : p.size ≤ 2097152) (ho : o.size ≤ 2097152) (w : World) :
    Calls Tryz.prog 85 #[.agg #[.string s, .string p, .string o]] w fun e w' => e = .returned (.bool (patOk s.data.toList p.data.toList o.data.toList)) ∧ Below w.heap.size w w' := by
  have CS' := specKindOf s hs
  have CP' := specKindOf p hp
  have CO' := specKindOf o ho
  unfold patOk
  generalize kindL s.data.toList = ks at CS' ⊢
  generalize kindL p.data.toList = kp at CP' ⊢
  generalize kindL o.data.toList = ko at CO' ⊢
  have CS := Lib.hid CS'
  have CP := Lib.hid CP'
  have CO := Lib.hid CO'
  clear CS' CP' CO'
  have ES : (((ks : Int) == 1) = true ∧ (decide (ks = 1) || decide (ks = 3) || decide (ks = 4)) = true) ∨ (((ks : Int) == 1) = false ∧ ((ks : Int) == 3) = true ∧ (decide (ks = 1) || decide (ks = 3) || decide (ks = 4)) = true) ∨
      (((ks : Int) == 1) = false ∧ ((ks : Int) == 3) = false ∧ ((ks : Int) == 4) = true ∧ (decide (ks = 1) || decide (ks = 3) || decide (ks = 4)) = true) ∨ (((ks : Int) == 1) = false ∧ ((ks : Int) == 3) = false ∧ ((ks : Int) == 4) = false ∧ (decide (ks = 1) || decide (ks = 3) || decide (ks = 4)) = false) := by
    simp only [beq_iff_eq, beq_eq_false_iff_ne, Bool.or_eq_true, Bool.or_eq_false_iff, decide_eq_true_eq, decide_eq_false_iff_not]; omega
  have EP : (((kp : Int) == 1) = true ∧ (decide (kp = 1) || decide (kp = 4)) = true) ∨ (((kp : Int) == 1) = false ∧ ((kp : Int) == 4) = true ∧ (decide (kp = 1) || decide (kp = 4)) = true) ∨ (((kp : Int) == 1) = false ∧ ((kp : Int) == 4) = false ∧ (decide (kp = 1) || decide (kp = 4)) = false) := by
    simp only [beq_iff_eq, beq_eq_false_iff_ne, Bool.or_eq_true, Bool.or_eq_false_iff, decide_eq_true_eq, decide_eq_false_iff_not]; omega
  have EO : (((ko : Int) != 0) = true ∧ decide (ko = 0) = false) ∨ (((ko : Int) != 0) = false ∧ decide (ko = 0) = true) := by
    simp only [bne_iff_ne, bne_eq_false_iff_eq, decide_eq_true_eq, decide_eq_false_iff_not]; omega
  have HO := Lib.hid EO
  have HP := Lib.hid EP
  have HS := Lib.hid ES
  clear EO EP ES
  generalize (decide (ks = 1) || decide (ks = 3) || decide (ks = 4)) = qs at HS ⊢
  generalize (decide (kp = 1) || decide (kp = 4)) = qp at HP ⊢
  generalize decide (ko = 0) = qo at HO ⊢
  go_enter Tryz.func85, Tryz.ntmps85
  go_wp2_with fail
  refine (CS.out _).mono ?_
  rintro e w1 ⟨rfl, hb1⟩
  have c1 : w1.cell? ⟨w.heap.size, 1, none⟩ = some (.string p) := by rw [hb1.cell (by simp)]; simp
  have c2 : w1.cell? ⟨w.heap.size, 2, none⟩ = some (.string o) := by rw [hb1.cell (by simp)]; simp
  have hbel : Below w.heap.size w w1 := ((Below.refl _ _).alloc (Nat.le_refl _) _).trans (hb1.mono (by simp))
  have hw1 := World.block_lt_of_cell? _ _ c1
  clear hb1
  go_wp2_with fail
  refine (CP.out _).mono ?_
  rintro e w2 ⟨rfl, hb2⟩
  have c3 : w2.cell? ⟨w.heap.size, 2, none⟩ = some (.string o) := by rw [hb2.cell hw1]; exact c2
  have hbel2 := hbel.trans (hb2.mono hbel.size)
  clear hb2 hbel c1 c2 hw1
  rcases HS.out with ⟨s1, hS⟩ | ⟨s1, s2, hS⟩ | ⟨s1, s2, s3, hS⟩ | ⟨s1, s2, s3, hS⟩
  rotate_right
  · subst hS
    clear HO HP HS CO
    go_wp2_with fail
    go_ret
    exact ⟨rfl, hbel2⟩
  all_goals
    subst hS
    clear HS
    rcases HP.out with ⟨p1, hP⟩ | ⟨p1, p2, hP⟩ | ⟨p1, p2, hP⟩
    rotate_right
    · subst hP
      clear HO HP CO
      go_wp2_with fail
      go_ret
      exact ⟨rfl, hbel2⟩
    all_goals
      subst hP
      clear HP
      go_wp2_with fail
      refine (CO.out _).mono ?_
      rintro e w3 ⟨rfl, hb3⟩
      have hbel3 := hbel2.trans (hb3.mono hbel2.size)
      clear hbel2 hb3
      rcases HO.out with ⟨o1, hO⟩ | ⟨o1, hO⟩
      all_goals
        subst hO
        clear HO
        go_wp2_with fail
        go_ret
        exact ⟨rfl, hbel3⟩
end Go.Proofs.YtbhlenjcahonnaaGreat
/- The contracts of the functions that tell whether a list of patterns is right. -/
namespace Go.Proofs.YtbhlenjcahonnaaGreat
open Go.RowKit Go.WideShapes
set_option maxRecDepth 100000 in
set_option maxHeartbeats 1600000 in
theorem implBgpOk (a : Option Addr) (len cap : Nat) (ts : List Tri3) (w : World) (h : IsTris w a len cap ts) (hsm : Sm ts) :
    Calls Tryz.prog 51 #[.slice a len cap] w fun e w' => e = .returned (.bool (bgpOk ts)) ∧ Below w.heap.size w w' := by
  have hts := h.len
  have hlen : len ≤ 9223372036854775807 := by
    rcases h with ⟨_, rfl, _, _⟩ | ⟨_, _, h1, h2, _⟩
    · omega
    · unfold maxLen at h2; omega
  by_cases g4 : (4 : Int) < len
  · have HG : Hid (bgpOk ts = false) := Lib.hid (by unfold bgpOk; rw [decide_eq_false (by omega)]; rfl)
    clear h hsm hts
    go_enter Tryz.func51, Tryz.ntmps51
    go_wp2_with fail
    go_ret
    exact ⟨by rw [HG.out]; rfl, Below.refl _ _⟩
  have HG : Hid (bgpOk ts = ts.all patT) := Lib.hid (by unfold bgpOk; rw [decide_eq_true (by omega)]; rfl)
  have HT := Lib.hid hts
  have H := Lib.hid h
  have HM := Lib.hid hsm
  clear hts h hsm
  go_enter Tryz.func51, Tryz.ntmps51
  go_wp2_with fail
  go_loopw [10] (fun i wr => ∃ k : Nat, k ≤ len ∧ i = .int .i64 k ∧ Hid ((ts.take k).all patT = true) ∧ Below w.heap.size w wr) (fun i _ => len - (intOf i).toNat)
  case atStart => exact ⟨0, Nat.zero_le _, rfl, Lib.hid rfl, Below.refl _ _⟩
  case round =>
    obtain ⟨k, hk, rfl, hok, hnx⟩ := hrel
    by_cases hlt : k < len
    · obtain ⟨b, off, rfl, hb, hl, hm, hts, hc⟩ := H.out.cells (by omega)
      have ht : ts[k]? = some ts[k] := List.getElem?_eq_getElem (by omega)
      have hmm := HM.out ts[k] (List.getElem_mem _)
      obtain ⟨c0, c1, c2, m0, m1, m2⟩ := hc k _ ht
      clear m0 m1 m2
      rw [← hnx.cell (p := ⟨b, _, none⟩) hb] at c0 c1 c2
      obtain ⟨t, htt⟩ : ∃ t, ts[k] = t := ⟨_, rfl⟩
      rw [htt] at c0 c1 c2 ht hmm
      clear htt
      obtain ⟨s1, s2, s3⟩ := hmm
      have A1 := implPatternOk t.1 t.2.1 t.2.2 s1 s2 s3
      change ∀ w, Calls _ _ _ w fun e w' => e = .returned (.bool (patT t)) ∧ Below w.heap.size w w' at A1
      have l0 : b < wr.heap.size := Nat.lt_of_lt_of_le hb hnx.size
      have T0 := Box.new wr (.string t.1) (.string t.2.1) (.string t.2.2) 79
      cases hq : patT t
      · have HR : Hid (bgpOk ts = false) := Lib.hid (by rw [HG.out]; exact pat_no ht hq)
        rw [hq] at A1
        have C1 := Lib.hid A1
        clear A1 hq ht hts hc hm
        obtain ⟨e0, e1, e2⟩ := T0.cells
        go_wp2_with fail
        refine (C1.out _).mono ?_
        rintro e wn ⟨rfl, hx⟩
        have B : Below w.heap.size w wn := (hnx.alloc hnx.size _).trans (hx.mono (by have := hnx.size; simp; omega))
        clear hx hnx c0 c1 c2 T0 e0 e1 e2
        go_wp2_with fail
        go_ret
        exact ⟨by rw [HR.out]; rfl, B⟩
      · have HN : Hid ((ts.take (k + 1)).all patT = true) := Lib.hid (by rw [pat_step ht hok.out]; exact hq)
        rw [hq] at A1
        have C1 := Lib.hid A1
        clear A1 hq ht hts hc hm
        obtain ⟨e0, e1, e2⟩ := T0.cells
        go_wp2_with fail
        refine (C1.out _).mono ?_
        rintro e wn ⟨rfl, hx⟩
        have B : Below w.heap.size w wn := (hnx.alloc hnx.size _).trans (hx.mono (by have := hnx.size; simp; omega))
        clear hx hnx c0 c1 c2 T0 e0 e1 e2
        go_wp2_with fail
        go_roundw
        case rel => exact ⟨k + 1, by omega, by go_num, HN, B⟩
        case measure => simp [intOf]; omega
    · have HF : Hid (bgpOk ts = true) := Lib.hid (by
        have := hok.out
        rw [List.take_of_length_le (by have := HT.out; omega)] at this
        rw [HG.out]; exact this)
      go_wp2_with fail
      go_ret
      exact ⟨by rw [HF.out]; rfl, hnx⟩
set_option maxRecDepth 100000 in
set_option maxHeartbeats 1600000 in
theorem specBgpOk (a : Option Addr) (len cap : Nat) (ts : List Tri3) (w : World) (h : IsTris w a len cap ts) (hsm : Sm ts) :
    Calls Tryz.prog 47 #[.slice a len cap] w fun e w' => e = .returned (.bool (bgpOk ts)) ∧ Below w.heap.size w w' := by
  have hts := h.len
  have hlen : len ≤ 9223372036854775807 := by
    rcases h with ⟨_, rfl, _, _⟩ | ⟨_, _, h1, h2, _⟩
    · omega
    · unfold maxLen at h2; omega
  have HT := Lib.hid hts
  have H := Lib.hid h
  have HM := Lib.hid hsm
  clear hts h hsm
  go_enter Tryz.func47, Tryz.ntmps47
  go_wp2_with fail
  go_loopw [3] (fun i wr => ∃ k : Nat, k ≤ len ∧ i = .int .i64 k ∧ Hid ((ts.take k).all patT = true) ∧ Below w.heap.size w wr) (fun i _ => len - (intOf i).toNat)
  case atStart => exact ⟨0, Nat.zero_le _, rfl, Lib.hid rfl, Below.refl _ _⟩
  case round =>
    obtain ⟨k, hk, rfl, hok, hnx⟩ := hrel
    by_cases hlt : k < len
    · obtain ⟨b, off, rfl, hb, hl, hm, hts, hc⟩ := H.out.cells (by omega)
      have ht : ts[k]? = some ts[k] := List.getElem?_eq_getElem (by omega)
      have hmm := HM.out ts[k] (List.getElem_mem _)
      obtain ⟨c0, c1, c2, m0, m1, m2⟩ := hc k _ ht
      clear m0 m1 m2
      rw [← hnx.cell (p := ⟨b, _, none⟩) hb] at c0 c1 c2
      obtain ⟨t, htt⟩ : ∃ t, ts[k] = t := ⟨_, rfl⟩
      rw [htt] at c0 c1 c2 ht hmm
      clear htt
      obtain ⟨s1, s2, s3⟩ := hmm
      have A1 := specPattern t.1 t.2.1 t.2.2 s1 s2 s3
      change ∀ w, Calls _ _ _ w fun e w' => e = .returned (.bool (patT t)) ∧ Below w.heap.size w w' at A1
      cases hq : patT t
      · have HR : Hid (bgpOk ts = false) := Lib.hid (by unfold bgpOk; rw [pat_no ht hq, Bool.and_false])
        rw [hq] at A1
        have C1 := Lib.hid A1
        clear A1 hq ht hts hc hm
        go_wp2_with fail
        refine (C1.out _).mono ?_
        rintro e wn ⟨rfl, hx⟩
        have B : Below w.heap.size w wn := hnx.trans (hx.mono hnx.size)
        clear hx hnx c0 c1 c2
        go_wp2_with fail
        go_ret
        exact ⟨by rw [HR.out]; rfl, B⟩
      · have HN : Hid ((ts.take (k + 1)).all patT = true) := Lib.hid (by rw [pat_step ht hok.out]; exact hq)
        rw [hq] at A1
        have C1 := Lib.hid A1
        clear A1 hq ht hts hc hm
        go_wp2_with fail
        refine (C1.out _).mono ?_
        rintro e wn ⟨rfl, hx⟩
        have B : Below w.heap.size w wn := hnx.trans (hx.mono hnx.size)
        clear hx hnx c0 c1 c2
        go_wp2_with fail
        go_roundw
        case rel => exact ⟨k + 1, by omega, by go_num, HN, B⟩
        case measure => simp [intOf]; omega
    · have HF : Hid (bgpOk ts = decide ((len : Int) ≤ 4)) := Lib.hid (by
        have := hok.out
        rw [List.take_of_length_le (by have := HT.out; omega)] at this
        unfold bgpOk
        rw [this, Bool.and_true, HT.out]
        exact decide_eq_decide.2 (by omega))
      by_cases h80 : (len : Int) ≤ 4
      · go_wp2_with fail
        go_ret
        exact ⟨by rw [HF.out, decide_eq_true h80]; rfl, hnx⟩
      · go_wp2_with fail
        go_ret
        exact ⟨by rw [HF.out, decide_eq_false (by omega)]; rfl, hnx⟩
end Go.Proofs.YtbhlenjcahonnaaGreat
