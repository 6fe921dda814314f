/- The contracts of the functions on patterns: which are right, and which lists of them.; The contracts of the functions that tell whether a list of patterns is right.; The variables of patterns: the program's way. -/
import Derived.Test.YtiajdnhmjdfeeaaGreatK08
import Derived.Deep.RegionHeld3
import Derived.Deep.RegionWith
import Derived.Test.YtiajdnhmjdfeeaaGreatK11
import Derived.Test.YtiajdnhmjdfeeaaGreatK10
namespace Go.Proofs.YtiajdnhmjdfeeaaGreat
open Go.RowKit Go.WideShapes
def patOk (s p o : List UInt8) : Bool := (decide (kindL s = 1) || decide (kindL s = 3) || decide (kindL s = 4)) && (decide (kindL p = 1) || decide (kindL p = 4)) && !decide (kindL o = 0)
def patT (t : Tri3) : Bool := patOk t.1.data.toList t.2.1.data.toList t.2.2.data.toList
def bgpOk (ts : List Tri3) : Bool := decide (ts.length ≤ 4) && ts.all patT
theorem pat_step {ts : List Tri3} {k : Nat} {t : Tri3} (h : ts[k]? = some t) (hk : (ts.take k).all patT = true) : (ts.take (k + 1)).all patT = patT t := by
  rw [List.take_add_one, h, List.all_append, hk]; simp
theorem pat_no {ts : List Tri3} {k : Nat} {t : Tri3} (h : ts[k]? = some t) (hp : patT t = false) : ts.all patT = false := by
  rw [List.all_eq_false]
  exact ⟨t, List.mem_of_getElem? h, by rw [hp]; simp⟩
set_option maxRecDepth 100000 in
set_option maxHeartbeats 1600000 in
theorem implPatternOk (s p o : ByteArray) (hs : s.size ≤ 2097152) (hp : p.size ≤ 2097152) (ho : o.size ≤ 2097152) (w : World) :
    Calls Tryz.prog 117 #[.agg #[.string s, .string p, .string o]] w fun e w' => e = .returned (.bool (patOk s.data.toList p.data.toList o.data.toList)) ∧ Below w.heap.size w w' := by
  have CS' := implKindOf s hs
  have CP' := implKindOf p hp
  have CO' := implKindOf o ho
  unfold patOk
  generalize kindL s.data.toList = ks at CS' ⊢
  generalize kindL p.data.toList = kp at CP' ⊢
  generalize kindL o.data.toList = ko at CO' ⊢
  have CS := Lib.hid CS'
  have CP := Lib.hid CP'
  have CO := Lib.hid CO'
  clear CS' CP' CO'
  have ES : (((ks : Int) != 1) = false ∧ (decide (ks = 1) || decide (ks = 3) || decide (ks = 4)) = true) ∨ (((ks : Int) != 1) = true ∧ ((ks : Int) != 3) = false ∧ (decide (ks = 1) || decide (ks = 3) || decide (ks = 4)) = true) ∨
      (((ks : Int) != 1) = true ∧ ((ks : Int) != 3) = true ∧ ((ks : Int) != 4) = false ∧ (decide (ks = 1) || decide (ks = 3) || decide (ks = 4)) = true) ∨ (((ks : Int) != 1) = true ∧ ((ks : Int) != 3) = true ∧ ((ks : Int) != 4) = true ∧ (decide (ks = 1) || decide (ks = 3) || decide (ks = 4)) = false) := by
    simp only [bne_iff_ne, bne_eq_false_iff_eq, Bool.or_eq_true, Bool.or_eq_false_iff, decide_eq_true_eq, decide_eq_false_iff_not]; omega
  have EP : (((kp : Int) != 1) = false ∧ (decide (kp = 1) || decide (kp = 4)) = true) ∨ (((kp : Int) != 1) = true ∧ ((kp : Int) != 4) = false ∧ (decide (kp = 1) || decide (kp = 4)) = true) ∨ (((kp : Int) != 1) = true ∧ ((kp : Int) != 4) = true ∧ (decide (kp = 1) || decide (kp = 4)) = false) := by
    simp only [bne_iff_ne, bne_eq_false_iff_eq, Bool.or_eq_true, Bool.or_eq_false_iff, decide_eq_true_eq, decide_eq_false_iff_not]; omega
  have EO : (((ko : Int) != 0) = true ∧ decide (ko = 0) = false) ∨ (((ko : Int) != 0) = false ∧ decide (ko = 0) = true) := by
    simp only [bne_iff_ne, bne_eq_false_iff_eq, decide_eq_true_eq, decide_eq_false_iff_not]; omega
  have HO := Lib.hid EO
  have HP := Lib.hid EP
  have HS := Lib.hid ES
  clear EO EP ES
  generalize (decide (ks = 1) || decide (ks = 3) || decide (ks = 4)) = qs at HS ⊢
  generalize (decide (kp = 1) || decide (kp = 4)) = qp at HP ⊢
  generalize decide (ko = 0) = qo at HO ⊢
  go_enter Tryz.func117, Tryz.ntmps117
  go_wp2_with fail
  go_region_held3 (fun w' => w'.cell? ⟨w.heap.size, 0, none⟩ = some (.string s) ∧ w'.cell? ⟨w.heap.size, 1, none⟩ = some (.string p) ∧ w'.cell? ⟨w.heap.size, 2, none⟩ = some (.string o))
    (first | go_keep | (go_split_ands; refine ⟨?_, ?_, ?_⟩ <;> (rw [hb2.cell (by first | (simp; done) | exact World.block_lt_of_cell? _ _ (by assumption))]; assumption)) | (go_split_ands; refine ⟨?_, ?_, ?_⟩ <;> (rw [hb1.cell (by first | (simp; done) | exact World.block_lt_of_cell? _ _ (by assumption))]; assumption)))
    (first
      | (go_at_call_of 95 s; refine (CS.out _).mono ?_; rintro e w1 ⟨rfl, hb1⟩)
      | (go_at_call_of 95 p; refine (CP.out _).mono ?_; rintro e w2 ⟨rfl, hb2⟩))
  go_split_ands
  have hbel : Below w.heap.size w w2 := ((((Below.refl _ _).alloc (Nat.le_refl _) _).drew).trans (hb1.mono (by simp))).trans (hb2.mono (by have := hb1.size; simp at this; omega))
  clear hb1 hb2
  rcases HS.out with ⟨s1, hS⟩ | ⟨s1, s2, hS⟩ | ⟨s1, s2, s3, hS⟩ | ⟨s1, s2, s3, hS⟩
  rotate_right
  · subst hS
    clear HO HP HS CO
    go_wp2_with fail
    go_ret
    exact ⟨rfl, hbel⟩
  all_goals
    subst hS
    clear HS
    rcases HP.out with ⟨p1, hP⟩ | ⟨p1, p2, hP⟩ | ⟨p1, p2, hP⟩
    rotate_right
    · subst hP
      clear HO HP CO
      go_wp2_with fail
      go_ret
      exact ⟨rfl, hbel⟩
    all_goals
      subst hP
      clear HP
      go_wp2_with fail
      refine (CO.out _).mono ?_
      rintro e w3 ⟨rfl, hb3⟩
      have hbel2 := hbel.trans (hb3.mono hbel.size)
      clear hbel hb3
      rcases HO.out with ⟨o1, hO⟩ | ⟨o1, hO⟩
      all_goals
        subst hO
        clear HO
        go_wp2_with fail
        go_ret
        exact ⟨rfl, hbel2⟩
set_option maxRecDepth 100000 in
set_option maxHeartbeats 1600000 in
theorem specPattern (s p o : ByteArray) (hs : s.size ≤ 2097152) (hp : p.size ≤ 2097152) (ho : o.size ≤ 2097152) (w : World) :
    Calls Tryz.prog 130 #[.agg #[.string s, .string p, .string o]] w fun e w' => e = .returned (.bool (patOk s.data.toList p.data.toList o.data.toList)) ∧ Below w.heap.size w w' := by
  have CS' := specKindOf s hs
  have CP' := specKindOf p hp
  have CO' := specKindOf o ho
  unfold patOk
  generalize kindL s.data.toList = ks at CS' ⊢
  generalize kindL p.data.toList = kp at CP' ⊢
  generalize kindL o.data.toList = ko at CO' ⊢
  have CS := Lib.hid CS'
  have CP := Lib.hid CP'
  have CO := Lib.hid CO'
  clear CS' CP' CO'
  have ES : (((ks : Int) == 1) = true ∧ (decide (ks = 1) || decide (ks = 3) || decide (ks = 4)) = true) ∨ (((ks : Int) == 1) = false ∧ ((ks : Int) == 3) = true ∧ (decide (ks = 1) || decide (ks = 3) || decide (ks = 4)) = true) ∨
      (((ks : Int) == 1) = false ∧ ((ks : Int) == 3) = false ∧ ((ks : Int) == 4) = true ∧ (decide (ks = 1) || decide (ks = 3) || decide (ks = 4)) = true) ∨ (((ks : Int) == 1) = false ∧ ((ks : Int) == 3) = false ∧ ((ks : Int) == 4) = false ∧ (decide (ks = 1) || decide (ks = 3) || decide (ks = 4)) = false) := by
    simp only [beq_iff_eq, beq_eq_false_iff_ne, Bool.or_eq_true, Bool.or_eq_false_iff, decide_eq_true_eq, decide_eq_false_iff_not]; omega
  have EP : (((kp : Int) == 1) = true ∧ (decide (kp = 1) || decide (kp = 4)) = true) ∨ (((kp : Int) == 1) = false ∧ ((kp : Int) == 4) = true ∧ (decide (kp = 1) || decide (kp = 4)) = true) ∨ (((kp : Int) == 1) = false ∧ ((kp : Int) == 4) = false ∧ (decide (kp = 1) || decide (kp = 4)) = false) := by
    simp only [beq_iff_eq, beq_eq_false_iff_ne, Bool.or_eq_true, Bool.or_eq_false_iff, decide_eq_true_eq, decide_eq_false_iff_not]; omega
  have EO : (((ko : Int) != 0) = true ∧ decide (ko = 0) = false) ∨ (((ko : Int) != 0) = false ∧ decide (ko = 0) = true) := by
    simp only [bne_iff_ne, bne_eq_false_iff_eq, decide_eq_true_eq, decide_eq_false_iff_not]; omega
  have HO := Lib.hid EO
  have HP := Lib.hid EP
  have HS := Lib.hid ES
  clear EO EP ES
  generalize (decide (ks = 1) || decide (ks = 3) || decide (ks = 4)) = qs at HS ⊢
  generalize (decide (kp = 1) || decide (kp = 4)) = qp at HP ⊢
  generalize decide (ko = 0) = qo at HO ⊢
  go_enter Tryz.func130, Tryz.ntmps130
  go_wp2_with fail
  refine (CS.out _).mono ?_
  rintro e w1 ⟨rfl, hb1⟩
  have c1 : w1.cell? ⟨w.heap.size, 1, none⟩ = some (.string p) := by rw [hb1.cell (by simp)]; simp
  have c2 : w1.cell? ⟨w.heap.size, 2, none⟩ = some (.string o) := by rw [hb1.cell (by simp)]; simp
  have hbel : Below w.heap.size w w1 := ((Below.refl _ _).alloc (Nat.le_refl _) _).trans (hb1.mono (by simp))
  have hw1 := World.block_lt_of_cell? _ _ c1
  clear hb1
  go_wp2_with fail
  refine (CP.out _).mono ?_
  rintro e w2 ⟨rfl, hb2⟩
  have c3 : w2.cell? ⟨w.heap.size, 2, none⟩ = some (.string o) := by rw [hb2.cell hw1]; exact c2
  have hbel2 := hbel.trans (hb2.mono hbel.size)
  clear hb2 hbel c1 c2 hw1
  rcases HS.out with ⟨s1, hS⟩ | ⟨s1, s2, hS⟩ | ⟨s1, s2, s3, hS⟩ | ⟨s1, s2, s3, hS⟩
  rotate_right
  · subst hS
    clear HO HP HS CO
    go_wp2_with fail
    go_ret
    exact ⟨rfl, hbel2⟩
  all_goals
    subst hS
    clear HS
    rcases HP.out with ⟨p1, hP⟩ | ⟨p1, p2, hP⟩ | ⟨p1, p2, hP⟩
    rotate_right
    · subst hP
      clear HO HP CO
      go_wp2_with fail
      go_ret
      exact ⟨rfl, hbel2⟩
    all_goals
      subst hP
      clear HP
      go_wp2_with fail
      refine (CO.out _).mono ?_
      rintro e w3 ⟨rfl, hb3⟩
      have hbel3 := hbel2.trans (hb3.mono hbel2.size)
      clear hbel2 hb3
      rcases HO.out with ⟨o1, hO⟩ | ⟨o1, hO⟩
      all_goals
        subst hO
        clear HO
        go_wp2_with fail
        go_ret
        exact ⟨rfl, hbel3⟩
end Go.Proofs.YtiajdnhmjdfeeaaGreat
namespace Go.Proofs.YtiajdnhmjdfeeaaGreat
open Go.RowKit Go.WideShapes
set_option maxRecDepth 100000 in
set_option maxHeartbeats 1600000 in
theorem implBgpOk (a : Option Addr) (len cap : Nat) (ts : List Tri3) (w : World) (h : IsTris w a len cap ts) (hsm : Sm ts) :
    Calls Tryz.prog 74 #[.slice a len cap] w fun e w' => e = .returned (.bool (bgpOk ts)) ∧ Below w.heap.size w w' := by
  have hts := h.len
  have hlen : len ≤ 9223372036854775807 := by
    rcases h with ⟨_, rfl, _, _⟩ | ⟨_, _, h1, h2, _⟩
    · omega
    · unfold maxLen at h2; omega
  by_cases g4 : (4 : Int) < len
  · have HG : Hid (bgpOk ts = false) := Lib.hid (by unfold bgpOk; rw [decide_eq_false (by omega)]; rfl)
    clear h hsm hts
    go_enter Tryz.func74, Tryz.ntmps74
    go_wp2_with fail
    go_ret
    exact ⟨by rw [HG.out]; rfl, Below.refl _ _⟩
  have HG : Hid (bgpOk ts = ts.all patT) := Lib.hid (by unfold bgpOk; rw [decide_eq_true (by omega)]; rfl)
  have HT := Lib.hid hts
  have H := Lib.hid h
  have HM := Lib.hid hsm
  clear hts h hsm
  go_enter Tryz.func74, Tryz.ntmps74
  go_wp2_with fail
  go_loopw [10] (fun i wr => ∃ k : Nat, k ≤ len ∧ i = .int .i64 k ∧ Hid ((ts.take k).all patT = true) ∧ Below w.heap.size w wr) (fun i _ => len - (intOf i).toNat)
  case atStart => exact ⟨0, Nat.zero_le _, rfl, Lib.hid rfl, Below.refl _ _⟩
  case round =>
    obtain ⟨k, hk, rfl, hok, hnx⟩ := hrel
    by_cases hlt : k < len
    · obtain ⟨b, off, rfl, hb, hl, hm, hts, hc⟩ := H.out.cells (by omega)
      have ht : ts[k]? = some ts[k] := List.getElem?_eq_getElem (by omega)
      have hmm := HM.out ts[k] (List.getElem_mem _)
      obtain ⟨c0, c1, c2, m0, m1, m2⟩ := hc k _ ht
      clear m0 m1 m2
      rw [← hnx.cell (p := ⟨b, _, none⟩) hb] at c0 c1 c2
      obtain ⟨t, htt⟩ : ∃ t, ts[k] = t := ⟨_, rfl⟩
      rw [htt] at c0 c1 c2 ht hmm
      clear htt
      obtain ⟨s1, s2, s3⟩ := hmm
      have A1 := implPatternOk t.1 t.2.1 t.2.2 s1 s2 s3
      change ∀ w, Calls _ _ _ w fun e w' => e = .returned (.bool (patT t)) ∧ Below w.heap.size w w' at A1
      have l0 : b < wr.heap.size := Nat.lt_of_lt_of_le hb hnx.size
      have T0 := Box.new wr (.string t.1) (.string t.2.1) (.string t.2.2) 65
      cases hq : patT t
      · have HR : Hid (bgpOk ts = false) := Lib.hid (by rw [HG.out]; exact pat_no ht hq)
        rw [hq] at A1
        have C1 := Lib.hid A1
        clear A1 hq ht hts hc hm
        obtain ⟨e0, e1, e2⟩ := T0.cells
        go_wp2_with fail
        refine (C1.out _).mono ?_
        rintro e wn ⟨rfl, hx⟩
        have B : Below w.heap.size w wn := (hnx.alloc hnx.size _).trans (hx.mono (by have := hnx.size; simp; omega))
        clear hx hnx c0 c1 c2 T0 e0 e1 e2
        go_wp2_with fail
        go_ret
        exact ⟨by rw [HR.out]; rfl, B⟩
      · have HN : Hid ((ts.take (k + 1)).all patT = true) := Lib.hid (by rw [pat_step ht hok.out]; exact hq)
        rw [hq] at A1
        have C1 := Lib.hid A1
        clear A1 hq ht hts hc hm
        obtain ⟨e0, e1, e2⟩ := T0.cells
        go_wp2_with fail
        refine (C1.out _).mono ?_
        rintro e wn ⟨rfl, hx⟩
        have B : Below w.heap.size w wn := (hnx.alloc hnx.size _).trans (hx.mono (by have := hnx.size; simp; omega))
        clear hx hnx c0 c1 c2 T0 e0 e1 e2
        go_wp2_with fail
        go_roundw
        case rel => exact ⟨k + 1, by omega, by go_num, HN, B⟩
        case measure => simp [intOf]; omega
    · have HF : Hid (bgpOk ts = true) := Lib.hid (by
        have := hok.out
        rw [List.take_of_length_le (by have := HT.out; omega)] at this
        rw [HG.out]; exact this)
      go_wp2_with fail
      go_ret
      exact ⟨by rw [HF.out]; rfl, hnx⟩
set_option maxRecDepth 100000 in
set_option maxHeartbeats 1600000 in
theorem specBgpOk (a : Option Addr) (len cap : Nat) (ts : List Tri3) (w : World) (h : IsTris w a len cap ts) (hsm : Sm ts) :
    Calls Tryz.prog 98 #[.slice a len cap] w fun e w' => e = .returned (.bool (bgpOk ts)) ∧ Below w.heap.size w w' := by
  have hts := h.len
  have hlen : len ≤ 9223372036854775807 := by
    rcases h with ⟨_, rfl, _, _⟩ | ⟨_, _, h1, h2, _⟩
    · omega
    · unfold maxLen at h2; omega
  have HT := Lib.hid hts
  have H := Lib.hid h
  have HM := Lib.hid hsm
  clear hts h hsm
  go_enter Tryz.func98, Tryz.ntmps98
  go_wp2_with fail
  go_loopw [3] (fun i wr => ∃ k : Nat, k ≤ len ∧ i = .int .i64 k ∧ Hid ((ts.take k).all patT = true) ∧ Below w.heap.size w wr) (fun i _ => len - (intOf i).toNat)
  case atStart => exact ⟨0, Nat.zero_le _, rfl, Lib.hid rfl, Below.refl _ _⟩
  case round =>
    obtain ⟨k, hk, rfl, hok, hnx⟩ := hrel
    by_cases hlt : k < len
    · obtain ⟨b, off, rfl, hb, hl, hm, hts, hc⟩ := H.out.cells (by omega)
      have ht : ts[k]? = some ts[k] := List.getElem?_eq_getElem (by omega)
      have hmm := HM.out ts[k] (List.getElem_mem _)
      obtain ⟨c0, c1, c2, m0, m1, m2⟩ := hc k _ ht
      clear m0 m1 m2
      rw [← hnx.cell (p := ⟨b, _, none⟩) hb] at c0 c1 c2
      obtain ⟨t, htt⟩ : ∃ t, ts[k] = t := ⟨_, rfl⟩
      rw [htt] at c0 c1 c2 ht hmm
      clear htt
      obtain ⟨s1, s2, s3⟩ := hmm
      have A1 := specPattern t.1 t.2.1 t.2.2 s1 s2 s3
      change ∀ w, Calls _ _ _ w fun e w' => e = .returned (.bool (patT t)) ∧ Below w.heap.size w w' at A1
      cases hq : patT t
      · have HR : Hid (bgpOk ts = false) := Lib.hid (by unfold bgpOk; rw [pat_no ht hq, Bool.and_false])
        rw [hq] at A1
        have C1 := Lib.hid A1
        clear A1 hq ht hts hc hm
        go_wp2_with fail
        refine (C1.out _).mono ?_
        rintro e wn ⟨rfl, hx⟩
        have B : Below w.heap.size w wn := hnx.trans (hx.mono hnx.size)
        clear hx hnx c0 c1 c2
        go_wp2_with fail
        go_ret
        exact ⟨by rw [HR.out]; rfl, B⟩
      · have HN : Hid ((ts.take (k + 1)).all patT = true) := Lib.hid (by rw [pat_step ht hok.out]; exact hq)
        rw [hq] at A1
        have C1 := Lib.hid A1
        clear A1 hq ht hts hc hm
        go_wp2_with fail
        refine (C1.out _).mono ?_
        rintro e wn ⟨rfl, hx⟩
        have B : Below w.heap.size w wn := hnx.trans (hx.mono hnx.size)
        clear hx hnx c0 c1 c2
        go_wp2_with fail
        go_roundw
        case rel => exact ⟨k + 1, by omega, by go_num, HN, B⟩
        case measure => simp [intOf]; omega
    · have HF : Hid (bgpOk ts = decide ((len : Int) ≤ 4)) := Lib.hid (by
        have := hok.out
        rw [List.take_of_length_le (by have := HT.out; omega)] at this
        unfold bgpOk
        rw [this, Bool.and_true, HT.out]
        exact decide_eq_decide.2 (by omega))
      by_cases h80 : (len : Int) ≤ 4
      · go_wp2_with fail
        go_ret
        exact ⟨by rw [HF.out, decide_eq_true h80]; rfl, hnx⟩
      · go_wp2_with fail
        go_ret
        exact ⟨by rw [HF.out, decide_eq_false (by omega)]; rfl, hnx⟩
end Go.Proofs.YtiajdnhmjdfeeaaGreat
namespace Go.Proofs.YtiajdnhmjdfeeaaGreat
open Go.RowKit Go.WideShapes Go.Maps
def wordsT (t : Tri3) : List ByteArray := [t.1, t.2.1, t.2.2]
def varsIn (l : List ByteArray) : List Txt := (l.map fun s => s.data.toList).filter isVarK
def varWords (ts : List Tri3) : List Txt := ts.flatMap fun t => varsIn (wordsT t)
def varsT (ts : List Tri3) : List Txt := if bgpOk ts = true then putAllS [] (varWords ts) else []
theorem varWords_snoc (ts : List Tri3) (t : Tri3) : varWords (ts ++ [t]) = varWords ts ++ varsIn (wordsT t) := by simp [varWords]
theorem varsIn_snoc (l : List ByteArray) (s : ByteArray) : varsIn (l ++ [s]) = varsIn l ++ (if isVarK s.data.toList then [s.data.toList] else []) := by
  unfold varsIn; simp [List.filter_cons]
theorem varsIn_len (l : List ByteArray) : (varsIn l).length ≤ l.length := by
  unfold varsIn; exact Nat.le_trans (List.length_filter_le _ _) (by simp)
theorem varWords_len (ts : List Tri3) : (varWords ts).length ≤ 3 * ts.length := by
  induction ts with
  | nil => simp [varWords]
  | cons t r ih =>
    have h3 : (varsIn (wordsT t)).length ≤ 3 := varsIn_len (wordsT t)
    simp only [varWords, List.flatMap_cons, List.length_append, List.length_cons] at *
    omega
theorem implParts (s p o : ByteArray) (w : World) : Calls Tryz.prog 82 #[.agg #[.string s, .string p, .string o]] w fun e w' => e = .returned (.agg #[.string s, .string p, .string o]) ∧ Below w.heap.size w w' := by
  go_enter Tryz.func82, Tryz.ntmps82
  go_wp2_with fail
  refine bodyPost_ret (v := .agg #[.string s, .string p, .string o]) (by simp [results, Tryz.results82, go_sem, *]) rfl ⟨rfl, ?_⟩
  exact ((Below.refl _ _).alloc (Nat.le_refl _) _).alloc (by simp) _
theorem index30 (s p o : ByteArray) (w : World) : (Instr.index 116 (.agg #[.string s, .string p, .string o]) (.int .i64 0)).run Tryz.prog w = .ok (.string s) w := by kernel_rfl
theorem index31 (s p o : ByteArray) (w : World) : (Instr.index 116 (.agg #[.string s, .string p, .string o]) (.int .i64 1)).run Tryz.prog w = .ok (.string p) w := by kernel_rfl
theorem index32 (s p o : ByteArray) (w : World) : (Instr.index 116 (.agg #[.string s, .string p, .string o]) (.int .i64 2)).run Tryz.prog w = .ok (.string o) w := by kernel_rfl
theorem index3 (s p o : ByteArray) (j : Nat) (x : ByteArray) (h : (wordsT (s, p, o))[j]? = some x) (w : World) : (Instr.index 116 (.agg #[.string s, .string p, .string o]) (.int .i64 (j : Int))).run Tryz.prog w = .ok (.string x) w := by
  have hj : j = 0 ∨ j = 1 ∨ j = 2 := by
    have := (List.getElem?_eq_some_iff.1 h).1
    simp only [wordsT, List.length_cons, List.length_nil] at this; omega
  rcases hj with rfl | rfl | rfl
  · obtain rfl : s = x := by simpa [wordsT] using h
    exact index30 _ _ _ w
  · obtain rfl : p = x := by simpa [wordsT] using h
    exact index31 _ _ _ w
  · obtain rfl : o = x := by simpa [wordsT] using h
    exact index32 _ _ _ w
set_option maxRecDepth 100000 in
set_option maxHeartbeats 3200000 in
theorem implVarsOf (a : Option Addr) (len cap : Nat) (ts : List Tri3) (w : World) (h : IsTris w a len cap ts) (hsm : Sm ts) :
    Calls Tryz.prog 30 #[.slice a len cap] w fun e w' => ∃ v, e = .returned v ∧ OwnS w.heap.size w' v ((varsT ts).map bs) ∧ Below w.heap.size w w' := by
  have C' := implBgpOk a len cap ts w h hsm
  have HL := Lib.hid h.len
  have HM := Lib.hid hsm
  have H := Lib.hid h
  clear h hsm
  unfold varsT
  cases hq : bgpOk ts
  · rw [hq] at C'
    have C := Lib.hid C'
    clear C' hq
    go_enter Tryz.func30, Tryz.ntmps30
    go_wp2_with fail
    refine C.out.mono ?_
    rintro e w1 ⟨rfl, hb⟩
    go_wp2_with fail
    go_ret
    exact ⟨.slice none 0 0, rfl, ⟨rfl, .inl ⟨rfl, rfl⟩⟩, hb⟩
  have hl4 : ts.length ≤ 4 := by unfold bgpOk at hq; simp only [Bool.and_eq_true, decide_eq_true_eq] at hq; exact hq.1
  have hlen : len ≤ 4 := by have := HL.out; omega
  have hmm := @run_makeMap Tryz.prog
  rw [hq] at C'
  have C := Lib.hid C'
  clear C' hq
  go_enter Tryz.func30, Tryz.ntmps30
  go_wp2_with fail
  refine C.out.mono ?_
  rintro e w1 ⟨rfl, hb⟩
  have O0 := Lib.hid (OwnSetS.made w1)
  have B0 := hb.alloc hb.size (.map #[] 0)
  have HB1 := Lib.hid hb.size
  clear hb
  go_wp2_with fail
  clear hmm
  go_loopw [14] (fun i wr => ∃ k n : Nat, k ≤ len ∧ i = .int .i64 k ∧ n ≤ 3 * k ∧ Hid (OwnSetS wr w1.heap.size n (addAllS [] (varWords (ts.take k)))) ∧ Below w.heap.size w wr) (fun i _ => len - (intOf i).toNat)
  case atStart => exact ⟨0, 0, Nat.zero_le _, rfl, Nat.le_refl _, by simpa [varWords, addAllS] using O0, B0⟩
  case round =>
    obtain ⟨k, n, hk, rfl, hn, hown, hnx⟩ := hrel
    clear O0 B0
    by_cases hlt : k < len
    · obtain ⟨b, off, rfl, hb, _, _, hts, hcs⟩ := H.out.cells (by omega)
      have ht : ts[k]? = some (ts[k]'(by omega)) := List.getElem?_eq_getElem (by omega)
      obtain ⟨d0, d1, d2, m0, m1, m2⟩ := hcs k _ ht
      have HS : Hid (varWords (ts.take (k + 1)) = varWords (ts.take k) ++ varsIn (wordsT (ts[k]'(by omega)))) := Lib.hid (by rw [List.take_succ_eq_append_getElem (by omega), varWords_snoc])
      have hsm := HM.out (ts[k]'(by omega)) (List.getElem_mem _)
      rw [← hnx.cell (p := ⟨b, _, none⟩) hb] at d0 d1 d2
      generalize ts[k]'(by omega) = t at ht d0 d1 d2 HS m0 m1 m2 hsm
      obtain ⟨s, p, o⟩ := t
      try simp only at d0 d1 d2
      try simp only at m0 m1 m2
      have hk6 : (0 : Int) ≤ (k : Int) := by omega
      have hk7 : (k : Int) < (len : Int) := by omega
      have E2 := Box.new wr (.string s) (.string p) (.string o) 65
      have B2 := hnx.alloc hnx.size (.cells #[.string s, .string p, .string o] 65)
      have O2 := hown.out.alloc (.cells #[.string s, .string p, .string o] 65)
      obtain ⟨z0, z1, z2⟩ := E2.cells
      have CP := Lib.hid (fun W => implParts s p o W)
      clear ht hts hcs hown hnx
      go_wp2_with fail
      refine (CP.out _).mono ?_
      rintro e w2 ⟨rfl, hb2⟩
      have B3 := B2.trans (hb2.mono B2.size)
      have O3 := Lib.hid (O2.next hb2)
      clear hb2 B2 O2 E2 z0 z1 z2 d0 d1 d2 CP
      have hX : ∀ (j : Nat) (x : ByteArray), (wordsT (s, p, o))[j]? = some x → x.size ≤ 2097152 ∧ x.size ≤ maxLen := by
        intro j x hx
        have hj : j = 0 ∨ j = 1 ∨ j = 2 := by
          have := (List.getElem?_eq_some_iff.1 hx).1
          simp only [wordsT, List.length_cons, List.length_nil] at this; omega
        obtain ⟨q1, q2, q3⟩ := hsm
        try simp only at q1 q2 q3
        rcases hj with rfl | rfl | rfl
        · obtain rfl : s = x := by simpa [wordsT] using hx
          exact ⟨q1, m0⟩
        · obtain rfl : p = x := by simpa [wordsT] using hx
          exact ⟨q2, m1⟩
        · obtain rfl : o = x := by simpa [wordsT] using hx
          exact ⟨q3, m2⟩
      have HX := Lib.hid hX
      clear hX hsm m0 m1 m2
      obtain ⟨base, hbase⟩ : ∃ l, varWords (ts.take k) = l := ⟨_, rfl⟩
      rw [hbase] at HS O3
      clear hbase
      obtain ⟨wd, hwd⟩ : ∃ l, wordsT (s, p, o) = l := ⟨_, rfl⟩
      have hwl : wd.length = 3 := by rw [← hwd]; rfl
      rw [hwd] at HS HX
      have HWD := Lib.hid hwd
      clear hwd
      go_wp2_with fail
      obtain ⟨wo, hwo⟩ : ∃ wo : World, wo = wr := ⟨_, rfl⟩
      go_loopw [20] (fun i w3 => ∃ j m : Nat, j ≤ 3 ∧ i = .int .i64 j ∧ m ≤ n + j ∧ Hid (OwnSetS w3 w1.heap.size m (addAllS [] (base ++ varsIn (wd.take j)))) ∧ Below w.heap.size w w3) (fun i _ => 3 - (intOf i).toNat)
      case atStart => exact ⟨0, n, by omega, rfl, by omega, by simpa [varsIn] using O3, B3⟩
      case round =>
        obtain ⟨j, m, hj, rfl, hm, hown, hnx⟩ := hrel
        clear O3 B3 hwo
        by_cases hlj : j < 3
        · have hxx : wd[j]? = some (wd[j]'(by omega)) := List.getElem?_eq_getElem (by omega)
          obtain ⟨x, hxe⟩ : ∃ x, wd[j]'(by omega) = x := ⟨_, rfl⟩
          have HT1 : Hid (varsIn (wd.take (j + 1)) = varsIn (wd.take j) ++ (if isVarK x.data.toList then [x.data.toList] else [])) := Lib.hid (by rw [List.take_succ_eq_append_getElem (by omega), hxe, varsIn_snoc])
          rw [hxe] at hxx
          obtain ⟨hx1, hx2⟩ := HX.out j x hxx
          have hidx := index3 s p o j x (by rw [HWD.out]; exact hxx)
          have CV' := implIsVar x hx1
          have hj6 : (0 : Int) ≤ (j : Int) := by omega
          have hj7 : (j : Int) < 3 := by omega
          clear hxx hxe
          obtain ⟨bb, hbb⟩ : ∃ bb, isVarK x.data.toList = bb := ⟨_, rfl⟩
          rw [hbb] at CV' HT1
          have CV := Lib.hid CV'
          clear CV' hbb
          go_wp2_with fail
          clear hidx
          refine (CV.out _).mono ?_
          rintro e w4 ⟨rfl, hb4⟩
          have B4 := hnx.trans (hb4.mono hnx.size)
          have O4 := Lib.hid (hown.out.next hb4)
          clear hb4 hnx hown CV
          cases bb
          · have HN : Hid (OwnSetS w4 w1.heap.size m (addAllS [] (base ++ varsIn (wd.take (j + 1))))) := Lib.hid (by rw [HT1.out]; simpa using O4.out)
            clear O4 HT1
            go_wp2_with fail
            go_roundw
            case rel => exact ⟨j + 1, m, by omega, by go_num, by omega, HN, B4⟩
            case measure => simp [intOf]; omega
          · have hml : m < maxLen := by unfold maxLen; omega
            go_wp2_with (at_mapUpdate; refine wpList_putS _ rfl _ _ _ rfl w1.heap.size m (addAllS [] (base ++ varsIn (wd.take j))) rfl O4.out hml x hx2 rfl rfl ?_)
            intro w5 hown5 hg5
            have B5 : Below w.heap.size w w5 := B4.grown hg5 B4.size (fun r e => by cases e; exact HB1.out)
            have HN : Hid (OwnSetS w5 w1.heap.size (m + 1) (addAllS [] (base ++ varsIn (wd.take (j + 1))))) := Lib.hid (by rw [HT1.out]; simp only [if_true]; rw [← List.append_assoc, addAllS_snoc]; exact hown5)
            clear hown5 hg5 O4 B4 HT1
            go_wp2_with fail
            go_roundw
            case rel => exact ⟨j + 1, m + 1, by omega, by go_num, by omega, HN, B5⟩
            case measure => simp [intOf]; omega
        · obtain rfl : j = 3 := by omega
          have HN : Hid (OwnSetS wr w1.heap.size m (addAllS [] (varWords (ts.take (k + 1))))) := Lib.hid (by
            have := hown.out
            rw [List.take_of_length_le (by omega)] at this
            rw [HS.out]; exact this)
          clear hown
          go_wp2_with fail
          go_roundw
          case rel => exact ⟨k + 1, m, by omega, by go_num, by omega, HN, hnx⟩
          case measure => simp [intOf]; omega
    · obtain rfl : k = len := by omega
      have HN : Hid (OwnSetS wr w1.heap.size n (addAllS [] (varWords ts))) := Lib.hid (by
        have := hown.out
        rwa [List.take_of_length_le (by rw [HL.out]; exact Nat.le_refl _)] at this)
      have hlw := varWords_len ts
      have hla := addAllS_len (varWords ts) []
      have SK := Lib.hid (sortedTxt w1.heap.size n (addAllS [] (varWords ts)) wr HN.out (by simp at hla; omega))
      clear hown hla hlw
      go_wp2_with fail
      refine (keysTxt _ _).mono ?_
      rintro e w6 ⟨rfl, rfl⟩
      go_wp2_with fail
      refine SK.out.mono ?_
      rintro e w7 ⟨v, rfl, o7, hb7⟩
      rw [sorted_words] at o7
      have B7 := hnx.trans (hb7.mono hnx.size)
      have O7 := Lib.hid (ownS_base o7 hnx.size)
      clear o7 hb7 SK
      go_wp2_with fail
      go_ret
      exact ⟨v, rfl, by simpa using O7.out, B7⟩
end Go.Proofs.YtiajdnhmjdfeeaaGreat
