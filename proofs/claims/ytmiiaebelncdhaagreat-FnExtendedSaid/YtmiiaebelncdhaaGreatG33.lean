/- Rows that make all patterns triples: right graphs, right patterns. -/
import Derived.Test.YtmiiaebelncdhaaGreatG32
import Derived.Test.YtmiiaebelncdhaaGreatG08
import Derived.Test.YtmiiaebelncdhaaGreatG26
import Derived.Test.YtmiiaebelncdhaaGreatG09
import Derived.Test.YtmiiaebelncdhaaGreatG22
import Derived.Test.YtmiiaebelncdhaaGreatG25
import Derived.Test.YtmiiaebelncdhaaGreatG16
namespace Go.Proofs.YtmiiaebelncdhaaGreat
open Go.RowKit Go.WideShapes Go.Maps Go.Sort Go.Shelf
theorem kind_full {l : List UInt8} (h : kindL l ≠ 0) : l ≠ [] := by
  rintro rfl
  exact h (by decide)
theorem okT_kinds {t : Tri3} (h : okT t = true) : (kindL t.1.data.toList = 1 ∨ kindL t.1.data.toList = 3) ∧ kindL t.2.1.data.toList = 1 ∧ (kindL t.2.2.data.toList = 1 ∨ kindL t.2.2.data.toList = 2 ∨ kindL t.2.2.data.toList = 3) := by
  unfold okT triOk at h
  simp only [Bool.and_eq_true, Bool.or_eq_true, decide_eq_true_eq] at h
  obtain ⟨⟨h1, h2⟩, h3⟩ := h
  exact ⟨h1, h2, by omega⟩
theorem okT_noZ {t : Tri3} (h : okT t = true) : NoZt t := by
  obtain ⟨h1, h2, h3⟩ := okT_kinds h
  exact ⟨no_zero (by omega), no_zero (by omega), no_zero (by omega)⟩
theorem okT_plain {t : Tri3} (h : okT t = true) : (isVarK t.1.data.toList = false ∧ isVarK t.2.1.data.toList = false ∧ isVarK t.2.2.data.toList = false) ∧ t.1.data.toList ≠ [] ∧ t.2.1.data.toList ≠ [] ∧ t.2.2.data.toList ≠ [] := by
  obtain ⟨h1, h2, h3⟩ := okT_kinds h
  have hv : ∀ {l : List UInt8}, kindL l ≠ 4 → isVarK l = false := fun h => by unfold isVarK; rw [decide_eq_false_iff_not]; exact h
  exact ⟨⟨hv (by omega), hv (by omega), hv (by omega)⟩, kind_full (by omega), kind_full (by omega), kind_full (by omega)⟩
theorem patT_kinds {t : Tri3} (h : patT t = true) : kindL t.1.data.toList ≠ 0 ∧ kindL t.2.1.data.toList ≠ 0 ∧ kindL t.2.2.data.toList ≠ 0 := by
  unfold patT patOk at h
  simp only [Bool.and_eq_true, Bool.or_eq_true, decide_eq_true_eq, Bool.not_eq_true', decide_eq_false_iff_not] at h
  obtain ⟨⟨h1, h2⟩, h3⟩ := h
  exact ⟨by omega, by omega, h3⟩
theorem patT_noZ {t : Tri3} (h : patT t = true) : NoZt t := by
  obtain ⟨h1, h2, h3⟩ := patT_kinds h
  exact ⟨no_zero h1, no_zero h2, no_zero h3⟩
theorem patT_full {t : Tri3} (h : patT t = true) : t.1.data.toList ≠ [] ∧ t.2.1.data.toList ≠ [] ∧ t.2.2.data.toList ≠ [] := by
  obtain ⟨h1, h2, h3⟩ := patT_kinds h
  exact ⟨kind_full h1, kind_full h2, kind_full h3⟩
theorem bgpOk_iff {ls : List Tri3} : bgpOk ls = true ↔ ls.length ≤ 4 ∧ ∀ p ∈ ls, patT p = true := by
  unfold bgpOk
  rw [Bool.and_eq_true, decide_eq_true_eq, List.all_eq_true]
/-- What is said. -/
def solOk (gs ls : List Tri3) : Bool := graphOk gs && bgpOk ls && (solveM gs ls [[]]).isSome
def solR (gs ls : List Tri3) : List RowV := if (graphOk gs && bgpOk ls) = true then (solveM gs ls [[]]).getD [] else []
theorem contM_rows {g : List Tri3} (hga : SmT g) (hok : ∀ t ∈ g, okT t = true) : ∀ (l : List Tri3) (rows : List RowV) (m : Nat), SmT l → (∀ p ∈ l, patT p = true) → NoZs rows → rows.length ≤ 300 → (∀ r ∈ rows, GoodK m r) → ∀ R, contM g l rows = some R → NoZs R ∧ R.length ≤ 300 ∧ ∀ r ∈ R, GoodK (m + 3 * l.length) r
  | [], rows, m, _, _, hz, hn, hr, R, e => by
    unfold contM at e
    cases e
    exact ⟨hz, hn, hr⟩
  | p :: l, rows, m, hs, hl, hz, hn, hr, R, e => by
    unfold contM at e
    by_cases h : (joinM g p rows).length ≤ 300
    · rw [if_pos h] at e
      have h1 := contM_rows hga hok l (joinM g p rows) (m + 3) (fun q hq => hs q (List.mem_cons_of_mem _ hq)) (fun q hq => hl q (List.mem_cons_of_mem _ hq)) (hz.join (fun t ht => okT_noZ (hok t ht)) (patT_noZ (hl p (List.mem_cons_self ..)))) h
        (GoodK.join hr hga (hs p (List.mem_cons_self ..)) (fun t ht => okT_plain (hok t ht))) R e
      refine ⟨h1.1, h1.2.1, fun r hr => ?_⟩
      have := h1.2.2 r hr
      rwa [show m + 3 + 3 * l.length = m + 3 * (p :: l).length by simp only [List.length_cons]; omega] at this
    · rw [if_neg h] at e
      cases e
theorem goodR_nil : GoodR [] := ⟨fun i j t u _ h => by simp at h, fun u h => by simp at h, fun u h => by simp at h, by simp, fun u h => by simp at h⟩
theorem goodK_nil : GoodK 12 [] := ⟨goodR_nil.1, goodR_nil.2.1, goodR_nil.2.2.1, by simp, goodR_nil.2.2.2.2⟩
theorem noZs_one : NoZs [[]] := fun r hr u hu => by
  obtain rfl : r = [] := by simpa using hr
  simp at hu
/-- Both ways are one. -/
theorem solve_cont {gs ls : List Tri3} (hg : graphOk gs = true) (hl : bgpOk ls = true) : solveM gs ls [[]] = (contM gs ls [[]]).map (addAllR []) := by
  obtain ⟨_, h2, h3⟩ := graphOk_iff.1 hg
  have e : addAllR [] [([] : RowV)] = [[]] := rfl
  have h := solve_is h3.nodup (fun t ht => okT_noZ (h2 t ht)) ls [[]] (fun p hp => patT_noZ ((bgpOk_iff.1 hl).2 p hp)) (Even.one [] goodR_nil.1) noZs_one
  rwa [e] at h
end Go.Proofs.YtmiiaebelncdhaaGreat
/- Solutions: the program's own and the specification's. -/
namespace Go.Proofs.YtmiiaebelncdhaaGreat
open Go.RowKit Go.WideShapes Go.Maps Go.Sort Go.Shelf
theorem SmT.sm {ts : List Tri3} (h : SmT ts) : Sm ts := fun t ht => by
  have := h t ht
  exact ⟨by omega, by omega, by omega⟩
theorem isPres_nil (w : World) : IsPres w none 0 0 [] := .inl ⟨rfl, rfl, rfl, rfl⟩
theorem isRows_nil (w : World) : IsRows w none 0 0 [] := .inl ⟨rfl, rfl, rfl, rfl⟩
theorem solOk_no {gs ls : List Tri3} (h : (graphOk gs && bgpOk ls) = false) : solOk gs ls = false ∧ solR gs ls = [] := by
  unfold solOk solR
  rw [h]
  exact ⟨rfl, rfl⟩
theorem solOk_yes {gs ls : List Tri3} (h : (graphOk gs && bgpOk ls) = true) : solOk gs ls = (solveM gs ls [[]]).isSome ∧ solR gs ls = (solveM gs ls [[]]).getD [] := by
  unfold solOk solR
  rw [h]
  exact ⟨rfl, rfl⟩
set_option maxRecDepth 100000 in
set_option maxHeartbeats 3200000 in
theorem specSolutionsF (a b : Option Addr) (la ca lb cb : Nat) (gs ls : List Tri3) (w : World) (ha : IsTris w a la ca gs) (hb : IsTris w b lb cb ls) (hga : SmT gs) (hgb : SmT ls) :
    Calls Tryz.prog 12 #[.slice a la ca, .slice b lb cb] w fun e w' => ∃ x n c, e = .returned (.tuple #[.slice x n c, .bool (solOk gs ls)]) ∧ OwnF w.heap.size w' (.slice x n c) (solR gs ls) ∧ Below w.heap.size w w' := by
  have A1 := specGraphOk a la ca gs w ha hga.sm
  cases hg : graphOk gs
  · have HS := Lib.hid (solOk_no (gs := gs) (ls := ls) (by rw [hg]; rfl))
    rw [hg] at A1
    have C1 := Lib.hid A1
    clear A1 hg ha hb hga hgb
    go_enter Tryz.func12, Tryz.ntmps12
    go_wp2_with fail
    refine C1.out.mono ?_
    rintro e w1 ⟨rfl, hb1⟩
    go_wp2_with fail
    go_ret2
    exact ⟨none, 0, 0, by rw [HS.out.1]; rfl, by rw [HS.out.2]; exact OwnF.none _ _, hb1⟩
  rw [hg] at A1
  have C1 := Lib.hid A1
  have A2 := fun W (h : Below w.heap.size w W) => specBgpOk b lb cb ls W (hb.next h) hgb.sm
  cases hl : bgpOk ls
  · have HS := Lib.hid (solOk_no (gs := gs) (ls := ls) (by rw [hg, hl]; rfl))
    rw [hl] at A2
    have C2 := Lib.hid A2
    clear A1 A2 hg hl ha hb hga hgb
    go_enter Tryz.func12, Tryz.ntmps12
    go_wp2_with fail
    refine C1.out.mono ?_
    rintro e w1 ⟨rfl, hb1⟩
    go_wp2_with fail
    refine (C2.out _ (by first | exact hb1 | exact hb1.drew)).mono ?_
    rintro e w2 ⟨rfl, hb2⟩
    go_wp2_with fail
    go_ret2
    exact ⟨none, 0, 0, by rw [HS.out.1]; rfl, by rw [HS.out.2]; exact OwnF.none _ _, hb1.trans (hb2.mono hb1.size)⟩
  have HS := Lib.hid (solOk_yes (gs := gs) (ls := ls) (by rw [hg, hl]; rfl))
  rw [hl] at A2
  have C2 := Lib.hid A2
  have hla := (graphOk_iff.1 hg).1
  have hlb := (bgpOk_iff.1 hl).1
  rw [ha.len] at hla
  rw [hb.len] at hlb
  have C3 := Lib.hid (fun W (h : Below w.heap.size w W) => specSolveF a b none la ca lb cb 0 0 gs ls [] W (ha.next h) (hb.next h) (isPres_nil W) hla hlb (by omega) hga hgb (fun u hu => by simp at hu))
  clear A1 A2 hg hl ha hb hga hgb
  go_enter Tryz.func12, Tryz.ntmps12
  go_wp2_with fail
  refine C1.out.mono ?_
  rintro e w1 ⟨rfl, hb1⟩
  go_wp2_with fail
  refine (C2.out _ (by first | exact hb1 | exact hb1.drew)).mono ?_
  rintro e w2 ⟨rfl, hb2⟩
  have B2 := hb1.trans (hb2.mono hb1.size)
  clear hb1 hb2 C1 C2
  go_wp2_with fail
  refine (C3.out _ (by first | exact B2 | exact B2.drew)).mono ?_
  rintro e w3 ⟨x, n, c, rfl, hr, hb3⟩
  have B3 := B2.trans (hb3.mono B2.size)
  have HR := Lib.hid (hr.base B2.size)
  clear hb3 hr B2 C3
  go_wp2_with fail
  go_ret2
  exact ⟨x, n, c, by rw [HS.out.1]; rfl, by rw [HS.out.2]; exact HR.out, B3⟩
theorem specSolutions (a b : Option Addr) (la ca lb cb : Nat) (gs ls : List Tri3) (w : World) (ha : IsTris w a la ca gs) (hb : IsTris w b lb cb ls) (hga : SmT gs) (hgb : SmT ls) :
    Calls Tryz.prog 12 #[.slice a la ca, .slice b lb cb] w fun e w' => ∃ x n c, e = .returned (.tuple #[.slice x n c, .bool (solOk gs ls)]) ∧ IsRows w' x n c (solR gs ls) ∧ Below w.heap.size w w' :=
  (specSolutionsF a b la ca lb cb gs ls w ha hb hga hgb).mono fun _ _ ⟨x, n, c, h1, h2, h3⟩ => ⟨x, n, c, h1, h2.isN, h3⟩
set_option maxRecDepth 100000 in
set_option maxHeartbeats 3200000 in
theorem implSolutions (a b : Option Addr) (la ca lb cb : Nat) (gs ls : List Tri3) (w : World) (ha : IsTris w a la ca gs) (hb : IsTris w b lb cb ls) (hga : SmT gs) (hgb : SmT ls) :
    Calls Tryz.prog 11 #[.slice a la ca, .slice b lb cb] w fun e w' => ∃ v, e = .returned (.tuple #[v, .bool (solOk gs ls)]) ∧ OwnRs w.heap.size w' v (solR gs ls) ∧ Below w.heap.size w w' := by
  have A1 := implGraphOk a la ca gs w ha hga.sm
  cases hg : graphOk gs
  · have HS := Lib.hid (solOk_no (gs := gs) (ls := ls) (by rw [hg]; rfl))
    rw [hg] at A1
    have C1 := Lib.hid A1
    clear A1 hg ha hb hga hgb
    go_enter Tryz.func11, Tryz.ntmps11
    go_wp2_with fail
    refine C1.out.mono ?_
    rintro e w1 ⟨rfl, hb1⟩
    go_wp2_with fail
    go_ret2
    exact ⟨_, by rw [HS.out.1]; rfl, by rw [HS.out.2]; exact OwnRs.none _ _, hb1⟩
  rw [hg] at A1
  have C1 := Lib.hid A1
  have A2 := fun W (h : Below w.heap.size w W) => implBgpOk b lb cb ls W (hb.next h) hgb.sm
  cases hl : bgpOk ls
  · have HS := Lib.hid (solOk_no (gs := gs) (ls := ls) (by rw [hg, hl]; rfl))
    rw [hl] at A2
    have C2 := Lib.hid A2
    clear A1 A2 hg hl ha hb hga hgb
    go_enter Tryz.func11, Tryz.ntmps11
    go_wp2_with fail
    refine C1.out.mono ?_
    rintro e w1 ⟨rfl, hb1⟩
    go_wp2_with fail
    refine (C2.out _ (by first | exact hb1 | exact hb1.drew)).mono ?_
    rintro e w2 ⟨rfl, hb2⟩
    go_wp2_with fail
    go_ret2
    exact ⟨_, by rw [HS.out.1]; rfl, by rw [HS.out.2]; exact OwnRs.none _ _, hb1.trans (hb2.mono hb1.size)⟩
  have HS := Lib.hid (solOk_yes (gs := gs) (ls := ls) (by rw [hg, hl]; rfl))
  rw [hl] at A2
  have C2 := Lib.hid A2
  obtain ⟨hla, hgt, _⟩ := graphOk_iff.1 hg
  obtain ⟨hlb, hpt⟩ := bgpOk_iff.1 hl
  rw [ha.len] at hla
  rw [hb.len] at hlb
  have HB := Lib.hid (solve_cont hg hl)
  have HC : Hid (∀ R, contM gs ls [[]] = some R → NoZs R ∧ R.length ≤ 300 ∧ ∀ r ∈ R, GoodK (12 + 3 * ls.length) r) := Lib.hid (contM_rows hga hgt ls [[]] 12 hgb hpt noZs_one (by simp) (fun r hr => by
    obtain rfl : r = [] := by simpa using hr
    exact goodK_nil))
  have HL := Lib.hid hb.len
  have C3 := Lib.hid (fun W (h : Below w.heap.size w W) => (callsIn_wide (n := 7)).1 (implContinued 7 (Nat.le_refl _) a b none la ca lb cb 0 0 gs ls [] W (ha.next h) (hb.next h) (isPres_nil W) hla hlb (by omega) hga hgb goodR_nil (fun t ht => okT_plain (hgt t ht)) (fun p hp => patT_full (hpt p hp))))
  have hmm := @run_makeMap Tryz.prog
  clear A1 A2 hg hl ha hb hga hgb hgt hpt
  go_enter Tryz.func11, Tryz.ntmps11
  go_wp2_with fail
  refine C1.out.mono ?_
  rintro e w1 ⟨rfl, hb1⟩
  go_wp2_with fail
  refine (C2.out _ (by first | exact hb1 | exact hb1.drew)).mono ?_
  rintro e w2 ⟨rfl, hb2⟩
  have B2 := hb1.trans (hb2.mono hb1.size)
  clear hb1 hb2 C1 C2
  go_wp2_with fail
  refine (C3.out _ (by first | exact B2 | exact B2.drew)).mono ?_
  rintro e w3 ⟨x, n, c, rfl, hr, hb3⟩
  have B3 := B2.trans (hb3.mono B2.size)
  rw [HB.out] at HS
  clear hb3 B2 C3 HB
  cases hc : contM gs ls [[]] with
  | none =>
    rw [hc] at HS
    clear hr
    go_wp2_with fail
    go_ret2
    exact ⟨_, by rw [HS.out.1]; rfl, by rw [HS.out.2]; exact OwnRs.none _ _, B3⟩
  | some R =>
    rw [hc] at hr HS
    obtain ⟨hz, hn, hk⟩ := HC.out R hc
    have hrl := hr.len
    have HKM : Hid (∀ r ∈ R, r.length ≤ 1048576 ∧ (rowTextL r).length ≤ 140737488355328) := Lib.hid (fun r hr => by
      have h1 := (hk r hr).2.2.2.1
      have h2 := rowText_len (hk r hr).2.2.2.2
      have h3 := HL.out
      exact ⟨by omega, by omega⟩)
    have HZ := Lib.hid hz
    have HR := Lib.hid hr
    have OM0 := Lib.hid (OwnMapV.made w3)
    have b4 := (Below.refl w3.heap.size w3).alloc (Nat.le_refl _) (.map #[] 0)
    have B4 := B3.alloc B3.size (.map #[] 0)
    have HB3 := Lib.hid B3.size
    have E2 := Lib.hid (fun W (h : Below (w3.alloc (.map #[] 0)).heap.size (w3.alloc (.map #[] 0)) W) => implPut w3.heap.size 0 [] x n c R W (OM0.out.next h) ((HR.out.next b4).next h) (fun r hr => (HKM.out r hr).2) (by have hh := HR.out.len; simp only [Option.getD_some] at hh; unfold maxLen; omega))
    clear hr hz hk B3 hc HC
    go_wp2_with fail
    refine (E2.out _ (by first | exact Below.refl _ _ | exact Below.drew (Below.refl _ _))).mono ?_
    rintro e w4 ⟨rfl, ⟨us, hl1, hr1, hM1⟩, hg4⟩
    have B5 := B4.grown hg4 B4.size (fun q e => by cases e; exact HB3.out)
    have HE := Lib.hid (fun W (h : Below w4.heap.size w4 W) => implOrdered w3.heap.size (0 + n) R us W hl1 (fun i u r hu hr => (hr1 i u r hu hr).next h) (hM1.next h) HZ.out (by omega) (fun r hr => ⟨(HKM.out r hr).1, by have := (HKM.out r hr).2; unfold maxLen; omega⟩))
    clear hl1 hr1 hM1 hg4 B4 E2 OM0 b4 HR
    go_wp2_with fail
    refine (HE.out _ (by first | exact Below.refl _ _ | exact Below.drew (Below.refl _ _))).mono ?_
    rintro e w5 ⟨v, rfl, ov, hb5⟩
    have hb5' : Below w4.heap.size w4 w5 := by first | exact hb5 | exact (Below.drew (Below.refl _ _)).trans hb5
    have B6 := B5.trans (hb5'.mono B5.size)
    have HF := Lib.hid (ov.base B5.size)
    clear ov hb5 hb5' HE B5
    go_wp2_with fail
    go_ret2
    exact ⟨v, by rw [HS.out.1]; rfl, by rw [HS.out.2]; exact HF.out, B6⟩
end Go.Proofs.YtmiiaebelncdhaaGreat
/- Rows projected once more stay as they are: plain lists. -/
namespace Go.Proofs.YtmiiaebelncdhaaGreat
open Go.RowKit Go.WideShapes
theorem addAllR_back {L : List RowV} (hz : NoZs L) {r : RowV} (hr : r ∈ L) : r ∈ addAllR [] L := by
  have hk : rowTextL r ∈ (addAllR [] L).map rowTextL := by
    rw [addAllR_keys]
    show rowTextL r ∈ putAllS [] (L.map rowTextL)
    rw [putAllS_mem]
    exact .inr (List.mem_map_of_mem hr)
  obtain ⟨s, hs, e⟩ := List.mem_map.1 hk
  have hsL : s ∈ L := by
    rcases addAllR_mem hs with h | h
    · simp at h
    · exact h
  rw [← rowTextL_inj s r (hz s hsL) (hz r hr) e]
  exact hs
theorem addAllR_both {L : List RowV} (hz : NoZs L) : ∀ r, r ∈ addAllR [] L ↔ r ∈ L := fun r => ⟨fun h => by
  rcases addAllR_mem h with h | h
  · simp at h
  · exact h, addAllR_back hz⟩
theorem keepL_twice (names : List Txt) (r : RowV) : keepL names (keepL names r) = keepL names r := by
  unfold keepL
  rw [List.filter_filter]
  congr 1
  funext t
  rw [Bool.and_self]
theorem upto_of_pairs {ts : List Pre2} (ho : ∀ t ∈ ts, pairT t = true) (hr : Asc ts) : gUpto pairT lessP ts ts.length = true := by
  unfold gUpto
  rw [List.all_eq_true]
  intro i hi
  have hi := List.mem_range.1 hi
  unfold gAt
  rw [List.getElem?_eq_getElem hi]
  simp only [Bool.and_eq_true, Bool.or_eq_true, beq_iff_eq]
  refine ⟨ho _ (List.getElem_mem hi), ?_⟩
  by_cases h0 : i = 0
  · exact .inl h0
  · refine .inr ?_
    have hj : i - 1 < ts.length := by omega
    rw [List.getElem?_eq_getElem hj]
    exact hr (i - 1) i _ _ (by omega) (List.getElem?_eq_getElem hj) (List.getElem?_eq_getElem hi)
theorem rowOk_keep {names : List Txt} {r : RowV} (h : rowOk r = true) : rowOk (keepL names r) = true := by
  have h12 := rowOk_most h
  have h0 := h
  unfold rowOk at h ⊢
  rw [Bool.and_eq_true, decide_eq_true_eq] at h ⊢
  refine ⟨Nat.le_trans (keepL_len _ _) h12, upto_of_pairs (fun t ht => gUpto_mem h.2 t (List.mem_filter.1 ht).1) ?_⟩
  rw [asc_iff]
  have ha := asc_iff.1 (asc_of h.2)
  unfold AscP at ha ⊢
  exact List.Pairwise.sublist (List.filter_sublist ..) ha
theorem projL_mem {rs : List RowV} {vs : List ByteArray} {r : RowV} (h : r ∈ projL rs vs) : ∃ s ∈ rs, keepL (txts vs) s = r := by
  unfold projL at h
  rcases addAllR_mem h with h | h
  · simp at h
  · obtain ⟨s, hs, e⟩ := List.mem_map.1 h
    exact ⟨s, hs, e⟩
theorem projL_len (rs : List RowV) (vs : List ByteArray) : (projL rs vs).length ≤ rs.length := by
  unfold projL
  have h := addAllR_len (rs.map (keepL (txts vs))) []
  simpa using h
theorem projL_has {rs : List RowV} {vs : List ByteArray} {r : RowV} (h : r ∈ projL rs vs) {t : Pre2} (ht : t ∈ r) : t.1.data.toList ∈ txts vs := by
  obtain ⟨s, _, rfl⟩ := projL_mem h
  have := (List.mem_filter.1 ht).2
  simpa using this
theorem projOk_twice {rs : List RowV} {vs : List ByteArray} (h : projOk rs vs = true) : projOk (projL rs vs) vs = true := by
  unfold projOk at h ⊢
  rw [Bool.and_eq_true] at h ⊢
  refine ⟨?_, h.2⟩
  have hm := rowsOk_most h.1
  have h1 := h.1
  unfold rowsOkL at h1 ⊢
  rw [Bool.and_eq_true, decide_eq_true_eq, List.all_eq_true] at h1 ⊢
  refine ⟨Nat.le_trans (projL_len rs vs) hm, fun r hr => ?_⟩
  obtain ⟨s, hs, rfl⟩ := projL_mem hr
  exact rowOk_keep (h1.2 s hs)
theorem projL_twice {rs : List RowV} {vs : List ByteArray} (h : projOk rs vs = true) : projL (projL rs vs) vs = projL rs vs := by
  have hz : NoZs rs := by
    unfold projOk at h
    rw [Bool.and_eq_true] at h
    exact rowsOk_noZ h.1
  have hk : NoZs (rs.map (keepL (txts vs))) := fun r hr => by
    obtain ⟨s, hs, rfl⟩ := List.mem_map.1 hr
    exact keepL_noZ (hz s hs)
  have e : (projL rs vs).map (keepL (txts vs)) = projL rs vs := by
    conv => rhs; rw [← List.map_id (projL rs vs)]
    refine List.map_congr_left fun r hr => ?_
    obtain ⟨s, _, rfl⟩ := projL_mem hr
    exact keepL_twice _ _
  have hm := addAllR_both hk
  have hz2 : NoZs (projL rs vs) := fun r hr => hk r ((hm r).1 hr)
  have e2 : projL (projL rs vs) vs = addAllR [] (projL rs vs) := by
    conv => lhs; unfold projL
    rw [show addAllR [] (rs.map (keepL (txts vs))) = projL rs vs from rfl, e]
  rw [e2]
  exact addAllR_same hz2 hk hm
end Go.Proofs.YtmiiaebelncdhaaGreat
