/- Solutions: the program's own and the specification's. -/
import Derived.Test.YtbhlenjcahonnaaGreatJExactSolutions41
import Derived.Test.YtbhlenjcahonnaaGreatJExactSolutions27
namespace Go.Proofs.YtbhlenjcahonnaaGreat
open Go.RowKit Go.WideShapes Go.Maps Go.Sort Go.Shelf
theorem SmT.sm {ts : List Tri3} (h : SmT ts) : Sm ts := fun t ht => by
  have := h t ht
  exact ⟨by omega, by omega, by omega⟩
theorem isPres_nil (w : World) : IsPres w none 0 0 [] := .inl ⟨rfl, rfl, rfl, rfl⟩
theorem isRows_nil (w : World) : IsRows w none 0 0 [] := .inl ⟨rfl, rfl, rfl, rfl⟩
theorem solOk_no {gs ls : List Tri3} (h : (graphOk gs && bgpOk ls) = false) : solOk gs ls = false ∧ solR gs ls = [] := by
  unfold solOk solR
  rw [h]
  exact ⟨rfl, rfl⟩
theorem solOk_yes {gs ls : List Tri3} (h : (graphOk gs && bgpOk ls) = true) : solOk gs ls = (solveM gs ls [[]]).isSome ∧ solR gs ls = (solveM gs ls [[]]).getD [] := by
  unfold solOk solR
  rw [h]
  exact ⟨rfl, rfl⟩
set_option maxRecDepth 100000 in
set_option maxHeartbeats 3200000 in
theorem specSolutions (a b : Option Addr) (la ca lb cb : Nat) (gs ls : List Tri3) (w : World) (ha : IsTris w a la ca gs) (hb : IsTris w b lb cb ls) (hga : SmT gs) (hgb : SmT ls) :
    Calls Tryz.prog 13 #[.slice a la ca, .slice b lb cb] w fun e w' => ∃ x n c, e = .returned (.tuple #[.slice x n c, .bool (solOk gs ls)]) ∧ IsRows w' x n c (solR gs ls) ∧ Below w.heap.size w w' := by
  have A1 := specGraphOk a la ca gs w ha hga.sm
  cases hg : graphOk gs
  · have HS := Lib.hid (solOk_no (gs := gs) (ls := ls) (by rw [hg]; rfl))
    rw [hg] at A1
    have C1 := Lib.hid A1
    clear A1 hg ha hb hga hgb
    go_enter Tryz.func13, Tryz.ntmps13
    go_wp2_with fail
    refine C1.out.mono ?_
    rintro e w1 ⟨rfl, hb1⟩
    go_wp2_with fail
    go_ret2
    exact ⟨none, 0, 0, by rw [HS.out.1]; rfl, by rw [HS.out.2]; exact isRows_nil _, hb1⟩
  rw [hg] at A1
  have C1 := Lib.hid A1
  have A2 := fun W (h : Below w.heap.size w W) => specBgpOk b lb cb ls W (hb.next h) hgb.sm
  cases hl : bgpOk ls
  · have HS := Lib.hid (solOk_no (gs := gs) (ls := ls) (by rw [hg, hl]; rfl))
    rw [hl] at A2
    have C2 := Lib.hid A2
    clear A1 A2 hg hl ha hb hga hgb
    go_enter Tryz.func13, Tryz.ntmps13
    go_wp2_with fail
    refine C1.out.mono ?_
    rintro e w1 ⟨rfl, hb1⟩
    go_wp2_with fail
    refine (C2.out _ (by first | exact hb1 | exact hb1.drew)).mono ?_
    rintro e w2 ⟨rfl, hb2⟩
    go_wp2_with fail
    go_ret2
    exact ⟨none, 0, 0, by rw [HS.out.1]; rfl, by rw [HS.out.2]; exact isRows_nil _, hb1.trans (hb2.mono hb1.size)⟩
  have HS := Lib.hid (solOk_yes (gs := gs) (ls := ls) (by rw [hg, hl]; rfl))
  rw [hl] at A2
  have C2 := Lib.hid A2
  have hla := (graphOk_iff.1 hg).1
  have hlb := (bgpOk_iff.1 hl).1
  rw [ha.len] at hla
  rw [hb.len] at hlb
  have C3 := Lib.hid (fun W (h : Below w.heap.size w W) => specSolve a b none la ca lb cb 0 0 gs ls [] W (ha.next h) (hb.next h) (isPres_nil W) hla hlb (by omega) hga hgb (fun u hu => by simp at hu))
  clear A1 A2 hg hl ha hb hga hgb
  go_enter Tryz.func13, Tryz.ntmps13
  go_wp2_with fail
  refine C1.out.mono ?_
  rintro e w1 ⟨rfl, hb1⟩
  go_wp2_with fail
  refine (C2.out _ (by first | exact hb1 | exact hb1.drew)).mono ?_
  rintro e w2 ⟨rfl, hb2⟩
  have B2 := hb1.trans (hb2.mono hb1.size)
  clear hb1 hb2 C1 C2
  go_wp2_with fail
  refine (C3.out _ (by first | exact B2 | exact B2.drew)).mono ?_
  rintro e w3 ⟨x, n, c, rfl, hr, hb3⟩
  have B3 := B2.trans (hb3.mono B2.size)
  have HR := Lib.hid hr
  clear hb3 hr B2 C3
  go_wp2_with fail
  go_ret2
  exact ⟨x, n, c, by rw [HS.out.1]; rfl, by rw [HS.out.2]; exact HR.out, B3⟩
set_option maxRecDepth 100000 in
set_option maxHeartbeats 3200000 in
theorem implSolutions (a b : Option Addr) (la ca lb cb : Nat) (gs ls : List Tri3) (w : World) (ha : IsTris w a la ca gs) (hb : IsTris w b lb cb ls) (hga : SmT gs) (hgb : SmT ls) :
    Calls Tryz.prog 15 #[.slice a la ca, .slice b lb cb] w fun e w' => ∃ v, e = .returned (.tuple #[v, .bool (solOk gs ls)]) ∧ OwnRs w.heap.size w' v (solR gs ls) ∧ Below w.heap.size w w' := by
  have A1 := implGraphOk a la ca gs w ha hga.sm
  cases hg : graphOk gs
  · have HS := Lib.hid (solOk_no (gs := gs) (ls := ls) (by rw [hg]; rfl))
    rw [hg] at A1
    have C1 := Lib.hid A1
    clear A1 hg ha hb hga hgb
    go_enter Tryz.func15, Tryz.ntmps15
    go_wp2_with fail
    refine C1.out.mono ?_
    rintro e w1 ⟨rfl, hb1⟩
    go_wp2_with fail
    go_ret2
    exact ⟨_, by rw [HS.out.1]; rfl, by rw [HS.out.2]; exact OwnRs.none _ _, hb1⟩
  rw [hg] at A1
  have C1 := Lib.hid A1
  have A2 := fun W (h : Below w.heap.size w W) => implBgpOk b lb cb ls W (hb.next h) hgb.sm
  cases hl : bgpOk ls
  · have HS := Lib.hid (solOk_no (gs := gs) (ls := ls) (by rw [hg, hl]; rfl))
    rw [hl] at A2
    have C2 := Lib.hid A2
    clear A1 A2 hg hl ha hb hga hgb
    go_enter Tryz.func15, Tryz.ntmps15
    go_wp2_with fail
    refine C1.out.mono ?_
    rintro e w1 ⟨rfl, hb1⟩
    go_wp2_with fail
    refine (C2.out _ (by first | exact hb1 | exact hb1.drew)).mono ?_
    rintro e w2 ⟨rfl, hb2⟩
    go_wp2_with fail
    go_ret2
    exact ⟨_, by rw [HS.out.1]; rfl, by rw [HS.out.2]; exact OwnRs.none _ _, hb1.trans (hb2.mono hb1.size)⟩
  have HS := Lib.hid (solOk_yes (gs := gs) (ls := ls) (by rw [hg, hl]; rfl))
  rw [hl] at A2
  have C2 := Lib.hid A2
  obtain ⟨hla, hgt, _⟩ := graphOk_iff.1 hg
  obtain ⟨hlb, hpt⟩ := bgpOk_iff.1 hl
  rw [ha.len] at hla
  rw [hb.len] at hlb
  have HB := Lib.hid (solve_cont hg hl)
  have HC : Hid (∀ R, contM gs ls [[]] = some R → NoZs R ∧ R.length ≤ 300 ∧ ∀ r ∈ R, GoodK (12 + 3 * ls.length) r) := Lib.hid (contM_rows hga hgt ls [[]] 12 hgb hpt noZs_one (by simp) (fun r hr => by
    obtain rfl : r = [] := by simpa using hr
    exact goodK_nil))
  have HL := Lib.hid hb.len
  have C3 := Lib.hid (fun W (h : Below w.heap.size w W) => (callsIn_wide (n := 7)).1 (implContinued 7 (Nat.le_refl _) a b none la ca lb cb 0 0 gs ls [] W (ha.next h) (hb.next h) (isPres_nil W) hla hlb (by omega) hga hgb goodR_nil (fun t ht => okT_plain (hgt t ht)) (fun p hp => patT_full (hpt p hp))))
  have hmm := @run_makeMap Tryz.prog
  clear A1 A2 hg hl ha hb hga hgb hgt hpt
  go_enter Tryz.func15, Tryz.ntmps15
  go_wp2_with fail
  refine C1.out.mono ?_
  rintro e w1 ⟨rfl, hb1⟩
  go_wp2_with fail
  refine (C2.out _ (by first | exact hb1 | exact hb1.drew)).mono ?_
  rintro e w2 ⟨rfl, hb2⟩
  have B2 := hb1.trans (hb2.mono hb1.size)
  clear hb1 hb2 C1 C2
  go_wp2_with fail
  refine (C3.out _ (by first | exact B2 | exact B2.drew)).mono ?_
  rintro e w3 ⟨x, n, c, rfl, hr, hb3⟩
  have B3 := B2.trans (hb3.mono B2.size)
  rw [HB.out] at HS
  clear hb3 B2 C3 HB
  cases hc : contM gs ls [[]] with
  | none =>
    rw [hc] at HS
    clear hr
    go_wp2_with fail
    go_ret2
    exact ⟨_, by rw [HS.out.1]; rfl, by rw [HS.out.2]; exact OwnRs.none _ _, B3⟩
  | some R =>
    rw [hc] at hr HS
    obtain ⟨hz, hn, hk⟩ := HC.out R hc
    have hrl := hr.len
    have HKM : Hid (∀ r ∈ R, r.length ≤ 1048576 ∧ (rowTextL r).length ≤ 140737488355328) := Lib.hid (fun r hr => by
      have h1 := (hk r hr).2.2.2.1
      have h2 := rowText_len (hk r hr).2.2.2.2
      have h3 := HL.out
      exact ⟨by omega, by omega⟩)
    have HZ := Lib.hid hz
    have HR := Lib.hid hr
    have OM0 := Lib.hid (OwnMapV.made w3)
    have b4 := (Below.refl w3.heap.size w3).alloc (Nat.le_refl _) (.map #[] 0)
    have B4 := B3.alloc B3.size (.map #[] 0)
    have HB3 := Lib.hid B3.size
    have E2 := Lib.hid (fun W (h : Below (w3.alloc (.map #[] 0)).heap.size (w3.alloc (.map #[] 0)) W) => implPut w3.heap.size 0 [] x n c R W (OM0.out.next h) ((HR.out.next b4).next h) (fun r hr => (HKM.out r hr).2) (by have hh := HR.out.len; simp only [Option.getD_some] at hh; unfold maxLen; omega))
    clear hr hz hk B3 hc HC
    go_wp2_with fail
    refine (E2.out _ (by first | exact Below.refl _ _ | exact Below.drew (Below.refl _ _))).mono ?_
    rintro e w4 ⟨rfl, ⟨us, hl1, hr1, hM1⟩, hg4⟩
    have B5 := B4.grown hg4 B4.size (fun q e => by cases e; exact HB3.out)
    have HE := Lib.hid (fun W (h : Below w4.heap.size w4 W) => implOrdered w3.heap.size (0 + n) R us W hl1 (fun i u r hu hr => (hr1 i u r hu hr).next h) (hM1.next h) HZ.out (by omega) (fun r hr => ⟨(HKM.out r hr).1, by have := (HKM.out r hr).2; unfold maxLen; omega⟩))
    clear hl1 hr1 hM1 hg4 B4 E2 OM0 b4 HR
    go_wp2_with fail
    refine (HE.out _ (by first | exact Below.refl _ _ | exact Below.drew (Below.refl _ _))).mono ?_
    rintro e w5 ⟨v, rfl, ov, hb5⟩
    have hb5' : Below w4.heap.size w4 w5 := by first | exact hb5 | exact (Below.drew (Below.refl _ _)).trans hb5
    have B6 := B5.trans (hb5'.mono B5.size)
    have HF := Lib.hid (ov.base B5.size)
    clear ov hb5 hb5' HE B5
    go_wp2_with fail
    go_ret2
    exact ⟨v, by rw [HS.out.1]; rfl, by rw [HS.out.2]; exact HF.out, B6⟩
end Go.Proofs.YtbhlenjcahonnaaGreat
/- Rows that are marked, and their second look. -/
namespace Go.Proofs.YtbhlenjcahonnaaGreat
open Go.RowKit Go.WideShapes
/-- Only what lies between two blocks, and what is new, is changed. -/
def BetwR (B C : Nat) (w w' : World) : Prop := Below B w w' ∧ ∀ k, C ≤ k → k < w.heap.size → w'.heap[k]? = w.heap[k]?
theorem BetwR.refl (B C : Nat) (w : World) : BetwR B C w w := ⟨Below.refl _ _, fun _ _ _ => rfl⟩
theorem BetwR.grown {B C : Nat} {w wr w' : World} {row : Option Nat} (h : BetwR B C w wr) (hg : wr.grownBy w' row) (hB : B ≤ w.heap.size) (hr : ∀ j, row = some j → B ≤ j ∧ j < C) : BetwR B C w w' :=
  ⟨h.1.grown hg (Nat.le_trans hB h.1.size) (fun j hj => (hr j hj).1), fun k hk hl => (hg.block k (Nat.lt_of_lt_of_le hl h.1.size) (fun e => by have := hr k e.symm; omega)).trans (h.2 k hk hl)⟩
/-- The marks of rows, one behind the other. -/
def marksRs (k0 : Nat) : List RowV → List RowV
  | [] => []
  | r :: rs => marksPK k0 r.length :: marksRs (k0 + 2 * r.length) rs
theorem marksRs_len (rs : List RowV) : ∀ k0, (marksRs k0 rs).length = rs.length := by
  induction rs with
  | nil => intro k0; rfl
  | cons r rs ih => intro k0; simp [marksRs, ih]
theorem marksRs_at : ∀ (rs : List RowV) (k0 i : Nat) (r : RowV), rs[i]? = some r → (marksRs k0 rs)[i]? = some (marksPK (k0 + 2 * totR (rs.take i)) r.length)
  | [], _, i, r, h => by simp at h
  | s :: rs, k0, 0, r, h => by simp at h; subst h; simp [marksRs, totR]
  | s :: rs, k0, i + 1, r, h => by
    have := marksRs_at rs (k0 + 2 * s.length) i r (by simpa using h)
    simp only [marksRs, List.getElem?_cons_succ, List.take_succ_cons]
    rw [this]
    have e : totR (s :: rs.take i) = s.length + totR (rs.take i) := by simp [totR]
    rw [e]
    congr 2
    omega
set_option maxRecDepth 100000 in
set_option maxHeartbeats 1600000 in
theorem markRows (B C n c : Nat) (g : Nat) (rs : List RowV) (us : List Value) (w : World) (h : w.ownsRow B 31 1 (.slice (some ⟨g, 0, none⟩) n c) n us) (hi : InnR B w rs us) (hne : ∀ u ∈ us, ∀ j, u.ownBlock = some j → j ≠ g) (hC : ∀ u ∈ us, ∀ j, u.ownBlock = some j → j < C) (hBw : B ≤ w.heap.size) (hl : n + totR rs ≤ 1048576) (hrs : rs.length = n) (k0 : Nat) (hk0 : 0 < k0) (hk1 : k0 ≤ 4000000) :
    Calls Tryz.prog 19 #[.slice (some ⟨g, 0, none⟩) n c, .int .i64 k0] w fun e w' => e = .returned (.int .i64 ((k0 + 2 * totR rs : Nat) : Int)) ∧ w'.ownsRow B 31 1 (.slice (some ⟨g, 0, none⟩) n c) n us ∧ InnR B w' (marksRs k0 rs) us ∧ BetwR B C w w' := by
  have HT := Lib.hid hrs
  have HC := Lib.hid hC
  have HNE := Lib.hid hne
  have HUL : Hid (us.length = n) := Lib.hid (by have := hi.1; omega)
  have HPW := Lib.hid hi.2.2
  have HI : Hid (∀ j u r, 0 ≤ j → us[j]? = some u → rs[j]? = some r → OwnP B w u r) := Lib.hid (fun j u t _ hu ht => hi.2.1 j u t hu ht)
  have HD : Hid (∀ j u r, j < 0 → us[j]? = some u → (marksRs k0 rs)[j]? = some r → OwnP B w u r) := Lib.hid (fun j u r hj => by omega)
  have O0 := h
  clear h hi hC hrs hne
  go_enter Tryz.func19, Tryz.ntmps19
  go_wp2_with fail
  go_loopw [1, 5] (fun q i wr => ∃ k : Nat, k ≤ n ∧ i = .int .i64 k ∧ q = .int .i64 ((k0 + 2 * totR (rs.take k) : Nat) : Int) ∧ Hid (wr.ownsRow B 31 1 (.slice (some ⟨g, 0, none⟩) n c) n us) ∧ Hid (∀ j u r, k ≤ j → us[j]? = some u → rs[j]? = some r → OwnP B wr u r) ∧ Hid (∀ j u r, j < k → us[j]? = some u → (marksRs k0 rs)[j]? = some r → OwnP B wr u r) ∧ Hid (BetwR B C w wr)) (fun _ i _ => n - (intOf i).toNat)
  case atStart => exact ⟨0, Nat.zero_le _, rfl, by simp [totR], Lib.hid O0, HI, HD, Lib.hid (BetwR.refl _ _ _)⟩
  case round =>
    obtain ⟨k, hk, rfl, rfl, hown, hin, hdn, hbt⟩ := hrel
    clear O0 HI HD
    have hk6 : (0 : Int) ≤ (k : Int) := by omega
    by_cases hlt : k < n
    · have hk7 : (k : Int) < (n : Int) := by omega
      have hu : us[k]? = some (us[k]'(by have := HUL.out; omega)) := List.getElem?_eq_getElem _
      have ht : rs[k]? = some (rs[k]'(by have := HT.out; omega)) := List.getElem?_eq_getElem _
      have hcu := HC.out _ (List.mem_of_getElem? hu)
      have hnu := HNE.out _ (List.mem_of_getElem? hu)
      have hou := hin.out k _ _ (Nat.le_refl _) hu ht
      have hpw : Hid (∀ j u', j ≠ k → us[j]? = some u' → ∀ b, (us[k]'(by have := HUL.out; omega)).ownBlock = some b → u'.ownBlock ≠ some b) := Lib.hid (fun j u' hj hu' b hb => by
        have hjl := (List.getElem?_eq_some_iff.1 hu').1
        have hkl : k < us.length := by have := HUL.out; omega
        have eu := (List.getElem?_eq_some_iff.1 hu').2
        rcases Nat.lt_or_gt_of_ne hj with h1 | h1
        · intro e
          have := (List.pairwise_iff_getElem.1 HPW.out) j k hjl hkl h1 b (by rw [eu]; exact e)
          exact this hb
        · have := (List.pairwise_iff_getElem.1 HPW.out) k j hkl hjl h1 b hb
          rw [eu] at this
          exact this)
      have HS : Hid (totR (rs.take (k + 1)) = totR (rs.take k) + (rs[k]'(by have := HT.out; omega)).length) := Lib.hid (by rw [List.take_succ_eq_append_getElem (by have := HT.out; omega), totR_snoc])
      have HMK := Lib.hid (marksRs_at rs k0 k _ ht)
      have hle := totR_take rs (k + 1)
      have c0 : wr.cell? ⟨g, k, none⟩ = some (us[k]'(by have := HUL.out; omega)) := by rw [hown.out.cellAt _ (by omega), hu]
      generalize us[k]'(by have := HUL.out; omega) = u at hu hcu hnu hou hpw c0
      generalize rs[k]'(by have := HT.out; omega) = r at ht hou HS HMK
      have hrl : r.length ≤ 1048576 := by have := HS.out; omega
      obtain ⟨ua, un, uc, rfl⟩ : ∃ a n c, u = .slice a n c := by
        rcases hou.2 with ⟨rfl, _⟩ | ⟨g', cap, cur, rfl, _⟩
        · exact ⟨_, _, _, rfl⟩
        · exact ⟨_, _, _, rfl⟩
      have MK := markPairK B (.slice ua un uc) r wr hou hrl (k0 + 2 * totR (rs.take k)) (by omega) (by have := HS.out; omega)
      obtain ⟨q, hq⟩ : ∃ q : Nat, k0 + 2 * totR (rs.take k) = q := ⟨_, rfl⟩
      rw [hq] at MK HMK
      have HQ : Hid (k0 + 2 * totR (rs.take (k + 1)) = q + 2 * r.length) := Lib.hid (by have := HS.out; omega)
      rw [hq]
      have HM := Lib.hid MK
      have HU := Lib.hid hu
      have HLT := Lib.hid (World.ownsRow.lt hou)
      have HCU := Lib.hid hcu
      have HNU := Lib.hid hnu
      clear MK hou hq hle HS ht hu hcu hnu
      go_wp2_with fail
      refine HM.out.mono ?_
      rintro e w1 ⟨rfl, o1, hg⟩
      have O9 : Hid (w1.ownsRow B 31 1 (.slice (some ⟨g, 0, none⟩) n c) n us) := Lib.hid (hown.out.kept hg (.inr (by
        intro e
        exact HNU.out g (by rw [← e]; simp [Value.ownBlock]) rfl)))
      have T9 := Lib.hid (hbt.out.grown hg hBw (fun j hj => ⟨(HLT.out j hj).1, HCU.out j hj⟩))
      have keep : ∀ (j : Nat) (u' : Value) (r' : RowV), j ≠ k → us[j]? = some u' → OwnP B wr u' r' → OwnP B w1 u' r' := fun j u' r' hj hu' ho => World.ownsRow.kept ho hg (by
        rcases hb : u'.ownBlock with _ | b
        · exact .inl rfl
        · exact .inr (fun e => hpw.out j u' hj hu' b e.symm hb))
      have N9 : Hid (∀ j u r, k + 1 ≤ j → us[j]? = some u → rs[j]? = some r → OwnP B w1 u r) := Lib.hid (fun j u r hj hu ht => keep j u r (by omega) hu (hin.out j u r (by omega) hu ht))
      have D9 : Hid (∀ j u r, j < k + 1 → us[j]? = some u → (marksRs k0 rs)[j]? = some r → OwnP B w1 u r) := Lib.hid (fun j u r' hj hu ht => by
        by_cases e : j = k
        · subst e
          rw [HU.out] at hu
          cases hu
          rw [HMK.out] at ht
          cases ht
          exact o1
        · exact keep j u r' e hu (hdn.out j u r' (by omega) hu ht))
      clear hg o1 keep hown hin hdn hbt HM
      go_wp2_with fail
      go_roundw
      case rel => exact ⟨k + 1, by omega, by go_num, (by rw [HQ.out]; congr 1), O9, N9, D9, T9⟩
      case measure => simp [intOf]; omega
    · obtain rfl : k = n := by omega
      have e : rs.take k = rs := List.take_of_length_le (by rw [HT.out]; exact Nat.le_refl _)
      rw [e]
      go_wp2_with fail
      go_ret
      refine ⟨rfl, hown.out, ⟨by rw [marksRs_len, HT.out]; exact HUL.out, fun i u r hu hr => hdn.out i u r ?_ hu hr, HPW.out⟩, hbt.out⟩
      have := (List.getElem?_eq_some_iff.1 hu).1
      have := HUL.out
      omega
set_option maxRecDepth 100000 in
set_option maxHeartbeats 1600000 in
theorem heldRows (a : Option Addr) (n cap : Nat) (rs : List RowV) (w : World) (k0 : Nat) (h : IsRows w a n cap (marksRs k0 rs)) (hl : n + totR rs ≤ 1048576) (hk0 : 0 < k0) (hk1 : k0 ≤ 4000000) :
    Calls Tryz.prog 20 #[.slice a n cap, .int .i64 k0] w fun e w' => e = .returned (.int .i64 ((k0 + 2 * totR rs : Nat) : Int)) ∧ Below w.heap.size w w' := by
  have hlen : rs.length = n := by have := h.len; rwa [marksRs_len] at this
  have H := Lib.hid h
  have HT := Lib.hid hlen
  clear h hlen
  go_enter Tryz.func20, Tryz.ntmps20
  go_wp2_with fail
  go_loopw [1, 5] (fun q i wr => ∃ k : Nat, k ≤ n ∧ i = .int .i64 k ∧ q = .int .i64 ((k0 + 2 * totR (rs.take k) : Nat) : Int) ∧ Below w.heap.size w wr) (fun _ i _ => n - (intOf i).toNat)
  case atStart => exact ⟨0, Nat.zero_le _, rfl, by simp [totR], Below.refl _ _⟩
  case round =>
    obtain ⟨k, hk, rfl, rfl, hnx⟩ := hrel
    have hk6 : (0 : Int) ≤ (k : Int) := by omega
    by_cases hlt : k < n
    · have hk7 : (k : Int) < (n : Int) := by omega
      obtain ⟨b, off, rfl, hb, _, _, _, hc⟩ := (H.out.next hnx).cells (by omega)
      have ht : rs[k]? = some (rs[k]'(by have := HT.out; omega)) := List.getElem?_eq_getElem _
      obtain ⟨ua, un, uc, c0, hz⟩ := hc k _ (marksRs_at rs k0 k _ ht)
      have HS : Hid (totR (rs.take (k + 1)) = totR (rs.take k) + (rs[k]'(by have := HT.out; omega)).length) := Lib.hid (by rw [List.take_succ_eq_append_getElem (by have := HT.out; omega), totR_snoc])
      have hle := totR_take rs (k + 1)
      generalize rs[k]'(by have := HT.out; omega) = r at ht hz HS
      obtain rfl : un = r.length := by have := hz.len; rw [marksPK_len] at this; exact this.symm
      have HK := heldPairK ua r.length uc wr (k0 + 2 * totR (rs.take k)) hz (by have := HS.out; omega) (by omega) (by have := HS.out; omega)
      obtain ⟨q, hq⟩ : ∃ q : Nat, k0 + 2 * totR (rs.take k) = q := ⟨_, rfl⟩
      rw [hq] at HK
      have HQ : Hid (k0 + 2 * totR (rs.take (k + 1)) = q + 2 * r.length) := Lib.hid (by have := HS.out; omega)
      rw [hq]
      have HH := Lib.hid HK
      have hn0 : ¬ ((q + 2 * r.length : Nat) : Int) < 0 := by omega
      clear HK hq hle HS ht hz hc
      go_wp2_with fail
      refine HH.out.mono ?_
      rintro e w1 ⟨rfl, hb1⟩
      have B1 := hnx.trans (hb1.mono hnx.size)
      clear hb1 hnx HH c0
      go_wp2_with fail
      go_roundw
      case rel => exact ⟨k + 1, by omega, by go_num, (by rw [HQ.out]; congr 1), B1⟩
      case measure => simp [intOf]; omega
    · obtain rfl : k = n := by omega
      have e : rs.take k = rs := List.take_of_length_le (by rw [HT.out]; exact Nat.le_refl _)
      rw [e]
      go_wp2_with fail
      go_ret
      exact ⟨rfl, hnx⟩
end Go.Proofs.YtbhlenjcahonnaaGreat
