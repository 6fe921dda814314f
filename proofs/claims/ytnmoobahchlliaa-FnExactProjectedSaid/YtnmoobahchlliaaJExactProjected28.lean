/- Rows projected: the program's own. -/
import Derived.Test.YtnmoobahchlliaaJExactProjected27
namespace Go.Proofs.Ytnmoobahchlliaa
open Go.RowKit Go.WideShapes Go.Maps
def txts (l : List ByteArray) : List Txt := l.map fun s => s.data.toList
def varsOkL (l : List ByteArray) : Bool := (txts l).all isVarK
def projOk (rs : List RowV) (vs : List ByteArray) : Bool := rowsOkL rs && varsOkL vs
def projL (rs : List RowV) (vs : List ByteArray) : List RowV := addAllR [] (rs.map (keepL (txts vs)))
/-- What projecting answers. -/
def projR (rs : List RowV) (vs : List ByteArray) : List RowV := if projOk rs vs = true then projL rs vs else []
theorem projR_no {rs : List RowV} {vs : List ByteArray} (h : projOk rs vs = false) : projR rs vs = [] := by unfold projR; rw [h]; rfl
theorem projR_yes {rs : List RowV} {vs : List ByteArray} (h : projOk rs vs = true) : projR rs vs = projL rs vs := by unfold projR; rw [if_pos h]
theorem txts_snoc (l : List ByteArray) (x : ByteArray) : txts (l ++ [x]) = txts l ++ [x.data.toList] := by simp [txts]
theorem txts_len (l : List ByteArray) : (txts l).length = l.length := by simp [txts]
theorem varsOk_step {vs : List ByteArray} {k : Nat} {x : ByteArray} (ha : (txts (vs.take k)).all isVarK = true) (hx : vs.take (k + 1) = vs.take k ++ [x]) (hb : isVarK x.data.toList = true) : (txts (vs.take (k + 1))).all isVarK = true := by
  rw [hx, txts_snoc, List.all_append, ha]
  simp [hb]
theorem varsOk_not {vs : List ByteArray} {x : ByteArray} (h : x ∈ vs) (hb : isVarK x.data.toList = false) : varsOkL vs = false := by
  unfold varsOkL
  rw [List.all_eq_false]
  exact ⟨_, List.mem_map_of_mem (f := fun s : ByteArray => s.data.toList) h, by simp [hb]⟩
theorem keepL_same (names : List Txt) (r : RowV) : keepL (addAllS [] names) r = keepL names r := by
  unfold keepL
  apply List.filter_congr
  intro t _
  exact decide_eq_decide.2 (by rw [addAllS_mem]; simp)
theorem rowText_len : ∀ {r : RowV}, SmP r → (rowTextL r).length ≤ r.length * 4194304
  | [], _ => by simp [rowTextL]
  | t :: r, h => by
    have e : rowTextL (t :: r) = (wordZ t.1 ++ wordZ t.2) ++ rowTextL r := rfl
    have h1 := rowText_len (r := r) (fun u hu => h u (List.mem_cons_of_mem _ hu))
    have h2 := h t (List.mem_cons_self ..)
    rw [e, List.length_append, List.length_append, wordZ_len, wordZ_len, List.length_cons]
    omega
theorem rowOk_most {ts : List Pre2} (h : rowOk ts = true) : ts.length ≤ 12 := by
  unfold rowOk at h; simp only [Bool.and_eq_true, decide_eq_true_eq] at h; exact h.1
theorem rowsOk_row {rs : List RowV} (h : rowsOkL rs = true) {r : RowV} (hr : r ∈ rs) : r.length ≤ 12 := by
  unfold rowsOkL at h
  simp only [Bool.and_eq_true, List.all_eq_true] at h
  exact rowOk_most (h.2 r hr)
theorem rowsOk_most {rs : List RowV} (h : rowsOkL rs = true) : rs.length ≤ 300 := by
  unfold rowsOkL at h
  simp only [Bool.and_eq_true, decide_eq_true_eq] at h
  exact h.1
/-- A row for each text. -/
theorem picked (ks : List RowV) (hz : ∀ r ∈ ks, ∀ t ∈ r, NoZ t) : ∃ row : Txt → RowV, (∀ r ∈ ks, row (rowTextL r) = r) ∧ ((addAllS [] (ks.map rowTextL)).mergeSort leB).map row = addAllR [] ks := by
  have h1 : ∀ r ∈ ks, (ks.find? fun s => decide (rowTextL s = rowTextL r)).getD [] = r := by
    intro r hr
    cases hf : ks.find? fun s => decide (rowTextL s = rowTextL r) with
    | none =>
      have := List.find?_eq_none.1 hf r hr
      simp at this
    | some s =>
      have h2 := List.find?_some hf
      have h3 := List.mem_of_find?_eq_some hf
      simp only [decide_eq_true_eq] at h2
      exact rowTextL_inj s r (hz s h3) (hz r hr) h2
  refine ⟨fun t => (ks.find? fun r => decide (rowTextL r = t)).getD [], h1, ?_⟩
  rw [sorted_words]
  have h4 : ∀ t ∈ putAllS [] (ks.map rowTextL), ∃ r, r ∈ ks ∧ rowTextL r = t := by
    intro t ht
    rcases putAllS_mem.1 ht with h | h
    · simp at h
    · exact List.mem_map.1 h
  refine rows_of_keys (fun x hx => ?_) (fun x hx => ?_) ?_
  · obtain ⟨t, ht, rfl⟩ := List.mem_map.1 hx
    obtain ⟨r, hr, rfl⟩ := h4 t ht
    rw [h1 r hr]
    exact hz r hr
  · rcases addAllR_mem hx with h | h
    · simp at h
    · exact hz x h
  · rw [addAllR_keys, List.map_map]
    show _ = putAllS [] (ks.map rowTextL)
    conv => rhs; rw [← List.map_id (putAllS [] (ks.map rowTextL))]
    refine List.map_congr_left fun t ht => ?_
    obtain ⟨r, hr, rfl⟩ := h4 t ht
    show rowTextL ((ks.find? fun s => decide (rowTextL s = rowTextL r)).getD []) = _
    rw [h1 r hr]
    rfl
/-- What was put, told in order. -/
theorem implOrdered (b m : Nat) (ks : List RowV) (us : List Value) (w : World) (hl : us.length = ks.length) (hr : ∀ (i : Nat) (u : Value) (r : RowV), us[i]? = some u → ks[i]? = some r → RowIn w u r) (hM : OwnMapV w b m (putV [] ks us))
    (hz : ∀ r ∈ ks, ∀ t ∈ r, NoZ t) (hn : ks.length ≤ 1000000) (hs : ∀ r ∈ ks, r.length ≤ 1048576 ∧ (rowTextL r).length ≤ maxLen) :
    Calls Try.prog 41 #[.map (some b)] w fun e w' => ∃ v, e = .returned v ∧ OwnRs w.heap.size w' v (addAllR [] ks) ∧ Below w.heap.size w w' := by
  obtain ⟨row, h1, h2⟩ := picked ks hz
  have hk := putV_keys ks us [] hl
  have hkl : (putV [] ks us).length ≤ 1000000 := by
    have e := congrArg List.length hk
    have := addAllS_len (ks.map rowTextL) []
    rw [List.length_map] at e
    simp only [List.map_nil, List.length_nil, List.length_map] at e this
    omega
  have hp : ∀ p ∈ putV [] ks us, RowIn w p.2 (row p.1) ∧ ((row p.1).length ≤ 1048576 ∧ p.1.length ≤ maxLen) := by
    intro p hp
    rcases putV_from ks us [] p hl hp with hp | ⟨i, r, q1, q2, q3⟩
    · simp at hp
    · have hm := List.mem_of_getElem? q2
      rw [← q3, h1 r hm]
      exact ⟨hr i p.2 r q1 q2, hs r hm⟩
  refine (implInOrderR b m _ row w hM hkl (fun p q => (hp p q).1) (fun p q => (hp p q).2)).mono ?_
  rintro e w' ⟨v, he, ho, hb⟩
  rw [hk] at ho
  refine ⟨v, he, ?_, hb⟩
  have h3 : ((addAllS (([] : List (Txt × Value)).map Prod.fst) (ks.map rowTextL)).mergeSort leB).map row = addAllR [] ks := h2
  rw [h3] at ho
  exact ho
theorem OwnRs.none (B : Nat) (w : World) : OwnRs B w (.slice none 0 0) [] := ⟨[], World.ownsRow_nil .., InnR.nil _ _, by simp⟩
theorem OwnRs.base {B C : Nat} {w : World} {v : Value} {rs : List RowV} (h : OwnRs B w v rs) (hc : C ≤ B) : OwnRs C w v rs := by
  obtain ⟨us, ⟨h1, h2⟩, ⟨i1, i2, i3⟩, h4⟩ := h
  refine ⟨us, ⟨h1, ?_⟩, ⟨i1, fun i u r hu hr => ownP_base (i2 i u r hu hr) hc, i3⟩, h4⟩
  rcases h2 with h2 | ⟨g, cap, cur, e, hB, r⟩
  · exact .inl h2
  · exact .inr ⟨g, cap, cur, e, Nat.le_trans hc hB, r⟩
end Go.Proofs.Ytnmoobahchlliaa
/- Rows projected: the program's own walk. -/
namespace Go.Proofs.Ytnmoobahchlliaa
open Go.RowKit Go.WideShapes Go.Maps
theorem one_rows {w : World} {a : Option Addr} {n c : Nat} {r : RowV} (h : IsPres w a n c r) : IsRows (w.alloc (.cells #[.slice a n c] 56)) (some ⟨w.heap.size, 0, none⟩) 1 1 [r] := by
  refine .inr ⟨_, rfl, Nat.le_refl _, by unfold maxLen; omega, rfl, fun i s hi => ?_⟩
  obtain rfl : i = 0 := by have := (List.getElem?_eq_some_iff.1 hi).1; simp at this; omega
  obtain rfl : r = s := by simpa using hi
  refine ⟨a, n, c, ?_, h.next ((Below.refl w.heap.size w).alloc (Nat.le_refl _) _)⟩
  exact one_cellV rfl 0 _ rfl
theorem put_next {w w5 w6 : World} {mb k : Nat} {ks : List RowV} {r : RowV} {us us1 : List Value} (hk : k < ks.length) (hr : ks[k]? = some r) (hU : us.length = k ∧ (∀ (i : Nat) (u : Value) (r : RowV), us[i]? = some u → ks[i]? = some r → RowIn w u r) ∧ OwnMapV w mb k (putV [] (ks.take k) us))
    (hb : Below w.heap.size w w5) (h1 : us1.length = [r].length) (h2 : ∀ (i : Nat) (u : Value) (s : RowV), us1[i]? = some u → [r][i]? = some s → RowIn w6 u s) (h3 : OwnMapV w6 mb (k + 1) (putV (putV [] (ks.take k) us) [r] us1)) (hg : w5.grownBy w6 (some mb)) :
    ∃ us' : List Value, us'.length = k + 1 ∧ (∀ (i : Nat) (u : Value) (r : RowV), us'[i]? = some u → ks[i]? = some r → RowIn w6 u r) ∧ OwnMapV w6 mb (k + 1) (putV [] (ks.take (k + 1)) us') := by
  obtain ⟨a1, a2, a3⟩ := hU
  match us1, h1 with
  | [u1], _ =>
    refine ⟨us ++ [u1], by simp [a1], fun i u s hu hs => ?_, ?_⟩
    · rcases Nat.lt_or_ge i k with g | g
      · rw [List.getElem?_append_left (by omega)] at hu
        exact ((a2 i u s hu hs).next hb).past hg (a3.next hb).isMap
      · obtain rfl : i = k := by have := (List.getElem?_eq_some_iff.1 hu).1; simp [a1] at this; omega
        rw [List.getElem?_append_right (by omega), a1, Nat.sub_self] at hu
        rw [hr] at hs
        obtain rfl := Option.some.inj hs
        exact h2 0 u r hu rfl
    · have e : ks.take (k + 1) = ks.take k ++ [r] := by
        have e1 := List.getElem?_eq_getElem hk
        rw [hr] at e1
        rw [List.take_succ_eq_append_getElem hk, ← Option.some.inj e1]
      rw [e, putV_snoc _ _ _ _ _ (by rw [a1, List.length_take]; omega)]
      exact h3
set_option maxRecDepth 100000 in
set_option maxHeartbeats 3200000 in
theorem implProjected (a b : Option Addr) (la ca lb cb : Nat) (rs : List RowV) (vs : List ByteArray) (w : World) (ha : IsRows w a la ca rs) (hb : IsStrs w b lb cb vs) (hsa : SmR rs) (hsb : ∀ t ∈ vs, t.size ≤ 1048576) (hlb : lb ≤ 1048576) :
    Calls Try.prog 11 #[.slice a la ca, .slice b lb cb] w fun e w' => ∃ v, e = .returned (.tuple #[v, .bool (projOk rs vs)]) ∧ OwnRs w.heap.size w' v (projR rs vs) ∧ Below w.heap.size w w' := by
  have C' := implRowsOk a la ca rs w ha hsa
  have HA := Lib.hid ha
  have HB := Lib.hid hb
  have HSB := Lib.hid hsb
  have HVL := Lib.hid hb.len
  have HRL := Lib.hid ha.len
  cases hq : rowsOkL rs
  · rw [hq] at C'
    have C := Lib.hid C'
    have HP : Hid (projOk rs vs = false) := Lib.hid (by unfold projOk; rw [hq, Bool.false_and])
    clear C' hq ha hb hsa hsb
    go_enter Try.func11, Try.ntmps11
    go_wp2_with fail
    refine C.out.mono ?_
    rintro e w1 ⟨rfl, hb1⟩
    go_wp2_with fail
    go_ret2
    exact ⟨_, by rw [HP.out]; rfl, by rw [projR_no HP.out]; exact OwnRs.none _ _, hb1⟩
  have hla : la ≤ 300 := by have := rowsOk_most hq; rw [ha.len] at this; exact this
  have HROW : Hid (∀ r ∈ rs, r.length ≤ 12) := Lib.hid (fun r hr => rowsOk_row hq hr)
  have HNZ := Lib.hid (rowsOk_noZ hq)
  have HSA := Lib.hid hsa
  have HRQ := Lib.hid hq
  have hmm := @run_makeMap Try.prog
  rw [hq] at C'
  have C := Lib.hid C'
  clear C' hq ha hb hsa hsb
  go_enter Try.func11, Try.ntmps11
  go_wp2_with fail
  refine C.out.mono ?_
  rintro e w1 ⟨rfl, hb1⟩
  have O0 := Lib.hid (OwnSetS.made w1)
  have B0 := hb1.alloc hb1.size (.map #[] 0)
  have HB1 := Lib.hid hb1.size
  clear hb1 C
  go_wp2_with fail
  go_loopw [18] (fun i wr => ∃ k : Nat, k ≤ lb ∧ i = .int .i64 k ∧ Hid ((txts (vs.take k)).all isVarK = true) ∧ Hid (OwnSetS wr w1.heap.size k (addAllS [] (txts (vs.take k)))) ∧ w1.heap.size < wr.heap.size ∧ Below w.heap.size w wr) (fun i _ => lb - (intOf i).toNat)
  case atStart => exact ⟨0, Nat.zero_le _, rfl, Lib.hid rfl, by simpa [txts, addAllS] using O0, by simp, B0⟩
  case round =>
    obtain ⟨k, hk, rfl, hal, hown, hws, hnx⟩ := hrel
    clear O0 B0
    by_cases hlt : k < lb
    · obtain ⟨bb, off, rfl, hbb, _, _, hts, hcs⟩ := HB.out.cells (by omega)
      have ht : vs[k]? = some (vs[k]'(by omega)) := List.getElem?_eq_getElem (by omega)
      have c0 := hcs k _ ht
      have HK : Hid (vs.take (k + 1) = vs.take k ++ [vs[k]'(by omega)]) := Lib.hid (List.take_succ_eq_append_getElem (by omega))
      have hx1 := HSB.out _ (List.getElem_mem (by omega : k < vs.length))
      have HMEM := Lib.hid (List.getElem_mem (by omega : k < vs.length))
      rw [← hnx.cell (p := ⟨bb, _, none⟩) hbb] at c0
      generalize vs[k]'(by omega) = x at c0 HK hx1 HMEM
      have CV' := implIsVar x (by omega)
      have hx2 : x.size ≤ maxLen := by unfold maxLen; omega
      obtain ⟨q, hbq⟩ : ∃ q, isVarK x.data.toList = q := ⟨_, rfl⟩
      rw [hbq] at CV'
      have CV := Lib.hid CV'
      have HBQ := Lib.hid hbq
      clear CV' hbq hts hcs ht hmm
      go_wp2_with fail
      refine (CV.out _).mono ?_
      rintro e w4 ⟨rfl, hb4⟩
      have B4 := hnx.trans (hb4.mono hnx.size)
      have O4 := Lib.hid (hown.out.next hb4)
      have hw4 := hb4.size
      clear hb4 hnx hown CV
      cases q
      · have HP : Hid (projOk rs vs = false) := Lib.hid (by unfold projOk; rw [varsOk_not HMEM.out HBQ.out, Bool.and_false])
        clear O4
        go_wp2_with fail
        go_ret2
        exact ⟨_, by rw [HP.out]; rfl, by rw [projR_no HP.out]; exact OwnRs.none _ _, B4⟩
      · have HN := Lib.hid (varsOk_step hal.out HK.out HBQ.out)
        have hkl : k < maxLen := by unfold maxLen; omega
        go_wp2_with (at_mapUpdate; refine wpList_putS _ rfl _ _ _ rfl w1.heap.size k (addAllS [] (txts (vs.take k))) rfl O4.out hkl x hx2 rfl rfl ?_)
        intro w5 hown5 hg5
        have B5 : Below w.heap.size w w5 := B4.grown hg5 B4.size (fun r e => by cases e; exact HB1.out)
        have HO5 : Hid (OwnSetS w5 w1.heap.size (k + 1) (addAllS [] (txts (vs.take (k + 1))))) := Lib.hid (by rw [HK.out, txts_snoc, addAllS_snoc]; exact hown5)
        have hw5 : w1.heap.size < w5.heap.size := by have := hg5.size; omega
        clear hown5 hg5 O4 B4 hal HK
        go_wp2_with fail
        go_roundw
        case rel => exact ⟨k + 1, by omega, by go_num, HN, HO5, hw5, B5⟩
        case measure => simp [intOf]; omega
    · have hkl : k = lb := by omega
      have hvt : vs.take k = vs := List.take_of_length_le (by rw [HVL.out]; omega)
      have HVO : Hid (projOk rs vs = true) := Lib.hid (by
        have h1 := hal.out
        rw [hvt] at h1
        unfold projOk varsOkL
        rw [HRQ.out, h1]; rfl)
      rw [hvt] at hown
      obtain ⟨wo, rfl⟩ : ∃ x, x = wr := ⟨_, rfl⟩
      have HS2 := Lib.hid (hown.out.alloc (.map #[] 0))
      have OM0 := Lib.hid (OwnMapV.made wo)
      have B2 := hnx.alloc hnx.size (.map #[] 0)
      have HMB := Lib.hid hnx.size
      have HKP : Hid ((rs.map (keepL (addAllS [] (txts vs)))) = rs.map (keepL (txts vs))) := Lib.hid (List.map_congr_left fun r _ => keepL_same _ _)
      obtain ⟨ks, hks⟩ : ∃ ks, rs.map (keepL (addAllS [] (txts vs))) = ks := ⟨_, rfl⟩
      have HKL : Hid (ks.length = la) := Lib.hid (by rw [← hks, List.length_map, HRL.out])
      have HKS := Lib.hid hks
      generalize addAllS [] (txts vs) = nm at HS2 HKS HKP
      rw [HKS.out] at HKP
      have hne : w1.heap.size ≠ wo.heap.size := by omega
      clear hown hnx hal hks hvt hkl hws
      go_wp2_with fail
      clear hmm hlt
      go_loopw [31] (fun i wr => ∃ j : Nat, j ≤ la ∧ i = .int .i64 j ∧ (∃ us : List Value, Hid (us.length = j ∧ (∀ (i : Nat) (u : Value) (r : RowV), us[i]? = some u → ks[i]? = some r → RowIn wr u r) ∧ OwnMapV wr wo.heap.size j (putV [] (ks.take j) us))) ∧ Hid (OwnSetS wr w1.heap.size k nm) ∧ Below w.heap.size w wr) (fun i _ => la - (intOf i).toNat)
      case atStart => exact ⟨0, Nat.zero_le _, rfl, ⟨[], Lib.hid ⟨rfl, by simp, by simpa [putV] using OM0.out⟩⟩, HS2, B2⟩
      case round =>
        obtain ⟨j, hj, rfl, ⟨us, HU⟩, HSS, hnx⟩ := hrel
        clear OM0 HS2 B2
        by_cases hlj : j < la
        · obtain ⟨bb, off, rfl, hbb, _, _, hts, hcs⟩ := HA.out.cells (by omega)
          have ht : rs[j]? = some (rs[j]'(by omega)) := List.getElem?_eq_getElem (by omega)
          obtain ⟨a1, n1, c1, c0, hz0⟩ := hcs j _ ht
          rw [← hnx.cell (p := ⟨bb, _, none⟩) hbb] at c0
          have hrm := List.getElem_mem (by omega : j < rs.length)
          have hr12 := HROW.out _ hrm
          have hsm := HSA.out _ hrm
          have HKJ : Hid (ks[j]? = some (keepL nm (rs[j]'(by omega)))) := Lib.hid (by rw [← HKS.out, List.getElem?_map, ht]; rfl)
          generalize rs[j]'(by omega) = r at hz0 hr12 hsm HKJ
          have hz := hz0.next hnx
          have hn1 := hz.len
          have E1 := Lib.hid (fun W (h : Below wr.heap.size wr W) => implProjectedTo w1.heap.size k nm a1 n1 c1 r W (HSS.out.next h) (hz.next h) (by omega))
          have HSM : Hid (SmP (keepL nm r)) := Lib.hid (fun t ht => hsm t (List.mem_filter.1 ht).1)
          have HKL2 : Hid ((keepL nm r).length ≤ 12) := Lib.hid (Nat.le_trans (keepL_len _ _) hr12)
          generalize keepL nm r = kr at E1 HSM HKL2 HKJ
          clear hts hcs ht hz hz0 hrm hr12 hsm hn1
          go_wp2_with fail
          refine (E1.out _ (by first | exact Below.refl _ _ | exact Below.drew (Below.refl _ _))).mono ?_
          rintro e w4 ⟨u, rfl, ou, hb4⟩
          obtain ⟨ua, uc, rfl, hu⟩ := ou.is (fun t ht => by have := HSM.out t ht; unfold maxLen; omega)
          have hb4' : Below wr.heap.size wr w4 := by first | exact hb4 | exact (Below.drew (Below.refl _ _)).trans hb4
          have B5 := (hb4'.alloc hb4'.size (.cells #[.slice ua kr.length uc] 56))
          have IR := one_rows hu
          have HBW := Lib.hid B5
          have HIR := Lib.hid IR
          have E2 := Lib.hid (fun W (h : Below (w4.alloc (.cells #[.slice ua kr.length uc] 56)).heap.size (w4.alloc (.cells #[.slice ua kr.length uc] 56)) W) => implPut wo.heap.size j (putV [] (ks.take j) us) (some ⟨w4.heap.size, 0, none⟩) 1 1 [kr] W ((HU.out.2.2.next HBW.out).next h) (HIR.out.next h)
            (fun r hr => by
              obtain rfl : r = kr := by simpa using hr
              have := rowText_len HSM.out
              have := HKL2.out
              omega) (by unfold maxLen; omega))
          generalize hkn : kr.length = kn at HKL2 E2 HBW HIR IR B5 ou hu ⊢
          clear ou hu hb4 IR E1 c0 B5 hb4'
          go_wp2_with fail
          refine (E2.out _ (by first | exact Below.refl _ _ | exact Below.drew (Below.refl _ _))).mono ?_
          rintro e w6 ⟨rfl, ⟨us1, hl1, hr1, hM1⟩, hg6⟩
          obtain ⟨us', q1, q2, q3⟩ := put_next (by rw [HKL.out]; exact hlj) HKJ.out HU.out HBW.out hl1 hr1 hM1 hg6
          have HU' := Lib.hid (And.intro q1 (And.intro q2 q3))
          have HS6 := Lib.hid ((HSS.out.next HBW.out).kept hg6 (by simpa using hne))
          have B6 : Below w.heap.size w w6 := (hnx.trans (HBW.out.mono hnx.size)).grown hg6 (by have := HBW.out.size; have := hnx.size; omega) (fun q e => by cases e; exact HMB.out)
          clear hl1 hr1 hM1 hg6 q1 q2 q3 HU HSS hnx HBW HIR E2 HKJ HSM HKL2
          go_wp2_with fail
          go_roundw
          case rel => exact ⟨j + 1, by omega, by go_num, ⟨us', HU'⟩, HS6, B6⟩
          case measure => simp [intOf]; omega
        · have hjl : j = la := by omega
          have HUF : Hid (us.length = ks.length ∧ (∀ (i : Nat) (u : Value) (r : RowV), us[i]? = some u → ks[i]? = some r → RowIn wr u r) ∧ OwnMapV wr wo.heap.size j (putV [] ks us)) := Lib.hid (by
            have h1 := HU.out
            rw [List.take_of_length_le (by rw [HKL.out]; omega)] at h1
            exact ⟨by rw [h1.1, HKL.out, hjl], h1.2⟩)
          have HKM : Hid (∀ r ∈ ks, (∀ t ∈ r, NoZ t) ∧ (r.length ≤ 1048576 ∧ (rowTextL r).length ≤ maxLen)) := Lib.hid (fun r hr => by
            rw [← HKS.out] at hr
            obtain ⟨s, hs, rfl⟩ := List.mem_map.1 hr
            have h1 := HROW.out s hs
            have h2 := keepL_len nm s
            have h3 := rowText_len (r := keepL nm s) (fun t ht => HSA.out s hs t (List.mem_filter.1 ht).1)
            refine ⟨keepL_noZ (HNZ.out s hs), by omega, by unfold maxLen; omega⟩)
          have E3 := Lib.hid (fun W (h : Below wr.heap.size wr W) => implOrdered wo.heap.size j ks us W HUF.out.1 (fun i u r hu hr => (HUF.out.2.1 i u r hu hr).next h) (HUF.out.2.2.next h) (fun r hr => (HKM.out r hr).1) (by rw [HKL.out]; omega) (fun r hr => (HKM.out r hr).2))
          clear HU hjl HSS
          go_wp2_with fail
          refine (E3.out _ (by first | exact Below.refl _ _ | exact Below.drew (Below.refl _ _))).mono ?_
          rintro e w7 ⟨v, rfl, ov, hb7⟩
          have hb7' : Below wr.heap.size wr w7 := by first | exact hb7 | exact (Below.drew (Below.refl _ _)).trans hb7
          have B7 := hnx.trans (hb7'.mono hnx.size)
          have HF : Hid (OwnRs w.heap.size w7 v (projL rs vs)) := Lib.hid (by
            unfold projL
            rw [← HKP.out]
            exact ov.base hnx.size)
          clear ov hb7 hb7' E3
          go_wp2_with fail
          go_ret2
          exact ⟨v, by rw [HVO.out]; rfl, by rw [projR_yes HVO.out]; exact HF.out, B7⟩
end Go.Proofs.Ytnmoobahchlliaa
