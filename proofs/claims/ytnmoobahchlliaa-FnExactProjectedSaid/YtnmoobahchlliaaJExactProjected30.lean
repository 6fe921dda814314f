/- Rows projected: the specification's own walk. -/
import Derived.Test.YtnmoobahchlliaaJExactProjected29
import Derived.Test.YtnmoobahchlliaaJExactProjected11
import Derived.Test.YtnmoobahchlliaaJExactProjected27
namespace Go.Proofs.Ytnmoobahchlliaa
open Go.RowKit Go.WideShapes Go.Maps
theorem hasB_txts (vs : List ByteArray) (x : ByteArray) : hasB vs x = decide (x.data.toList ∈ txts vs) := by
  rw [Bool.eq_iff_iff]
  unfold hasB txts
  rw [List.any_eq_true, decide_eq_true_eq, List.mem_map]
  constructor
  · rintro ⟨y, hy, he⟩
    rw [beq_iff_eq, ByteArray.toList_eq, ByteArray.toList_eq] at he
    exact ⟨y, hy, he⟩
  · rintro ⟨y, hy, he⟩
    exact ⟨y, hy, by rw [beq_iff_eq, ByteArray.toList_eq, ByteArray.toList_eq]; exact he⟩
def ProjPost (w : World) (rs : List RowV) (vs : List ByteArray) (e : Ending) (w' : World) : Prop :=
  ∃ a n c, e = .returned (.tuple #[.slice a n c, .bool (projOk rs vs)]) ∧ IsRows w' a n c (projR rs vs) ∧ Below w.heap.size w w'
set_option maxRecDepth 100000 in
set_option maxHeartbeats 6400000 in
theorem specProjected (a b : Option Addr) (la ca lb cb : Nat) (rs : List RowV) (vs : List ByteArray) (w : World) (ha : IsRows w a la ca rs) (hb : IsStrs w b lb cb vs) (hsa : SmR rs) (hsb : ∀ t ∈ vs, t.size ≤ 1048576) (hlb : lb ≤ 1048576) :
    Calls Try.prog 8 #[.slice a la ca, .slice b lb cb] w (ProjPost w rs vs) := by
  obtain ⟨j0, hj0, hy0, hy1, hy2⟩ := info_parts infoPair
  have C' := specRowsOk a la ca rs w ha hsa
  have HA := Lib.hid ha
  have HB := Lib.hid hb
  have HSB := Lib.hid hsb
  have HVL := Lib.hid hb.len
  have HRL := Lib.hid ha.len
  have hlbm : lb ≤ 9223372036854775807 := by omega
  cases hq : rowsOkL rs
  · rw [hq] at C'
    have C := Lib.hid C'
    have HP : Hid (projOk rs vs = false) := Lib.hid (by unfold projOk; rw [hq, Bool.false_and])
    clear C' hq ha hb hsa hsb
    go_enter Try.func8, Try.ntmps8
    go_wp2_with fail
    refine C.out.mono ?_
    rintro e w1 ⟨rfl, hb1⟩
    go_wp2_with fail
    go_ret2
    exact ⟨none, 0, 0, by rw [HP.out]; rfl, by rw [projR_no HP.out]; exact .inl ⟨rfl, rfl, rfl, rfl⟩, hb1⟩
  have hla : la ≤ 300 := by have := rowsOk_most hq; rw [ha.len] at this; exact this
  have HROW : Hid (∀ r ∈ rs, r.length ≤ 12) := Lib.hid (fun r hr => rowsOk_row hq hr)
  have HSA := Lib.hid hsa
  have HRQ := Lib.hid hq
  obtain ⟨nm, hnm⟩ : ∃ nm, txts vs = nm := ⟨_, rfl⟩
  have HNM := Lib.hid hnm
  obtain ⟨ks, hks⟩ : ∃ ks, rs.map (keepL nm) = ks := ⟨_, rfl⟩
  have HKL : Hid (ks.length = la) := Lib.hid (by rw [← hks, List.length_map, ha.len])
  have HKS := Lib.hid hks
  have HKM : Hid (∀ r ∈ ks, (rowTextL r).length ≤ 140737488355328) := Lib.hid (fun r hr => by
    rw [← hks] at hr
    obtain ⟨s, hs, rfl⟩ := List.mem_map.1 hr
    have h1 := HROW.out s hs
    have h2 := keepL_len nm s
    have h3 := rowText_len (r := keepL nm s) (fun t ht => hsa s hs t (List.mem_filter.1 ht).1)
    omega)
  have HPL : Hid (projL rs vs = addAllR [] ks) := Lib.hid (by unfold projL; rw [hnm, hks])
  rw [hq] at C'
  have C := Lib.hid C'
  clear C' hq ha hb hsa hsb hnm hks
  go_enter Try.func8, Try.ntmps8
  go_wp2_with fail
  refine C.out.mono ?_
  rintro e w1 ⟨rfl, hb1⟩
  clear C
  go_wp2_with fail
  go_loopw [6] (fun i wr => ∃ k : Nat, k ≤ lb ∧ i = .int .i64 k ∧ Hid ((txts (vs.take k)).all isVarK = true) ∧ Below w.heap.size w wr) (fun i _ => lb - (intOf i).toNat)
  case atStart => exact ⟨0, Nat.zero_le _, rfl, Lib.hid rfl, hb1⟩
  case round =>
    obtain ⟨k, hk, rfl, hal, hnx⟩ := hrel
    clear hb1
    have hk6 : (0 : Int) ≤ (k : Int) := by omega
    by_cases hlt : k < lb
    · obtain ⟨bb, off, rfl, hbb, _, _, hts, hcs⟩ := HB.out.cells (by omega)
      have ht : vs[k]? = some (vs[k]'(by omega)) := List.getElem?_eq_getElem (by omega)
      have c0 := hcs k _ ht
      have HK : Hid (vs.take (k + 1) = vs.take k ++ [vs[k]'(by omega)]) := Lib.hid (List.take_succ_eq_append_getElem (by omega))
      have hx1 := HSB.out _ (List.getElem_mem (by omega : k < vs.length))
      have HMEM := Lib.hid (List.getElem_mem (by omega : k < vs.length))
      rw [← hnx.cell (p := ⟨bb, _, none⟩) hbb] at c0
      generalize vs[k]'(by omega) = x at c0 HK hx1 HMEM
      have CV' := specKindOf x (by omega)
      have hk7 : (k : Int) < (lb : Int) := by omega
      have EK : (kindL x.data.toList = 4 ∧ isVarK x.data.toList = true) ∨ (((kindL x.data.toList : Nat) : Int) ≠ 4 ∧ isVarK x.data.toList = false) := by
        unfold isVarK
        by_cases g : kindL x.data.toList = 4
        · exact .inl ⟨g, by simp [g]⟩
        · exact .inr ⟨by omega, by simp [g]⟩
      generalize kindL x.data.toList = kk at CV' EK
      have CV := Lib.hid CV'
      clear CV' hts hcs ht
      rcases EK with ⟨rfl, e2⟩ | ⟨e1, e2⟩
      · have HN := Lib.hid (varsOk_step hal.out HK.out e2)
        clear e2 hal HK
        go_wp2_with fail
        refine (CV.out _).mono ?_
        rintro e w4 ⟨rfl, hb4⟩
        have B4 := hnx.trans (hb4.mono hnx.size)
        clear hb4 hnx CV c0
        go_wp2_with fail
        go_roundw
        case rel => exact ⟨k + 1, by omega, by go_num, HN, B4⟩
        case measure => simp [intOf]; omega
      · have HP : Hid (projOk rs vs = false) := Lib.hid (by unfold projOk; rw [varsOk_not HMEM.out e2, Bool.and_false])
        have e3 : ((kk : Int) != 4) = true := by simpa using e1
        have e4 : ((kk : Int) == 4) = false := by simpa using e1
        clear e2
        go_wp2_with fail
        refine (CV.out _).mono ?_
        rintro e w4 ⟨rfl, hb4⟩
        have B4 := hnx.trans (hb4.mono hnx.size)
        clear hb4 hnx CV c0
        go_wp2_with fail
        go_ret2
        exact ⟨none, 0, 0, by rw [HP.out]; rfl, by rw [projR_no HP.out]; exact .inl ⟨rfl, rfl, rfl, rfl⟩, B4⟩
    · have hkl : k = lb := by omega
      have HVO : Hid (projOk rs vs = true) := Lib.hid (by
        have h1 := hal.out
        rw [List.take_of_length_le (by rw [HVL.out]; omega)] at h1
        unfold projOk varsOkL
        rw [HRQ.out, h1]; rfl)
      obtain ⟨wo, rfl⟩ : ∃ x, x = wr := ⟨_, rfl⟩
      have O0 : OutI w.heap.size (wo.alloc (.cells #[] 56)) (.slice (some ⟨wo.heap.size, 0, none⟩) 0 0) [] [] := ⟨World.ownsRow_lit (size := 1) (e := 56) wo #[] 0 hnx.size (by decide) rfl, rfl, by simp⟩
      have HO0 := Lib.hid O0
      have B2 := hnx.alloc hnx.size (.cells #[] 56)
      clear O0 hnx hal hkl
      go_wp2_with fail
      clear hlt hk6 hk
      go_loopw [7, 8] (fun v i wr => ∃ k g n c : Nat, k ≤ la ∧ i = .int .i64 k ∧ v = .slice (some ⟨g, 0, none⟩) n c ∧ n ≤ k ∧ (∃ us, Hid (OutI w.heap.size wr (.slice (some ⟨g, 0, none⟩) n c) (addAllR [] (ks.take k)) us ∧ (addAllR [] (ks.take k)).length = n)) ∧ Below w.heap.size w wr) (fun _ i _ => la - (intOf i).toNat)
      case atStart => exact ⟨0, _, 0, 0, Nat.zero_le _, rfl, rfl, Nat.le_refl _, ⟨[], Lib.hid ⟨by simpa [addAllR] using HO0.out, by simp [addAllR]⟩⟩, B2⟩
      case round =>
        obtain ⟨k, g, n, c, hk, rfl, rfl, hnk, ⟨us, HO⟩, hnx⟩ := hrel
        clear HO0 B2
        have hk6 : (0 : Int) ≤ (k : Int) := by omega
        by_cases hlt : k < la
        · obtain ⟨bb, off, rfl, hbb, _, _, hts, hcs⟩ := HA.out.cells (by omega)
          have ht : rs[k]? = some (rs[k]'(by omega)) := List.getElem?_eq_getElem (by omega)
          obtain ⟨a1, n1, c1, c0, hz0⟩ := hcs k _ ht
          have hrm := List.getElem_mem (by omega : k < rs.length)
          have hr12 := HROW.out _ hrm
          have hsm := HSA.out _ hrm
          have HKT : Hid (ks.take (k + 1) = ks.take k ++ [keepL nm (rs[k]'(by omega))]) := Lib.hid (by
            have e : ks[k]? = some (keepL nm (rs[k]'(by omega))) := by rw [← HKS.out, List.getElem?_map, ht]; rfl
            have hkk : k < ks.length := by rw [HKL.out]; exact hlt
            rw [List.take_succ_eq_append_getElem hkk]
            rw [List.getElem?_eq_getElem hkk] at e
            rw [Option.some.inj e])
          have HTX := Lib.hid (HKM.out (keepL nm (rs[k]'(by omega))) (by rw [← HKS.out]; exact List.mem_map_of_mem hrm))
          generalize rs[k]'(by omega) = s at hz0 hr12 hsm HKT HTX
          have HZ := Lib.hid hz0
          have hn1 := hz0.len
          have hn12 : n1 ≤ 12 := by omega
          have HN1 := Lib.hid hn1
          have HSM := Lib.hid hsm
          have HC0 := Lib.hid c0
          have hk7 : (k : Int) < (la : Int) := by omega
          obtain ⟨wo, rfl⟩ : ∃ x, x = wr := ⟨_, rfl⟩
          have P0 : OwnP wo.heap.size (wo.alloc (.cells #[] 59)) (.slice (some ⟨wo.heap.size, 0, none⟩) 0 0) [] := World.ownsRow_lit (size := 2) (e := 59) wo #[] 0 (Nat.le_refl _) (by decide) rfl
          have HP0 := Lib.hid P0
          have B3 := (Below.refl wo.heap.size wo).alloc (Nat.le_refl _) (.cells #[] 59)
          have HWO := Lib.hid hnx
          clear hts hcs ht hz0 hrm hr12 hsm hn1 P0 c0 hnx
          go_wp2_with fail
          go_loopw [9, 10] (fun v' i wr => ∃ (j : Nat) (v : Value), j ≤ n1 ∧ i = .int .i64 j ∧ v = v' ∧ Hid (OwnP wo.heap.size wr v (keepL nm (s.take j))) ∧ Below wo.heap.size wo wr) (fun _ i _ => n1 - (intOf i).toNat)
          case atStart => exact ⟨0, _, Nat.zero_le _, rfl, rfl, by simpa [keepL] using HP0, B3⟩
          case round =>
            obtain ⟨j, v, hj, rfl, rfl, hown, hbx⟩ := hrel
            clear HP0 B3
            have hj6 : (0 : Int) ≤ (j : Int) := by omega
            have hnx := HWO.out.trans (hbx.mono HWO.out.size)
            have c0 := HC0.out
            rw [← hnx.cell (p := ⟨bb, _, none⟩) hbb] at c0
            by_cases hlj : j < n1
            · obtain ⟨x, xo, rfl, hx, _, _, hts, hcs⟩ := HZ.out.cells (by omega)
              have ht : s[j]? = some (s[j]'(by omega)) := List.getElem?_eq_getElem (by omega)
              obtain ⟨d0, d1, m0, m1⟩ := hcs j _ ht
              rw [← hnx.cell (p := ⟨x, _, none⟩) hx] at d0 d1
              have HK : Hid (s.take (j + 1) = s.take j ++ [s[j]'(by omega)]) := Lib.hid (List.take_succ_eq_append_getElem (by omega))
              have hkl : (keepL nm (s.take j)).length ≤ j := by have := keepL_len nm (s.take j); rw [List.length_take] at this; omega
              generalize s[j]'(by omega) = t at d0 d1 HK m0 m1
              obtain ⟨y, z⟩ := t
              dsimp only at d0 d1 m0
              have HN : Hid (keepL nm (s.take (j + 1)) = if y.data.toList ∈ nm then keepL nm (s.take j) ++ [(y, z)] else keepL nm (s.take j)) := Lib.hid (by rw [HK.out, keepL_snoc])
              have HH := Lib.hid (fun W (h : Below wr.heap.size wr W) => specHas b lb cb vs y W ((HB.out.next hnx).next h) hlb)
              have HHB : Hid (hasB vs y = decide (y.data.toList ∈ nm)) := Lib.hid (by rw [hasB_txts, HNM.out])
              have hj7 : (j : Int) < (n1 : Int) := by omega
              clear hts hcs ht HK m0 m1
              generalize keepL nm (s.take j) = kr at HN hkl hown
              go_wp2_with fail
              refine (HH.out _ (by first | exact Below.refl _ _ | exact Below.drew (Below.refl _ _))).mono ?_
              rintro e w4 ⟨rfl, hw4⟩
              obtain rfl : wr = w4 := hw4.symm
              clear HH
              by_cases hin : y.data.toList ∈ nm
              · have HM : Hid (keepL nm (s.take (j + 1)) = kr ++ [(y, z)]) := Lib.hid (by rw [HN.out, if_pos hin])
                have hd : hasB vs y = true := by rw [HHB.out]; exact decide_eq_true hin
                have HA2 := Lib.hid (World.ownsRow.alloc hown.out (.cells #[.string y, .string z] 59))
                have HC2 := Lib.hid (hbx.alloc hbx.size (.cells #[.string y, .string z] 59))
                clear HN hin HHB
                rw [hd]
                clear hd
                go_wp2_with (at_builtin; refine wpList_append_own_at _ rfl _ _ 56 rfl wo.heap.size 59 j0 (.agg #[.string ⟨#[]⟩, .string ⟨#[]⟩]) 2 32 Try.underlying56 hj0 hy0 hy1 hy2 rfl (by decide) _ _ _ rfl HA2.out ⟨_, 0, none⟩ 1 1 [.string y, .string z] rfl rfl ?d1 ?d2 ?d3 ?d4 ?d5 ?_)
                case d1 => exact two_cellP rfl
                case d2 => exact two_one _ _
                case d3 => unfold maxLen; omega
                case d4 => omega
                case d5 => exact HC2.out.size
                intro v' w6 hown6 hg6 _ _
                have O6 : Hid (OwnP wo.heap.size w6 v' (keepL nm (s.take (j + 1)))) := Lib.hid (by rw [HM.out]; exact own_snocP hown6)
                have B6 := HC2.out.grown hg6 HC2.out.size (fun q hq => (World.ownsRow.lt hown.out q hq).1)
                clear hown6 hg6 HA2 HC2 hown hbx hnx c0 d0 d1
                go_wp2_with fail
                go_roundw
                case rel => exact ⟨j + 1, _, by omega, by go_num, rfl, O6, B6⟩
                case measure => simp [intOf]; omega
              · have HM : Hid (keepL nm (s.take (j + 1)) = kr) := Lib.hid (by rw [HN.out, if_neg hin])
                have hd : hasB vs y = false := by rw [HHB.out]; exact decide_eq_false hin
                have O6 : Hid (OwnP wo.heap.size wr v (keepL nm (s.take (j + 1)))) := Lib.hid (by rw [HM.out]; exact hown.out)
                clear HN hin HHB hown
                rw [hd]
                clear hd
                go_wp2_with fail
                go_roundw
                case rel => exact ⟨j + 1, _, by omega, by go_num, rfl, O6, hbx⟩
                case measure => simp [intOf]; omega
            · have hown' := hown.out
              rw [List.take_of_length_le (by rw [HN1.out]; omega)] at hown'
              obtain ⟨va, vc, hve, hv⟩ := hown'.is (fun t ht => by have := HSM.out t (List.mem_filter.1 ht).1; unfold maxLen; omega)
              subst hve
              have hkl := keepL_len nm s
              have hsl := HN1.out
              have HAD : Hid (addAllR [] (ks.take (k + 1)) = addR (addAllR [] (ks.take k)) (keepL nm s)) := Lib.hid (by rw [HKT.out, addAllR_snoc])
              have HLG : Hid (LongR (addAllR [] (ks.take k))) := Lib.hid (fun r hr => by
                rcases addAllR_mem hr with h | h
                · simp at h
                · exact HKM.out r (List.mem_of_mem_take h))
              generalize addAllR [] (ks.take k) = AL at HO HAD HLG
              generalize keepL nm s = kr at hv hkl HAD HTX
              generalize hkn : kr.length = kn at hv hkl ⊢
              have hAL := HO.out.2
              have E := Lib.hid (fun W (h : Below wr.heap.size wr W) => specAdd w.heap.size g n c AL us va kn vc kr W ((HO.out.1.next hbx).next h) HO.out.2 (by omega) (by have := hnx.size; have := h.size; omega) (hv.next h) (by omega) HLG.out HTX.out)
              clear hown hown' hv HO HTX HLG
              go_wp2_with fail
              refine (E.out _ (by first | exact Below.refl _ _ | exact Below.drew (Below.refl _ _))).mono ?_
              rintro e w5 ⟨g', n', c', us', rfl, ho5, hl5, hb5⟩
              have B5 := hnx.trans (hb5.mono hnx.size)
              have hn5 : n' ≤ n + 1 := by have := addR_len AL kr; omega
              have HO5 := Lib.hid (And.intro ho5 hl5)
              rw [← HAD.out] at HO5
              clear ho5 hl5 hb5 E hnx hbx c0
              go_wp2_with fail
              go_roundw
              case rel => exact ⟨k + 1, g', n', c', by omega, by go_num, rfl, by omega, ⟨us', HO5⟩, B5⟩
              case measure => simp [intOf]; omega
        · have HF : Hid (OutI w.heap.size wr (.slice (some ⟨g, 0, none⟩) n c) (addAllR [] ks) us) := Lib.hid (by
            have h1 := HO.out.1
            rw [List.take_of_length_le (by rw [HKL.out]; omega)] at h1
            exact h1)
          clear HO
          go_wp2_with fail
          go_ret2
          have i9 : IsRows wr (some ⟨g, 0, none⟩) n c (addAllR [] ks) := by
            obtain ⟨a9, c9, e9, i9⟩ := HF.out.is
            simp only [Value.slice.injEq] at e9
            obtain ⟨e1, e2, e3⟩ := e9
            rw [e1, e2, e3]
            exact i9
          exact ⟨some ⟨g, 0, none⟩, n, c, by rw [HVO.out]; rfl, by rw [projR_yes HVO.out, HPL.out]; exact i9, hnx⟩
end Go.Proofs.Ytnmoobahchlliaa
/- Rows that are marked, and their second look. -/
namespace Go.Proofs.Ytnmoobahchlliaa
open Go.RowKit Go.WideShapes
/-- Only what lies between two blocks, and what is new, is changed. -/
def BetwR (B C : Nat) (w w' : World) : Prop := Below B w w' ∧ ∀ k, C ≤ k → k < w.heap.size → w'.heap[k]? = w.heap[k]?
theorem BetwR.refl (B C : Nat) (w : World) : BetwR B C w w := ⟨Below.refl _ _, fun _ _ _ => rfl⟩
theorem BetwR.grown {B C : Nat} {w wr w' : World} {row : Option Nat} (h : BetwR B C w wr) (hg : wr.grownBy w' row) (hB : B ≤ w.heap.size) (hr : ∀ j, row = some j → B ≤ j ∧ j < C) : BetwR B C w w' :=
  ⟨h.1.grown hg (Nat.le_trans hB h.1.size) (fun j hj => (hr j hj).1), fun k hk hl => (hg.block k (Nat.lt_of_lt_of_le hl h.1.size) (fun e => by have := hr k e.symm; omega)).trans (h.2 k hk hl)⟩
/-- The marks of rows, one behind the other. -/
def marksRs (k0 : Nat) : List RowV → List RowV
  | [] => []
  | r :: rs => marksPK k0 r.length :: marksRs (k0 + 2 * r.length) rs
theorem marksRs_len (rs : List RowV) : ∀ k0, (marksRs k0 rs).length = rs.length := by
  induction rs with
  | nil => intro k0; rfl
  | cons r rs ih => intro k0; simp [marksRs, ih]
theorem marksRs_at : ∀ (rs : List RowV) (k0 i : Nat) (r : RowV), rs[i]? = some r → (marksRs k0 rs)[i]? = some (marksPK (k0 + 2 * totR (rs.take i)) r.length)
  | [], _, i, r, h => by simp at h
  | s :: rs, k0, 0, r, h => by simp at h; subst h; simp [marksRs, totR]
  | s :: rs, k0, i + 1, r, h => by
    have := marksRs_at rs (k0 + 2 * s.length) i r (by simpa using h)
    simp only [marksRs, List.getElem?_cons_succ, List.take_succ_cons]
    rw [this]
    have e : totR (s :: rs.take i) = s.length + totR (rs.take i) := by simp [totR]
    rw [e]
    congr 2
    omega
set_option maxRecDepth 100000 in
set_option maxHeartbeats 1600000 in
theorem markRows (B C n c : Nat) (g : Nat) (rs : List RowV) (us : List Value) (w : World) (h : w.ownsRow B 56 1 (.slice (some ⟨g, 0, none⟩) n c) n us) (hi : InnR B w rs us) (hne : ∀ u ∈ us, ∀ j, u.ownBlock = some j → j ≠ g) (hC : ∀ u ∈ us, ∀ j, u.ownBlock = some j → j < C) (hBw : B ≤ w.heap.size) (hl : n + totR rs ≤ 1048576) (hrs : rs.length = n) (k0 : Nat) (hk0 : 0 < k0) (hk1 : k0 ≤ 4000000) :
    Calls Try.prog 14 #[.slice (some ⟨g, 0, none⟩) n c, .int .i64 k0] w fun e w' => e = .returned (.int .i64 ((k0 + 2 * totR rs : Nat) : Int)) ∧ w'.ownsRow B 56 1 (.slice (some ⟨g, 0, none⟩) n c) n us ∧ InnR B w' (marksRs k0 rs) us ∧ BetwR B C w w' := by
  have HT := Lib.hid hrs
  have HC := Lib.hid hC
  have HNE := Lib.hid hne
  have HUL : Hid (us.length = n) := Lib.hid (by have := hi.1; omega)
  have HPW := Lib.hid hi.2.2
  have HI : Hid (∀ j u r, 0 ≤ j → us[j]? = some u → rs[j]? = some r → OwnP B w u r) := Lib.hid (fun j u t _ hu ht => hi.2.1 j u t hu ht)
  have HD : Hid (∀ j u r, j < 0 → us[j]? = some u → (marksRs k0 rs)[j]? = some r → OwnP B w u r) := Lib.hid (fun j u r hj => by omega)
  have O0 := h
  clear h hi hC hrs hne
  go_enter Try.func14, Try.ntmps14
  go_wp2_with fail
  go_loopw [1, 5] (fun q i wr => ∃ k : Nat, k ≤ n ∧ i = .int .i64 k ∧ q = .int .i64 ((k0 + 2 * totR (rs.take k) : Nat) : Int) ∧ Hid (wr.ownsRow B 56 1 (.slice (some ⟨g, 0, none⟩) n c) n us) ∧ Hid (∀ j u r, k ≤ j → us[j]? = some u → rs[j]? = some r → OwnP B wr u r) ∧ Hid (∀ j u r, j < k → us[j]? = some u → (marksRs k0 rs)[j]? = some r → OwnP B wr u r) ∧ Hid (BetwR B C w wr)) (fun _ i _ => n - (intOf i).toNat)
  case atStart => exact ⟨0, Nat.zero_le _, rfl, by simp [totR], Lib.hid O0, HI, HD, Lib.hid (BetwR.refl _ _ _)⟩
  case round =>
    obtain ⟨k, hk, rfl, rfl, hown, hin, hdn, hbt⟩ := hrel
    clear O0 HI HD
    have hk6 : (0 : Int) ≤ (k : Int) := by omega
    by_cases hlt : k < n
    · have hk7 : (k : Int) < (n : Int) := by omega
      have hu : us[k]? = some (us[k]'(by have := HUL.out; omega)) := List.getElem?_eq_getElem _
      have ht : rs[k]? = some (rs[k]'(by have := HT.out; omega)) := List.getElem?_eq_getElem _
      have hcu := HC.out _ (List.mem_of_getElem? hu)
      have hnu := HNE.out _ (List.mem_of_getElem? hu)
      have hou := hin.out k _ _ (Nat.le_refl _) hu ht
      have hpw : Hid (∀ j u', j ≠ k → us[j]? = some u' → ∀ b, (us[k]'(by have := HUL.out; omega)).ownBlock = some b → u'.ownBlock ≠ some b) := Lib.hid (fun j u' hj hu' b hb => by
        have hjl := (List.getElem?_eq_some_iff.1 hu').1
        have hkl : k < us.length := by have := HUL.out; omega
        have eu := (List.getElem?_eq_some_iff.1 hu').2
        rcases Nat.lt_or_gt_of_ne hj with h1 | h1
        · intro e
          have := (List.pairwise_iff_getElem.1 HPW.out) j k hjl hkl h1 b (by rw [eu]; exact e)
          exact this hb
        · have := (List.pairwise_iff_getElem.1 HPW.out) k j hkl hjl h1 b hb
          rw [eu] at this
          exact this)
      have HS : Hid (totR (rs.take (k + 1)) = totR (rs.take k) + (rs[k]'(by have := HT.out; omega)).length) := Lib.hid (by rw [List.take_succ_eq_append_getElem (by have := HT.out; omega), totR_snoc])
      have HMK := Lib.hid (marksRs_at rs k0 k _ ht)
      have hle := totR_take rs (k + 1)
      have c0 : wr.cell? ⟨g, k, none⟩ = some (us[k]'(by have := HUL.out; omega)) := by rw [hown.out.cellAt _ (by omega), hu]
      generalize us[k]'(by have := HUL.out; omega) = u at hu hcu hnu hou hpw c0
      generalize rs[k]'(by have := HT.out; omega) = r at ht hou HS HMK
      have hrl : r.length ≤ 1048576 := by have := HS.out; omega
      obtain ⟨ua, un, uc, rfl⟩ : ∃ a n c, u = .slice a n c := by
        rcases hou.2 with ⟨rfl, _⟩ | ⟨g', cap, cur, rfl, _⟩
        · exact ⟨_, _, _, rfl⟩
        · exact ⟨_, _, _, rfl⟩
      have MK := markPairK B (.slice ua un uc) r wr hou hrl (k0 + 2 * totR (rs.take k)) (by omega) (by have := HS.out; omega)
      obtain ⟨q, hq⟩ : ∃ q : Nat, k0 + 2 * totR (rs.take k) = q := ⟨_, rfl⟩
      rw [hq] at MK HMK
      have HQ : Hid (k0 + 2 * totR (rs.take (k + 1)) = q + 2 * r.length) := Lib.hid (by have := HS.out; omega)
      rw [hq]
      have HM := Lib.hid MK
      have HU := Lib.hid hu
      have HLT := Lib.hid (World.ownsRow.lt hou)
      have HCU := Lib.hid hcu
      have HNU := Lib.hid hnu
      clear MK hou hq hle HS ht hu hcu hnu
      go_wp2_with fail
      refine HM.out.mono ?_
      rintro e w1 ⟨rfl, o1, hg⟩
      have O9 : Hid (w1.ownsRow B 56 1 (.slice (some ⟨g, 0, none⟩) n c) n us) := Lib.hid (hown.out.kept hg (.inr (by
        intro e
        exact HNU.out g (by rw [← e]; simp [Value.ownBlock]) rfl)))
      have T9 := Lib.hid (hbt.out.grown hg hBw (fun j hj => ⟨(HLT.out j hj).1, HCU.out j hj⟩))
      have keep : ∀ (j : Nat) (u' : Value) (r' : RowV), j ≠ k → us[j]? = some u' → OwnP B wr u' r' → OwnP B w1 u' r' := fun j u' r' hj hu' ho => World.ownsRow.kept ho hg (by
        rcases hb : u'.ownBlock with _ | b
        · exact .inl rfl
        · exact .inr (fun e => hpw.out j u' hj hu' b e.symm hb))
      have N9 : Hid (∀ j u r, k + 1 ≤ j → us[j]? = some u → rs[j]? = some r → OwnP B w1 u r) := Lib.hid (fun j u r hj hu ht => keep j u r (by omega) hu (hin.out j u r (by omega) hu ht))
      have D9 : Hid (∀ j u r, j < k + 1 → us[j]? = some u → (marksRs k0 rs)[j]? = some r → OwnP B w1 u r) := Lib.hid (fun j u r' hj hu ht => by
        by_cases e : j = k
        · subst e
          rw [HU.out] at hu
          cases hu
          rw [HMK.out] at ht
          cases ht
          exact o1
        · exact keep j u r' e hu (hdn.out j u r' (by omega) hu ht))
      clear hg o1 keep hown hin hdn hbt HM
      go_wp2_with fail
      go_roundw
      case rel => exact ⟨k + 1, by omega, by go_num, (by rw [HQ.out]; congr 1), O9, N9, D9, T9⟩
      case measure => simp [intOf]; omega
    · obtain rfl : k = n := by omega
      have e : rs.take k = rs := List.take_of_length_le (by rw [HT.out]; exact Nat.le_refl _)
      rw [e]
      go_wp2_with fail
      go_ret
      refine ⟨rfl, hown.out, ⟨by rw [marksRs_len, HT.out]; exact HUL.out, fun i u r hu hr => hdn.out i u r ?_ hu hr, HPW.out⟩, hbt.out⟩
      have := (List.getElem?_eq_some_iff.1 hu).1
      have := HUL.out
      omega
set_option maxRecDepth 100000 in
set_option maxHeartbeats 1600000 in
theorem heldRows (a : Option Addr) (n cap : Nat) (rs : List RowV) (w : World) (k0 : Nat) (h : IsRows w a n cap (marksRs k0 rs)) (hl : n + totR rs ≤ 1048576) (hk0 : 0 < k0) (hk1 : k0 ≤ 4000000) :
    Calls Try.prog 16 #[.slice a n cap, .int .i64 k0] w fun e w' => e = .returned (.int .i64 ((k0 + 2 * totR rs : Nat) : Int)) ∧ Below w.heap.size w w' := by
  have hlen : rs.length = n := by have := h.len; rwa [marksRs_len] at this
  have H := Lib.hid h
  have HT := Lib.hid hlen
  clear h hlen
  go_enter Try.func16, Try.ntmps16
  go_wp2_with fail
  go_loopw [1, 5] (fun q i wr => ∃ k : Nat, k ≤ n ∧ i = .int .i64 k ∧ q = .int .i64 ((k0 + 2 * totR (rs.take k) : Nat) : Int) ∧ Below w.heap.size w wr) (fun _ i _ => n - (intOf i).toNat)
  case atStart => exact ⟨0, Nat.zero_le _, rfl, by simp [totR], Below.refl _ _⟩
  case round =>
    obtain ⟨k, hk, rfl, rfl, hnx⟩ := hrel
    have hk6 : (0 : Int) ≤ (k : Int) := by omega
    by_cases hlt : k < n
    · have hk7 : (k : Int) < (n : Int) := by omega
      obtain ⟨b, off, rfl, hb, _, _, _, hc⟩ := (H.out.next hnx).cells (by omega)
      have ht : rs[k]? = some (rs[k]'(by have := HT.out; omega)) := List.getElem?_eq_getElem _
      obtain ⟨ua, un, uc, c0, hz⟩ := hc k _ (marksRs_at rs k0 k _ ht)
      have HS : Hid (totR (rs.take (k + 1)) = totR (rs.take k) + (rs[k]'(by have := HT.out; omega)).length) := Lib.hid (by rw [List.take_succ_eq_append_getElem (by have := HT.out; omega), totR_snoc])
      have hle := totR_take rs (k + 1)
      generalize rs[k]'(by have := HT.out; omega) = r at ht hz HS
      obtain rfl : un = r.length := by have := hz.len; rw [marksPK_len] at this; exact this.symm
      have HK := heldPairK ua r.length uc wr (k0 + 2 * totR (rs.take k)) hz (by have := HS.out; omega) (by omega) (by have := HS.out; omega)
      obtain ⟨q, hq⟩ : ∃ q : Nat, k0 + 2 * totR (rs.take k) = q := ⟨_, rfl⟩
      rw [hq] at HK
      have HQ : Hid (k0 + 2 * totR (rs.take (k + 1)) = q + 2 * r.length) := Lib.hid (by have := HS.out; omega)
      rw [hq]
      have HH := Lib.hid HK
      have hn0 : ¬ ((q + 2 * r.length : Nat) : Int) < 0 := by omega
      clear HK hq hle HS ht hz hc
      go_wp2_with fail
      refine HH.out.mono ?_
      rintro e w1 ⟨rfl, hb1⟩
      have B1 := hnx.trans (hb1.mono hnx.size)
      clear hb1 hnx HH c0
      go_wp2_with fail
      go_roundw
      case rel => exact ⟨k + 1, by omega, by go_num, (by rw [HQ.out]; congr 1), B1⟩
      case measure => simp [intOf]; omega
    · obtain rfl : k = n := by omega
      have e : rs.take k = rs := List.take_of_length_le (by rw [HT.out]; exact Nat.le_refl _)
      rw [e]
      go_wp2_with fail
      go_ret
      exact ⟨rfl, hnx⟩
end Go.Proofs.Ytnmoobahchlliaa
