/- Rows projected: the specification's own walk. -/
import Derived.Test.YtiajdnhmjdfeeaaGreatG28
import Derived.Test.YtiajdnhmjdfeeaaGreatG17
import Derived.Test.YtiajdnhmjdfeeaaGreatG06
import Derived.Test.YtiajdnhmjdfeeaaGreatG33
import Derived.Test.YtiajdnhmjdfeeaaGreatG35
import Derived.Test.YtiajdnhmjdfeeaaGreatG14
namespace Go.Proofs.YtiajdnhmjdfeeaaGreat
open Go.RowKit Go.WideShapes Go.Maps
theorem hasB_txts (vs : List ByteArray) (x : ByteArray) : hasB vs x = decide (x.data.toList ∈ txts vs) := by
  rw [Bool.eq_iff_iff]
  unfold hasB txts
  rw [List.any_eq_true, decide_eq_true_eq, List.mem_map]
  constructor
  · rintro ⟨y, hy, he⟩
    rw [beq_iff_eq, ByteArray.toList_eq, ByteArray.toList_eq] at he
    exact ⟨y, hy, he⟩
  · rintro ⟨y, hy, he⟩
    exact ⟨y, hy, by rw [beq_iff_eq, ByteArray.toList_eq, ByteArray.toList_eq]; exact he⟩
def ProjPost (w : World) (rs : List RowV) (vs : List ByteArray) (e : Ending) (w' : World) : Prop :=
  ∃ a n c, e = .returned (.tuple #[.slice a n c, .bool (projOk rs vs)]) ∧ IsRows w' a n c (projR rs vs) ∧ Below w.heap.size w w'
set_option maxRecDepth 100000 in
set_option maxHeartbeats 6400000 in
theorem specProjected (a b : Option Addr) (la ca lb cb : Nat) (rs : List RowV) (vs : List ByteArray) (w : World) (ha : IsRows w a la ca rs) (hb : IsStrs w b lb cb vs) (hsa : SmR rs) (hsb : ∀ t ∈ vs, t.size ≤ 1048576) (hlb : lb ≤ 1048576) :
    Calls Tryz.prog 50 #[.slice a la ca, .slice b lb cb] w (ProjPost w rs vs) := by
  obtain ⟨j0, hj0, hy0, hy1, hy2⟩ := info_parts infoPair
  have C' := specRowsOk a la ca rs w ha hsa
  have HA := Lib.hid ha
  have HB := Lib.hid hb
  have HSB := Lib.hid hsb
  have HVL := Lib.hid hb.len
  have HRL := Lib.hid ha.len
  have hlbm : lb ≤ 9223372036854775807 := by omega
  cases hq : rowsOkL rs
  · rw [hq] at C'
    have C := Lib.hid C'
    have HP : Hid (projOk rs vs = false) := Lib.hid (by unfold projOk; rw [hq, Bool.false_and])
    clear C' hq ha hb hsa hsb
    go_enter Tryz.func50, Tryz.ntmps50
    go_wp2_with fail
    refine C.out.mono ?_
    rintro e w1 ⟨rfl, hb1⟩
    go_wp2_with fail
    go_ret2
    exact ⟨none, 0, 0, by rw [HP.out]; rfl, by rw [projR_no HP.out]; exact .inl ⟨rfl, rfl, rfl, rfl⟩, hb1⟩
  have hla : la ≤ 300 := by have := rowsOk_most hq; rw [ha.len] at this; exact this
  have HROW : Hid (∀ r ∈ rs, r.length ≤ 12) := Lib.hid (fun r hr => rowsOk_row hq hr)
  have HSA := Lib.hid hsa
  have HRQ := Lib.hid hq
  obtain ⟨nm, hnm⟩ : ∃ nm, txts vs = nm := ⟨_, rfl⟩
  have HNM := Lib.hid hnm
  obtain ⟨ks, hks⟩ : ∃ ks, rs.map (keepL nm) = ks := ⟨_, rfl⟩
  have HKL : Hid (ks.length = la) := Lib.hid (by rw [← hks, List.length_map, ha.len])
  have HKS := Lib.hid hks
  have HKM : Hid (∀ r ∈ ks, (rowTextL r).length ≤ 140737488355328) := Lib.hid (fun r hr => by
    rw [← hks] at hr
    obtain ⟨s, hs, rfl⟩ := List.mem_map.1 hr
    have h1 := HROW.out s hs
    have h2 := keepL_len nm s
    have h3 := rowText_len (r := keepL nm s) (fun t ht => hsa s hs t (List.mem_filter.1 ht).1)
    omega)
  have HPL : Hid (projL rs vs = addAllR [] ks) := Lib.hid (by unfold projL; rw [hnm, hks])
  rw [hq] at C'
  have C := Lib.hid C'
  clear C' hq ha hb hsa hsb hnm hks
  go_enter Tryz.func50, Tryz.ntmps50
  go_wp2_with fail
  refine C.out.mono ?_
  rintro e w1 ⟨rfl, hb1⟩
  clear C
  go_wp2_with fail
  go_loopw [6] (fun i wr => ∃ k : Nat, k ≤ lb ∧ i = .int .i64 k ∧ Hid ((txts (vs.take k)).all isVarK = true) ∧ Below w.heap.size w wr) (fun i _ => lb - (intOf i).toNat)
  case atStart => exact ⟨0, Nat.zero_le _, rfl, Lib.hid rfl, hb1⟩
  case round =>
    obtain ⟨k, hk, rfl, hal, hnx⟩ := hrel
    clear hb1
    have hk6 : (0 : Int) ≤ (k : Int) := by omega
    by_cases hlt : k < lb
    · obtain ⟨bb, off, rfl, hbb, _, _, hts, hcs⟩ := HB.out.cells (by omega)
      have ht : vs[k]? = some (vs[k]'(by omega)) := List.getElem?_eq_getElem (by omega)
      have c0 := hcs k _ ht
      have HK : Hid (vs.take (k + 1) = vs.take k ++ [vs[k]'(by omega)]) := Lib.hid (List.take_succ_eq_append_getElem (by omega))
      have hx1 := HSB.out _ (List.getElem_mem (by omega : k < vs.length))
      have HMEM := Lib.hid (List.getElem_mem (by omega : k < vs.length))
      rw [← hnx.cell (p := ⟨bb, _, none⟩) hbb] at c0
      generalize vs[k]'(by omega) = x at c0 HK hx1 HMEM
      have CV' := specKindOf x (by omega)
      have hk7 : (k : Int) < (lb : Int) := by omega
      have EK : (kindL x.data.toList = 4 ∧ isVarK x.data.toList = true) ∨ (((kindL x.data.toList : Nat) : Int) ≠ 4 ∧ isVarK x.data.toList = false) := by
        unfold isVarK
        by_cases g : kindL x.data.toList = 4
        · exact .inl ⟨g, by simp [g]⟩
        · exact .inr ⟨by omega, by simp [g]⟩
      generalize kindL x.data.toList = kk at CV' EK
      have CV := Lib.hid CV'
      clear CV' hts hcs ht
      rcases EK with ⟨rfl, e2⟩ | ⟨e1, e2⟩
      · have HN := Lib.hid (varsOk_step hal.out HK.out e2)
        clear e2 hal HK
        go_wp2_with fail
        refine (CV.out _).mono ?_
        rintro e w4 ⟨rfl, hb4⟩
        have B4 := hnx.trans (hb4.mono hnx.size)
        clear hb4 hnx CV c0
        go_wp2_with fail
        go_roundw
        case rel => exact ⟨k + 1, by omega, by go_num, HN, B4⟩
        case measure => simp [intOf]; omega
      · have HP : Hid (projOk rs vs = false) := Lib.hid (by unfold projOk; rw [varsOk_not HMEM.out e2, Bool.and_false])
        have e3 : ((kk : Int) != 4) = true := by simpa using e1
        have e4 : ((kk : Int) == 4) = false := by simpa using e1
        clear e2
        go_wp2_with fail
        refine (CV.out _).mono ?_
        rintro e w4 ⟨rfl, hb4⟩
        have B4 := hnx.trans (hb4.mono hnx.size)
        clear hb4 hnx CV c0
        go_wp2_with fail
        go_ret2
        exact ⟨none, 0, 0, by rw [HP.out]; rfl, by rw [projR_no HP.out]; exact .inl ⟨rfl, rfl, rfl, rfl⟩, B4⟩
    · have hkl : k = lb := by omega
      have HVO : Hid (projOk rs vs = true) := Lib.hid (by
        have h1 := hal.out
        rw [List.take_of_length_le (by rw [HVL.out]; omega)] at h1
        unfold projOk varsOkL
        rw [HRQ.out, h1]; rfl)
      obtain ⟨wo, rfl⟩ : ∃ x, x = wr := ⟨_, rfl⟩
      have O0 : OutI w.heap.size (wo.alloc (.cells #[] 50)) (.slice (some ⟨wo.heap.size, 0, none⟩) 0 0) [] [] := ⟨World.ownsRow_lit (size := 1) (e := 50) wo #[] 0 hnx.size (by decide) rfl, rfl, by simp⟩
      have HO0 := Lib.hid O0
      have B2 := hnx.alloc hnx.size (.cells #[] 50)
      clear O0 hnx hal hkl
      go_wp2_with fail
      clear hlt hk6 hk
      go_loopw [7, 8] (fun v i wr => ∃ k g n c : Nat, k ≤ la ∧ i = .int .i64 k ∧ v = .slice (some ⟨g, 0, none⟩) n c ∧ n ≤ k ∧ (∃ us, Hid (OutI w.heap.size wr (.slice (some ⟨g, 0, none⟩) n c) (addAllR [] (ks.take k)) us ∧ (addAllR [] (ks.take k)).length = n)) ∧ Below w.heap.size w wr) (fun _ i _ => la - (intOf i).toNat)
      case atStart => exact ⟨0, _, 0, 0, Nat.zero_le _, rfl, rfl, Nat.le_refl _, ⟨[], Lib.hid ⟨by simpa [addAllR] using HO0.out, by simp [addAllR]⟩⟩, B2⟩
      case round =>
        obtain ⟨k, g, n, c, hk, rfl, rfl, hnk, ⟨us, HO⟩, hnx⟩ := hrel
        clear HO0 B2
        have hk6 : (0 : Int) ≤ (k : Int) := by omega
        by_cases hlt : k < la
        · obtain ⟨bb, off, rfl, hbb, _, _, hts, hcs⟩ := HA.out.cells (by omega)
          have ht : rs[k]? = some (rs[k]'(by omega)) := List.getElem?_eq_getElem (by omega)
          obtain ⟨a1, n1, c1, c0, hz0⟩ := hcs k _ ht
          have hrm := List.getElem_mem (by omega : k < rs.length)
          have hr12 := HROW.out _ hrm
          have hsm := HSA.out _ hrm
          have HKT : Hid (ks.take (k + 1) = ks.take k ++ [keepL nm (rs[k]'(by omega))]) := Lib.hid (by
            have e : ks[k]? = some (keepL nm (rs[k]'(by omega))) := by rw [← HKS.out, List.getElem?_map, ht]; rfl
            have hkk : k < ks.length := by rw [HKL.out]; exact hlt
            rw [List.take_succ_eq_append_getElem hkk]
            rw [List.getElem?_eq_getElem hkk] at e
            rw [Option.some.inj e])
          have HTX := Lib.hid (HKM.out (keepL nm (rs[k]'(by omega))) (by rw [← HKS.out]; exact List.mem_map_of_mem hrm))
          generalize rs[k]'(by omega) = s at hz0 hr12 hsm HKT HTX
          have HZ := Lib.hid hz0
          have hn1 := hz0.len
          have hn12 : n1 ≤ 12 := by omega
          have HN1 := Lib.hid hn1
          have HSM := Lib.hid hsm
          have HC0 := Lib.hid c0
          have hk7 : (k : Int) < (la : Int) := by omega
          obtain ⟨wo, rfl⟩ : ∃ x, x = wr := ⟨_, rfl⟩
          have P0 : OwnP wo.heap.size (wo.alloc (.cells #[] 55)) (.slice (some ⟨wo.heap.size, 0, none⟩) 0 0) [] := World.ownsRow_lit (size := 2) (e := 55) wo #[] 0 (Nat.le_refl _) (by decide) rfl
          have HP0 := Lib.hid P0
          have B3 := (Below.refl wo.heap.size wo).alloc (Nat.le_refl _) (.cells #[] 55)
          have HWO := Lib.hid hnx
          clear hts hcs ht hz0 hrm hr12 hsm hn1 P0 c0 hnx
          go_wp2_with fail
          go_loopw [9, 10] (fun v' i wr => ∃ (j : Nat) (v : Value), j ≤ n1 ∧ i = .int .i64 j ∧ v = v' ∧ Hid (OwnP wo.heap.size wr v (keepL nm (s.take j))) ∧ Below wo.heap.size wo wr) (fun _ i _ => n1 - (intOf i).toNat)
          case atStart => exact ⟨0, _, Nat.zero_le _, rfl, rfl, by simpa [keepL] using HP0, B3⟩
          case round =>
            obtain ⟨j, v, hj, rfl, rfl, hown, hbx⟩ := hrel
            clear HP0 B3
            have hj6 : (0 : Int) ≤ (j : Int) := by omega
            have hnx := HWO.out.trans (hbx.mono HWO.out.size)
            have c0 := HC0.out
            rw [← hnx.cell (p := ⟨bb, _, none⟩) hbb] at c0
            by_cases hlj : j < n1
            · obtain ⟨x, xo, rfl, hx, _, _, hts, hcs⟩ := HZ.out.cells (by omega)
              have ht : s[j]? = some (s[j]'(by omega)) := List.getElem?_eq_getElem (by omega)
              obtain ⟨d0, d1, m0, m1⟩ := hcs j _ ht
              rw [← hnx.cell (p := ⟨x, _, none⟩) hx] at d0 d1
              have HK : Hid (s.take (j + 1) = s.take j ++ [s[j]'(by omega)]) := Lib.hid (List.take_succ_eq_append_getElem (by omega))
              have hkl : (keepL nm (s.take j)).length ≤ j := by have := keepL_len nm (s.take j); rw [List.length_take] at this; omega
              generalize s[j]'(by omega) = t at d0 d1 HK m0 m1
              obtain ⟨y, z⟩ := t
              dsimp only at d0 d1 m0
              have HN : Hid (keepL nm (s.take (j + 1)) = if y.data.toList ∈ nm then keepL nm (s.take j) ++ [(y, z)] else keepL nm (s.take j)) := Lib.hid (by rw [HK.out, keepL_snoc])
              have HH := Lib.hid (fun W (h : Below wr.heap.size wr W) => specHas b lb cb vs y W ((HB.out.next hnx).next h) hlb)
              have HHB : Hid (hasB vs y = decide (y.data.toList ∈ nm)) := Lib.hid (by rw [hasB_txts, HNM.out])
              have hj7 : (j : Int) < (n1 : Int) := by omega
              clear hts hcs ht HK m0 m1
              generalize keepL nm (s.take j) = kr at HN hkl hown
              go_wp2_with fail
              refine (HH.out _ (by first | exact Below.refl _ _ | exact Below.drew (Below.refl _ _))).mono ?_
              rintro e w4 ⟨rfl, hw4⟩
              obtain rfl : wr = w4 := hw4.symm
              clear HH
              by_cases hin : y.data.toList ∈ nm
              · have HM : Hid (keepL nm (s.take (j + 1)) = kr ++ [(y, z)]) := Lib.hid (by rw [HN.out, if_pos hin])
                have hd : hasB vs y = true := by rw [HHB.out]; exact decide_eq_true hin
                have HA2 := Lib.hid (World.ownsRow.alloc hown.out (.cells #[.string y, .string z] 55))
                have HC2 := Lib.hid (hbx.alloc hbx.size (.cells #[.string y, .string z] 55))
                clear HN hin HHB
                rw [hd]
                clear hd
                go_wp2_with (at_builtin; refine wpList_append_own_at _ rfl _ _ 50 rfl wo.heap.size 55 j0 (.agg #[.string ⟨#[]⟩, .string ⟨#[]⟩]) 2 32 Tryz.underlying50 hj0 hy0 hy1 hy2 rfl (by decide) _ _ _ rfl HA2.out ⟨_, 0, none⟩ 1 1 [.string y, .string z] rfl rfl ?d1 ?d2 ?d3 ?d4 ?d5 ?_)
                case d1 => exact two_cellP rfl
                case d2 => exact two_one _ _
                case d3 => unfold maxLen; omega
                case d4 => omega
                case d5 => exact HC2.out.size
                intro v' w6 hown6 hg6 _ _
                have O6 : Hid (OwnP wo.heap.size w6 v' (keepL nm (s.take (j + 1)))) := Lib.hid (by rw [HM.out]; exact own_snocP hown6)
                have B6 := HC2.out.grown hg6 HC2.out.size (fun q hq => (World.ownsRow.lt hown.out q hq).1)
                clear hown6 hg6 HA2 HC2 hown hbx hnx c0 d0 d1
                go_wp2_with fail
                go_roundw
                case rel => exact ⟨j + 1, _, by omega, by go_num, rfl, O6, B6⟩
                case measure => simp [intOf]; omega
              · have HM : Hid (keepL nm (s.take (j + 1)) = kr) := Lib.hid (by rw [HN.out, if_neg hin])
                have hd : hasB vs y = false := by rw [HHB.out]; exact decide_eq_false hin
                have O6 : Hid (OwnP wo.heap.size wr v (keepL nm (s.take (j + 1)))) := Lib.hid (by rw [HM.out]; exact hown.out)
                clear HN hin HHB hown
                rw [hd]
                clear hd
                go_wp2_with fail
                go_roundw
                case rel => exact ⟨j + 1, _, by omega, by go_num, rfl, O6, hbx⟩
                case measure => simp [intOf]; omega
            · have hown' := hown.out
              rw [List.take_of_length_le (by rw [HN1.out]; omega)] at hown'
              obtain ⟨va, vc, hve, hv⟩ := hown'.is (fun t ht => by have := HSM.out t (List.mem_filter.1 ht).1; unfold maxLen; omega)
              subst hve
              have hkl := keepL_len nm s
              have hsl := HN1.out
              have HAD : Hid (addAllR [] (ks.take (k + 1)) = addR (addAllR [] (ks.take k)) (keepL nm s)) := Lib.hid (by rw [HKT.out, addAllR_snoc])
              have HLG : Hid (LongR (addAllR [] (ks.take k))) := Lib.hid (fun r hr => by
                rcases addAllR_mem hr with h | h
                · simp at h
                · exact HKM.out r (List.mem_of_mem_take h))
              generalize addAllR [] (ks.take k) = AL at HO HAD HLG
              generalize keepL nm s = kr at hv hkl HAD HTX
              generalize hkn : kr.length = kn at hv hkl ⊢
              have hAL := HO.out.2
              have E := Lib.hid (fun W (h : Below wr.heap.size wr W) => specAdd w.heap.size g n c AL us va kn vc kr W ((HO.out.1.next hbx).next h) HO.out.2 (by omega) (by have := hnx.size; have := h.size; omega) (hv.next h) (by omega) HLG.out HTX.out)
              clear hown hown' hv HO HTX HLG
              go_wp2_with fail
              refine (E.out _ (by first | exact Below.refl _ _ | exact Below.drew (Below.refl _ _))).mono ?_
              rintro e w5 ⟨g', n', c', us', rfl, ho5, hl5, hb5⟩
              have B5 := hnx.trans (hb5.mono hnx.size)
              have hn5 : n' ≤ n + 1 := by have := addR_len AL kr; omega
              have HO5 := Lib.hid (And.intro ho5 hl5)
              rw [← HAD.out] at HO5
              clear ho5 hl5 hb5 E hnx hbx c0
              go_wp2_with fail
              go_roundw
              case rel => exact ⟨k + 1, g', n', c', by omega, by go_num, rfl, by omega, ⟨us', HO5⟩, B5⟩
              case measure => simp [intOf]; omega
        · have HF : Hid (OutI w.heap.size wr (.slice (some ⟨g, 0, none⟩) n c) (addAllR [] ks) us) := Lib.hid (by
            have h1 := HO.out.1
            rw [List.take_of_length_le (by rw [HKL.out]; omega)] at h1
            exact h1)
          clear HO
          go_wp2_with fail
          go_ret2
          have i9 : IsRows wr (some ⟨g, 0, none⟩) n c (addAllR [] ks) := by
            obtain ⟨a9, c9, e9, i9⟩ := HF.out.is
            simp only [Value.slice.injEq] at e9
            obtain ⟨e1, e2, e3⟩ := e9
            rw [e1, e2, e3]
            exact i9
          exact ⟨some ⟨g, 0, none⟩, n, c, by rw [HVO.out]; rfl, by rw [projR_yes HVO.out, HPL.out]; exact i9, hnx⟩
end Go.Proofs.YtiajdnhmjdfeeaaGreat
/- A query's answer: the specification. -/
namespace Go.Proofs.YtiajdnhmjdfeeaaGreat
open Go.RowKit Go.WideShapes
set_option maxRecDepth 100000 in
set_option maxHeartbeats 6400000 in
theorem specAnswer (a : Option Addr) (la ca : Nat) (gs : List Tri3) (a0 a1 a2 : Option Addr) (n0 n1 n2 c0 c1 c2 : Nat) (vs : List ByteArray) (t1 t2 : List Tri3) (w : World) (ha : IsTris w a la ca gs) (h : IsQry w a0 a1 a2 n0 n1 n2 c0 c1 c2 vs t1 t2) (hga : SmT gs) (s0 : ∀ t ∈ vs, t.size ≤ 1048576) (s1 : SmT t1) (s2 : SmT t2) (l0 : n0 ≤ 1048576) :
    Calls Tryz.prog 10 #[.slice a la ca, .agg #[.slice a0 n0 c0, .slice a1 n1 c1, .slice a2 n2 c2]] w fun e w' => ∃ x n c, e = .returned (.tuple #[.slice x n c, .bool (ansOk gs vs t1 t2)]) ∧ IsRows w' x n c (ansR gs vs t1 t2) ∧ Below w.heap.size w w' := by
  have B0 := Lib.hid ((Below.refl w.heap.size w).alloc (Nat.le_refl _) (.cells #[.slice a0 n0 c0, .slice a1 n1 c1, .slice a2 n2 c2] 34))
  have X0 := Lib.hid (cells_new w #[.slice a0 n0 c0, .slice a1 n1 c1, .slice a2 n2 c2] 34)
  have I0 := Lib.hid (h.next ((Below.refl w.heap.size w).alloc (Nat.le_refl _) (.cells #[.slice a0 n0 c0, .slice a1 n1 c1, .slice a2 n2 c2] 34)))
  have A0 := Lib.hid (ha.next ((Below.refl w.heap.size w).alloc (Nat.le_refl _) (.cells #[.slice a0 n0 c0, .slice a1 n1 c1, .slice a2 n2 c2] 34)))
  have HS1 := Lib.hid s1
  have HS2 := Lib.hid s2
  have HGA := Lib.hid hga
  have HS0 := Lib.hid s0
  have HT2 := Lib.hid h.2.2.len
  have HLA := Lib.hid ha.len
  have HT1 := Lib.hid h.2.1.len
  obtain ⟨bb, hbb⟩ : ∃ q, ansOk gs vs t1 t2 = q := ⟨_, rfl⟩
  obtain ⟨R, hR⟩ : ∃ q, ansR gs vs t1 t2 = q := ⟨_, rfl⟩
  have HBB := Lib.hid hbb
  have HRR := Lib.hid hR
  rw [hbb, hR]
  clear h ha s0 s1 s2 hga hbb hR
  cases hg : graphOk gs
  · have HF : Hid (bb = false ∧ R = []) := Lib.hid (by rw [← HBB.out, ← HRR.out]; exact ans_none (ansRows_g hg))
    have Cg := fun (W : World) (hi : IsTris W a la ca gs) => specGraphOk a la ca gs W hi HGA.out.sm
    rw [hg] at Cg
    have HG := Lib.hid Cg
    clear Cg
    clear hg
    go_enter Tryz.func10, Tryz.ntmps10
    obtain ⟨xv0, xv1, xv2⟩ := X0.out.now.tre
    go_wp2_with fail
    refine (HG.out _ A0.out).mono ?_
    rintro e w1 ⟨rfl, hb⟩
    clear xv0 xv1 xv2
    have B1 := Lib.hid (B0.out.trans (hb.mono B0.out.size))
    have X1 := Lib.hid (X0.out.next hb)
    have I1 := Lib.hid (I0.out.next hb)
    have A1 := Lib.hid (A0.out.next hb)
    clear hb B0 X0 I0 A0
    obtain ⟨xv0, xv1, xv2⟩ := X1.out.now.tre
    go_wp2_with fail
    go_ret2
    exact ⟨none, 0, 0, by rw [HF.out.1]; rfl, by rw [HF.out.2]; exact isRows_nil _, B1.out⟩
  cases hq : queryOk vs t1 t2
  · have HF : Hid (bb = false ∧ R = []) := Lib.hid (by rw [← HBB.out, ← HRR.out]; exact ans_none (ansRows_q hq))
    have Cq := fun (W : World) (hi : IsQry W a0 a1 a2 n0 n1 n2 c0 c1 c2 vs t1 t2) => specQueryOk a0 a1 a2 n0 n1 n2 c0 c1 c2 vs t1 t2 W hi HS1.out.sm HS2.out.sm l0
    rw [hq] at Cq
    have HQ := Lib.hid Cq
    clear Cq
    have Cg := fun (W : World) (hi : IsTris W a la ca gs) => specGraphOk a la ca gs W hi HGA.out.sm
    rw [hg] at Cg
    have HG := Lib.hid Cg
    clear Cg
    clear hq hg
    go_enter Tryz.func10, Tryz.ntmps10
    obtain ⟨xv0, xv1, xv2⟩ := X0.out.now.tre
    go_wp2_with fail
    refine (HG.out _ A0.out).mono ?_
    rintro e w1 ⟨rfl, hb⟩
    clear xv0 xv1 xv2
    have B1 := Lib.hid (B0.out.trans (hb.mono B0.out.size))
    have X1 := Lib.hid (X0.out.next hb)
    have I1 := Lib.hid (I0.out.next hb)
    have A1 := Lib.hid (A0.out.next hb)
    clear hb B0 X0 I0 A0
    obtain ⟨xv0, xv1, xv2⟩ := X1.out.now.tre
    go_wp2_with fail
    refine (HQ.out _ I1.out).mono ?_
    rintro e w2 ⟨rfl, hb⟩
    clear xv0 xv1 xv2
    have B2 := Lib.hid (B1.out.trans (hb.mono B1.out.size))
    have X2 := Lib.hid (X1.out.next hb)
    have I2 := Lib.hid (I1.out.next hb)
    have A2 := Lib.hid (A1.out.next hb)
    clear hb B1 X1 I1 A1
    obtain ⟨xv0, xv1, xv2⟩ := X2.out.now.tre
    go_wp2_with fail
    go_ret2
    exact ⟨none, 0, 0, by rw [HF.out.1]; rfl, by rw [HF.out.2]; exact isRows_nil _, B2.out⟩
  have Cq := fun (W : World) (hi : IsQry W a0 a1 a2 n0 n1 n2 c0 c1 c2 vs t1 t2) => specQueryOk a0 a1 a2 n0 n1 n2 c0 c1 c2 vs t1 t2 W hi HS1.out.sm HS2.out.sm l0
  rw [hq] at Cq
  have HQ := Lib.hid Cq
  clear Cq
  have HBG := Lib.hid (queryOk_bgp hq)
  obtain ⟨rs, hrs⟩ : ∃ q, solR gs t1 = q := ⟨_, rfl⟩
  have HRS := Lib.hid hrs
  have HSM : Hid (SmR rs) := Lib.hid (by rw [← hrs]; exact solR_sm HGA.out HS1.out)
  have Cg := fun (W : World) (hi : IsTris W a la ca gs) => specGraphOk a la ca gs W hi HGA.out.sm
  rw [hg] at Cg
  have HG := Lib.hid Cg
  clear Cg
  obtain ⟨e1, e2⟩ := solOk_yes (gs := gs) (ls := t1) (by rw [hg, HBG.out.1]; rfl)
  have Cs := fun (W : World) (hx : IsTris W a la ca gs) (hy : IsTris W a1 n1 c1 t1) => specSolve a a1 none la ca n1 c1 0 0 gs t1 [] W hx hy (isPres_nil W) (by rw [← HLA.out]; exact (graphOk_iff.1 hg).1) (by rw [← HT1.out]; exact (bgpOk_iff.1 HBG.out.1).1) (by omega) HGA.out HS1.out (fun u hu => by simp at hu)
  unfold SolvePost at Cs
  rw [← e1, ← e2, hrs] at Cs
  clear e1 e2
  clear hrs
  cases hs : solOk gs t1
  · have HF : Hid (bb = false ∧ R = []) := Lib.hid (by rw [← HBB.out, ← HRR.out]; exact ans_none (ansRows_s hs))
    rw [hs] at Cs
    have HS := Lib.hid Cs
    clear Cs hs hq hg
    go_enter Tryz.func10, Tryz.ntmps10
    obtain ⟨xv0, xv1, xv2⟩ := X0.out.now.tre
    go_wp2_with fail
    refine (HG.out _ A0.out).mono ?_
    rintro e w1 ⟨rfl, hb⟩
    clear xv0 xv1 xv2
    have B1 := Lib.hid (B0.out.trans (hb.mono B0.out.size))
    have X1 := Lib.hid (X0.out.next hb)
    have I1 := Lib.hid (I0.out.next hb)
    have A1 := Lib.hid (A0.out.next hb)
    clear hb B0 X0 I0 A0
    obtain ⟨xv0, xv1, xv2⟩ := X1.out.now.tre
    go_wp2_with fail
    refine (HQ.out _ I1.out).mono ?_
    rintro e w2 ⟨rfl, hb⟩
    clear xv0 xv1 xv2
    have B2 := Lib.hid (B1.out.trans (hb.mono B1.out.size))
    have X2 := Lib.hid (X1.out.next hb)
    have I2 := Lib.hid (I1.out.next hb)
    have A2 := Lib.hid (A1.out.next hb)
    clear hb B1 X1 I1 A1
    obtain ⟨xv0, xv1, xv2⟩ := X2.out.now.tre
    go_wp2_with fail
    refine (HS.out _ A2.out I2.out.2.1).mono ?_
    rintro e w3 ⟨rx, rn, rc, rfl, ri, hb⟩
    clear xv0 xv1 xv2
    have B3 := Lib.hid (B2.out.trans (hb.mono B2.out.size))
    have X3 := Lib.hid (X2.out.next hb)
    have I3 := Lib.hid (I2.out.next hb)
    have A3 := Lib.hid (A2.out.next hb)
    clear hb B2 X2 I2 A2
    clear ri
    obtain ⟨xv0, xv1, xv2⟩ := X3.out.now.tre
    go_wp2_with fail
    go_ret2
    exact ⟨none, 0, 0, by rw [HF.out.1]; rfl, by rw [HF.out.2]; exact isRows_nil _, B3.out⟩
  rw [hs] at Cs
  have HS := Lib.hid Cs
  clear Cs
  by_cases hn2 : n2 = 0
  · have HF : Hid (bb = projOk rs vs ∧ R = projR rs vs) := Lib.hid (by rw [← HBB.out, ← HRR.out, ← HRS.out]; exact ans_some (ansRows_0 hq hs (by rw [HT2.out]; exact hn2)))
    have HP := Lib.hid (fun (x : Option Addr) (n c : Nat) (W : World) (hx : IsRows W x n c rs) (hy : IsStrs W a0 n0 c0 vs) => specProjected x a0 n c n0 c0 rs vs W hx hy HSM.out HS0.out l0)
    have hz : ¬ 0 < n2 := by omega
    clear hq hs hn2 hg
    go_enter Tryz.func10, Tryz.ntmps10
    obtain ⟨xv0, xv1, xv2⟩ := X0.out.now.tre
    go_wp2_with fail
    refine (HG.out _ A0.out).mono ?_
    rintro e w1 ⟨rfl, hb⟩
    clear xv0 xv1 xv2
    have B1 := Lib.hid (B0.out.trans (hb.mono B0.out.size))
    have X1 := Lib.hid (X0.out.next hb)
    have I1 := Lib.hid (I0.out.next hb)
    have A1 := Lib.hid (A0.out.next hb)
    clear hb B0 X0 I0 A0
    obtain ⟨xv0, xv1, xv2⟩ := X1.out.now.tre
    go_wp2_with fail
    refine (HQ.out _ I1.out).mono ?_
    rintro e w2 ⟨rfl, hb⟩
    clear xv0 xv1 xv2
    have B2 := Lib.hid (B1.out.trans (hb.mono B1.out.size))
    have X2 := Lib.hid (X1.out.next hb)
    have I2 := Lib.hid (I1.out.next hb)
    have A2 := Lib.hid (A1.out.next hb)
    clear hb B1 X1 I1 A1
    obtain ⟨xv0, xv1, xv2⟩ := X2.out.now.tre
    go_wp2_with fail
    refine (HS.out _ A2.out I2.out.2.1).mono ?_
    rintro e w3 ⟨rx, rn, rc, rfl, ri, hb⟩
    clear xv0 xv1 xv2
    have B3 := Lib.hid (B2.out.trans (hb.mono B2.out.size))
    have X3 := Lib.hid (X2.out.next hb)
    have I3 := Lib.hid (I2.out.next hb)
    have A3 := Lib.hid (A2.out.next hb)
    clear hb B2 X2 I2 A2
    have Y3 := Lib.hid ri
    clear ri
    obtain ⟨xv0, xv1, xv2⟩ := X3.out.now.tre
    go_wp2_with fail
    refine (HP.out _ _ _ _ Y3.out I3.out.1.1).mono ?_
    rintro e wz ⟨ra, rn2, rc2, rfl, rj, hb⟩
    clear xv0 xv1 xv2
    have BZ := Lib.hid (B3.out.trans (hb.mono B3.out.size))
    have HO := Lib.hid rj
    clear rj
    clear hb B3 X3 I3 A3 Y3
    go_wp2_with fail
    go_ret2
    exact ⟨_, _, _, by rw [HF.out.1]; rfl, by rw [HF.out.2]; exact HO.out, BZ.out⟩
  have hz : 0 < n2 := by omega
  have hn3 : ¬ t2.length = 0 := by rw [HT2.out]; exact hn2
  have Cx := fun (x : Option Addr) (n c : Nat) (W : World) (hx : IsTris W a la ca gs) (hr : IsRows W x n c rs) (hy : IsTris W a2 n2 c2 t2) => specExtended a x a2 la ca n c n2 c2 gs rs t2 W hx hr hy HGA.out HSM.out HS2.out
  unfold ExtPost at Cx
  cases hx : extOk gs rs t2
  · have HF : Hid (bb = false ∧ R = []) := Lib.hid (by rw [← HBB.out, ← HRR.out]; exact ans_none (ansRows_y hn3 (by rw [HRS.out]; exact hx)))
    rw [hx] at Cx
    have HX := Lib.hid Cx
    clear Cx hx hq hs hn2 hn3 hg
    go_enter Tryz.func10, Tryz.ntmps10
    obtain ⟨xv0, xv1, xv2⟩ := X0.out.now.tre
    go_wp2_with fail
    refine (HG.out _ A0.out).mono ?_
    rintro e w1 ⟨rfl, hb⟩
    clear xv0 xv1 xv2
    have B1 := Lib.hid (B0.out.trans (hb.mono B0.out.size))
    have X1 := Lib.hid (X0.out.next hb)
    have I1 := Lib.hid (I0.out.next hb)
    have A1 := Lib.hid (A0.out.next hb)
    clear hb B0 X0 I0 A0
    obtain ⟨xv0, xv1, xv2⟩ := X1.out.now.tre
    go_wp2_with fail
    refine (HQ.out _ I1.out).mono ?_
    rintro e w2 ⟨rfl, hb⟩
    clear xv0 xv1 xv2
    have B2 := Lib.hid (B1.out.trans (hb.mono B1.out.size))
    have X2 := Lib.hid (X1.out.next hb)
    have I2 := Lib.hid (I1.out.next hb)
    have A2 := Lib.hid (A1.out.next hb)
    clear hb B1 X1 I1 A1
    obtain ⟨xv0, xv1, xv2⟩ := X2.out.now.tre
    go_wp2_with fail
    refine (HS.out _ A2.out I2.out.2.1).mono ?_
    rintro e w3 ⟨rx, rn, rc, rfl, ri, hb⟩
    clear xv0 xv1 xv2
    have B3 := Lib.hid (B2.out.trans (hb.mono B2.out.size))
    have X3 := Lib.hid (X2.out.next hb)
    have I3 := Lib.hid (I2.out.next hb)
    have A3 := Lib.hid (A2.out.next hb)
    clear hb B2 X2 I2 A2
    have Y3 := Lib.hid ri
    clear ri
    obtain ⟨xv0, xv1, xv2⟩ := X3.out.now.tre
    go_wp2_with fail
    refine (HX.out _ _ _ _ A3.out Y3.out I3.out.2.2).mono ?_
    rintro e w4 ⟨rx2, rn2, rc2, rfl, rj, hb⟩
    clear xv0 xv1 xv2
    have B4 := Lib.hid (B3.out.trans (hb.mono B3.out.size))
    have X4 := Lib.hid (X3.out.next hb)
    have I4 := Lib.hid (I3.out.next hb)
    have A4 := Lib.hid (A3.out.next hb)
    have Y4 := Lib.hid (Y3.out.next hb)
    clear hb B3 X3 I3 A3 Y3
    clear rj
    obtain ⟨xv0, xv1, xv2⟩ := X4.out.now.tre
    go_wp2_with fail
    go_ret2
    exact ⟨none, 0, 0, by rw [HF.out.1]; rfl, by rw [HF.out.2]; exact isRows_nil _, B4.out⟩
  · obtain ⟨us, hus⟩ : ∃ q, extR gs rs t2 = q := ⟨_, rfl⟩
    have HSU : Hid (SmR us) := Lib.hid (by rw [← hus]; exact extR_sm HGA.out HSM.out HS2.out)
    have HF : Hid (bb = projOk us vs ∧ R = projR us vs) := Lib.hid (by rw [← HBB.out, ← HRR.out, ← hus, ← HRS.out]; exact ans_some (ansRows_x hq hs hn3 (by rw [HRS.out]; exact hx)))
    rw [hx, hus] at Cx
    have HX := Lib.hid Cx
    have HP := Lib.hid (fun (x : Option Addr) (n c : Nat) (W : World) (hx : IsRows W x n c us) (hy : IsStrs W a0 n0 c0 vs) => specProjected x a0 n c n0 c0 us vs W hx hy HSU.out HS0.out l0)
    clear Cx hx hq hs hn2 hn3 hus hg
    go_enter Tryz.func10, Tryz.ntmps10
    obtain ⟨xv0, xv1, xv2⟩ := X0.out.now.tre
    go_wp2_with fail
    refine (HG.out _ A0.out).mono ?_
    rintro e w1 ⟨rfl, hb⟩
    clear xv0 xv1 xv2
    have B1 := Lib.hid (B0.out.trans (hb.mono B0.out.size))
    have X1 := Lib.hid (X0.out.next hb)
    have I1 := Lib.hid (I0.out.next hb)
    have A1 := Lib.hid (A0.out.next hb)
    clear hb B0 X0 I0 A0
    obtain ⟨xv0, xv1, xv2⟩ := X1.out.now.tre
    go_wp2_with fail
    refine (HQ.out _ I1.out).mono ?_
    rintro e w2 ⟨rfl, hb⟩
    clear xv0 xv1 xv2
    have B2 := Lib.hid (B1.out.trans (hb.mono B1.out.size))
    have X2 := Lib.hid (X1.out.next hb)
    have I2 := Lib.hid (I1.out.next hb)
    have A2 := Lib.hid (A1.out.next hb)
    clear hb B1 X1 I1 A1
    obtain ⟨xv0, xv1, xv2⟩ := X2.out.now.tre
    go_wp2_with fail
    refine (HS.out _ A2.out I2.out.2.1).mono ?_
    rintro e w3 ⟨rx, rn, rc, rfl, ri, hb⟩
    clear xv0 xv1 xv2
    have B3 := Lib.hid (B2.out.trans (hb.mono B2.out.size))
    have X3 := Lib.hid (X2.out.next hb)
    have I3 := Lib.hid (I2.out.next hb)
    have A3 := Lib.hid (A2.out.next hb)
    clear hb B2 X2 I2 A2
    have Y3 := Lib.hid ri
    clear ri
    obtain ⟨xv0, xv1, xv2⟩ := X3.out.now.tre
    go_wp2_with fail
    refine (HX.out _ _ _ _ A3.out Y3.out I3.out.2.2).mono ?_
    rintro e w4 ⟨rx, rn, rc, rfl, ri, hb⟩
    clear xv0 xv1 xv2
    have B4 := Lib.hid (B3.out.trans (hb.mono B3.out.size))
    have X4 := Lib.hid (X3.out.next hb)
    have I4 := Lib.hid (I3.out.next hb)
    have A4 := Lib.hid (A3.out.next hb)
    have Y4 := Lib.hid (Y3.out.next hb)
    clear hb B3 X3 I3 A3 Y3
    clear Y4
    have Y4 := Lib.hid ri
    clear ri
    obtain ⟨xv0, xv1, xv2⟩ := X4.out.now.tre
    go_wp2_with fail
    refine (HP.out _ _ _ _ Y4.out I4.out.1.1).mono ?_
    rintro e wz ⟨ra, rn2, rc2, rfl, rj, hb⟩
    clear xv0 xv1 xv2
    have BZ := Lib.hid (B4.out.trans (hb.mono B4.out.size))
    have HO := Lib.hid rj
    clear rj
    clear hb B4 X4 I4 A4 Y4
    go_wp2_with fail
    go_ret2
    exact ⟨_, _, _, by rw [HF.out.1]; rfl, by rw [HF.out.2]; exact HO.out, BZ.out⟩
end Go.Proofs.YtiajdnhmjdfeeaaGreat
/- A query's answer, told by where things lie. -/
namespace Go.Proofs.YtiajdnhmjdfeeaaGreat
open Go.RowKit Go.WideShapes
/-- Rows that lie below C, whosever they are. -/
def RowsAt (C : Nat) (v : Value) (rs : List RowV) (w : World) : Prop := ∃ (W : World) (a : Option Addr) (n c : Nat), v = .slice a n c ∧ W.heap.size = C ∧ IsRows W a n c rs ∧ ∀ k, k < C → w.heap[k]? = W.heap[k]?
theorem rowsAt_lives {C : Nat} {v : Value} {rs : List RowV} : Lives 0 C (RowsAt C v rs) := by
  rintro w w' he ⟨W, a, n, c, e, hC, hi, hk⟩
  exact ⟨W, a, n, c, e, hC, hi, fun k h => (he k (Nat.zero_le _) h).trans (hk k h)⟩
theorem rowsAt_new {w : World} {a : Option Addr} {n c : Nat} {rs : List RowV} (h : IsRows w a n c rs) : Holds 0 w.heap.size w (RowsAt w.heap.size (.slice a n c) rs) :=
  ⟨rowsAt_lives, Nat.le_refl _, w, a, n, c, rfl, rfl, h, fun _ _ => rfl⟩
theorem RowsAt.read {C : Nat} {w : World} {a : Option Addr} {n c : Nat} {rs : List RowV} (h : RowsAt C (.slice a n c) rs w) (hC : C ≤ w.heap.size) (_hm : SmAllR rs) (_hl : rs.length = n) : IsRows w a n c rs := by
  obtain ⟨W, a', n', c', e, hz, hi, hk⟩ := h
  simp only [Value.slice.injEq] at e
  obtain ⟨rfl, rfl, rfl⟩ := e
  have hi' : IsRows { w with heap := W.heap } a n c rs := hi
  refine hi'.next ⟨rfl, rfl, rfl, by show W.heap.size ≤ w.heap.size; omega, fun k hk' => hk k (by have : k < W.heap.size := hk'; omega)⟩
theorem exAnsI (a : Option Addr) (la ca : Nat) (gs : List Tri3) (a0 a1 a2 : Option Addr) (n0 n1 n2 c0 c1 c2 : Nat) (vs : List ByteArray) (t1 t2 : List Tri3) (w : World) (ha : IsTris w a la ca gs) (h : IsQry w a0 a1 a2 n0 n1 n2 c0 c1 c2 vs t1 t2) (hga : SmT gs) (s0 : ∀ t ∈ vs, t.size ≤ 1048576) (s1 : SmT t1) (s2 : SmT t2) (l0 : n0 ≤ 1048576) {N : Nat} (hN : (ansR gs vs t1 t2).length = N) :
    Calls Tryz.prog 13 #[.slice a la ca, .agg #[.slice a0 n0 c0, .slice a1 n1 c1, .slice a2 n2 c2]] w fun e w' => ∃ ra rc, e = .returned (.tuple #[.slice ra N rc, .bool (ansOk gs vs t1 t2)]) ∧ Holds w.heap.size w'.heap.size w' (OwnRw w.heap.size w'.heap.size (.slice ra N rc) (ansR gs vs t1 t2)) ∧ Below w.heap.size w w' :=
  (implAnswer a la ca gs a0 a1 a2 n0 n1 n2 c0 c1 c2 vs t1 t2 w ha h hga s0 s1 s2 l0).mono fun e w' ⟨v, he, ho, hb⟩ => by
    obtain ⟨x, c, rfl, _⟩ := ho.is (ansR_sz hga s1 s2).2.2
    rw [hN] at he ho
    exact ⟨x, c, he, ownRw_new ho hb, hb⟩
theorem exAnsS (a : Option Addr) (la ca : Nat) (gs : List Tri3) (a0 a1 a2 : Option Addr) (n0 n1 n2 c0 c1 c2 : Nat) (vs : List ByteArray) (t1 t2 : List Tri3) (w : World) (ha : IsTris w a la ca gs) (h : IsQry w a0 a1 a2 n0 n1 n2 c0 c1 c2 vs t1 t2) (hga : SmT gs) (s0 : ∀ t ∈ vs, t.size ≤ 1048576) (s1 : SmT t1) (s2 : SmT t2) (l0 : n0 ≤ 1048576) {N : Nat} (hN : (ansR gs vs t1 t2).length = N) :
    Calls Tryz.prog 10 #[.slice a la ca, .agg #[.slice a0 n0 c0, .slice a1 n1 c1, .slice a2 n2 c2]] w fun e w' => ∃ ra rc, e = .returned (.tuple #[.slice ra N rc, .bool (ansOk gs vs t1 t2)]) ∧ Holds 0 w'.heap.size w' (RowsAt w'.heap.size (.slice ra N rc) (ansR gs vs t1 t2)) ∧ Below w.heap.size w w' :=
  (specAnswer a la ca gs a0 a1 a2 n0 n1 n2 c0 c1 c2 vs t1 t2 w ha h hga s0 s1 s2 l0).mono fun e w' ⟨x, n, c, he, hi, hb⟩ => by
    have hl := hi.len
    rw [hN] at hl
    subst hl
    exact ⟨x, c, he, rowsAt_new hi, hb⟩
end Go.Proofs.YtiajdnhmjdfeeaaGreat
