/- The laws' own ways to hold rows and texts against each other. -/
import Derived.Test.YtmiiaebelncdhaaGreatG34
import Derived.Test.YtmiiaebelncdhaaGreatG24
import Derived.Test.YtmiiaebelncdhaaGreatG14
import Derived.Test.YtmiiaebelncdhaaGreatG30
import Derived.Test.YtmiiaebelncdhaaGreatG06
namespace Go.Proofs.YtmiiaebelncdhaaGreat
open Go.RowKit Go.WideShapes
instance rowEq (ts us : RowV) : Decidable (ts = us) := decidable_of_iff (ts.length = us.length ∧ ∀ i, i < ts.length → ts[i]? = us[i]?) ⟨fun ⟨h, g⟩ => List.ext_getElem? fun i => by
  rcases Nat.lt_or_ge i ts.length with c | c
  · exact g i c
  · rw [List.getElem?_eq_none c, List.getElem?_eq_none (by omega)], fun h => by subst h; exact ⟨rfl, fun _ _ => rfl⟩⟩
theorem pr_not {t u : Pre2} (h : t ≠ u) : (t.1.toList == u.1.toList && t.2.toList == u.2.toList) = false := by
  cases e : (t.1.toList == u.1.toList && t.2.toList == u.2.toList)
  · rfl
  · exfalso
    simp only [Bool.and_eq_true, beq_iff_eq, ByteArray.toList_eq] at e
    exact h (Prod.ext (data_inj e.1) (data_inj e.2))
set_option maxRecDepth 100000 in
set_option maxHeartbeats 1600000 in
theorem lawRow (a b : Option Addr) (la ca lb cb : Nat) (ts us : RowV) (w : World) (h : IsPres w a la ca ts) (k : IsPres w b lb cb us) (hl : la ≤ 1048576) (kl : lb ≤ 1048576) :
    Calls Tryz.prog 23 #[.slice a la ca, .slice b lb cb] w fun e w' => e = .returned (.bool (decide (ts = us))) ∧ Below w.heap.size w w' := by
  have H := Lib.hid h
  have K := Lib.hid k
  have HT := Lib.hid h.len
  have KT := Lib.hid k.len
  clear h k
  by_cases hne : la = lb
  rotate_left
  · have hb : ((la : Int) != (lb : Int)) = true := by rw [bne_iff_ne]; omega
    have HR : Hid (decide (ts = us) = false) := Lib.hid (decide_eq_false (fun e => hne (by rw [← HT.out, ← KT.out, e])))
    clear hne
    go_enter Tryz.func23, Tryz.ntmps23
    go_wp2_with fail
    go_ret
    exact ⟨by rw [HR.out]; rfl, Below.refl _ _⟩
  subst hne
  go_enter Tryz.func23, Tryz.ntmps23
  go_wp2_with fail
  go_loopw [5] (fun i wr => ∃ j : Nat, j ≤ la ∧ i = .int .i64 j ∧ Hid (ts.take j = us.take j) ∧ Below w.heap.size w wr) (fun i _ => la - (intOf i).toNat)
  case atStart => exact ⟨0, Nat.zero_le _, rfl, Lib.hid rfl, Below.refl _ _⟩
  case round =>
    obtain ⟨j, hj, rfl, hyes, hnx⟩ := hrel
    have hj6 : (0 : Int) ≤ (j : Int) := by omega
    by_cases hlt : j < la
    · have hj7 : (j : Int) < (la : Int) := by omega
      obtain ⟨b1, off, rfl, hb, hl', hm, hts, hcs⟩ := H.out.cells (by omega)
      obtain ⟨b2, off2, rfl, hb2, hl2', hm2, hts2, hcs2⟩ := K.out.cells (by omega)
      have ht : ts[j]? = some (ts[j]'(by omega)) := List.getElem?_eq_getElem (by omega)
      have hu : us[j]? = some (us[j]'(by omega)) := List.getElem?_eq_getElem (by omega)
      have HS : Hid (ts.take (j + 1) = ts.take j ++ [ts[j]'(by omega)]) := Lib.hid (List.take_succ_eq_append_getElem (by omega))
      have KS : Hid (us.take (j + 1) = us.take j ++ [us[j]'(by omega)]) := Lib.hid (List.take_succ_eq_append_getElem (by omega))
      obtain ⟨c0, c1, m0, m1⟩ := hcs j _ ht
      obtain ⟨d0, d1, n0, n1⟩ := hcs2 j _ hu
      rw [← hnx.cell (p := ⟨b1, _, none⟩) hb] at c0 c1
      rw [← hnx.cell (p := ⟨b2, _, none⟩) hb2] at d0 d1
      generalize ts[j]'(by omega) = t at ht c0 c1 m0 m1 HS
      generalize us[j]'(by omega) = u at hu d0 d1 n0 n1 KS
      have HB : Hid (∀ n, Below w.heap.size w (wr.drewN n)) := Lib.hid (fun n => below_drewN hnx n)
      by_cases he : t = u
      · subst he
        have EQ := pr_same t.1 t.2
        have HY : Hid (ts.take (j + 1) = us.take (j + 1)) := Lib.hid (by rw [HS.out, KS.out, hyes.out])
        clear ht hu hts hts2 hcs hcs2 hm hm2 m0 m1 n0 n1 hl' hl2' HS KS hyes hnx
        go_wp2_with fail
        go_quiet (fail)
        clear EQ
        go_wp2_with fail
        go_roundw
        case rel => exact ⟨j + 1, by omega, by go_num, HY, HB.out _⟩
        case measure => simp [intOf]; omega
      · have EQ : ∀ w, (binOp .neq 39 (.agg #[.string t.1, .string t.2]) (.agg #[.string u.1, .string u.2])).run Tryz.prog w = .ok (.bool true) w := fun w => by rw [pr_ne, pr_not he]; rfl
        have HR : Hid (decide (ts = us) = false) := Lib.hid (decide_eq_false (fun e => by
          rw [e, hu] at ht
          exact he (Option.some.inj ht).symm))
        clear ht hu hts hts2 hcs hcs2 hm hm2 m0 m1 n0 n1 hl' hl2' HS KS hyes hnx he
        go_wp2_with fail
        go_quiet (fail)
        clear EQ
        go_wp2_with fail
        go_ret
        exact ⟨by rw [HR.out]; rfl, HB.out _⟩
    · obtain rfl : j = la := by omega
      have HR : Hid (decide (ts = us) = true) := Lib.hid (decide_eq_true (by
        have := hyes.out
        rwa [List.take_of_length_le (by rw [HT.out]; exact Nat.le_refl _), List.take_of_length_le (by rw [KT.out]; exact Nat.le_refl _)] at this))
      go_wp2_with fail
      go_ret
      exact ⟨by rw [HR.out]; rfl, hnx⟩
set_option maxRecDepth 100000 in
set_option maxHeartbeats 1600000 in
theorem lawRowsSame (a b : Option Addr) (la ca lb cb : Nat) (rs : List RowV) (w : World) (ha : IsRows w a la ca rs) (hb : IsRows w b lb cb rs) (hs : la ≤ 1048576 ∧ ∀ r ∈ rs, r.length ≤ 1048576) :
    Calls Tryz.prog 15 #[.slice a la ca, .slice b lb cb] w fun e w' => e = .returned (.bool true) ∧ Below w.heap.size w w' := by
  have hlb : lb = la := by rw [← ha.len, ← hb.len]
  subst hlb
  have HA := Lib.hid ha
  have HB := Lib.hid hb
  have HTOT : Hid (∀ r ∈ rs, r.length ≤ 1048576) := Lib.hid hs.2
  have HT := Lib.hid ha.len
  have hl := hs.1
  clear ha hb hs
  go_enter Tryz.func15, Tryz.ntmps15
  go_wp2_with fail
  go_loopw [5] (fun i wr => ∃ k : Nat, k ≤ lb ∧ i = .int .i64 k ∧ Below w.heap.size w wr) (fun i _ => lb - (intOf i).toNat)
  case atStart => exact ⟨0, Nat.zero_le _, rfl, Below.refl _ _⟩
  case round =>
    obtain ⟨k, hk, rfl, hnx⟩ := hrel
    have hk6 : (0 : Int) ≤ (k : Int) := by omega
    by_cases hlt : k < lb
    · obtain ⟨x, off, rfl, hx, _, _, hts, hc⟩ := (HA.out.next hnx).cells (by omega)
      obtain ⟨y, off', rfl, hy, _, _, _, hd⟩ := (HB.out.next hnx).cells (by omega)
      have ht : rs[k]? = some rs[k] := List.getElem?_eq_getElem (by omega)
      obtain ⟨a1, n1, k1, c0, hz1⟩ := hc k _ ht
      obtain ⟨a2, n2, k2, d0, hz2⟩ := hd k _ ht
      have hzt := HTOT.out _ (List.getElem_mem (by omega : k < rs.length))
      generalize rs[k] = r at hz1 hz2 hzt
      have hn : n1 ≤ 1048576 := by have := hz1.len; omega
      have E := Lib.hid (fun (W : World) (h : Below wr.heap.size wr W) => lawSameRow a1 a2 n1 k1 n2 k2 r W (hz1.next h) (hz2.next h) hn)
      have hlt2 : (k : Int) < (lb : Int) := by omega
      have l1 : x < wr.heap.size := hx
      have l2 : y < wr.heap.size := hy
      clear ht hts hc hd hz1 hz2
      go_wp2_with fail
      go_region_held3 (fun w' => w'.cell? ⟨x, off + k, none⟩ = some (.slice a1 n1 k1) ∧ w'.cell? ⟨y, off' + k, none⟩ = some (.slice a2 n2 k2))
        (first | go_keep | (go_split_ands; refine ⟨?_, ?_⟩ <;> (rw [ha4.cell (by first | (simp; done) | exact World.block_lt_of_cell? _ _ (by assumption))]; assumption)))
        (first | (go_at_call 23; refine (E.out _ (Below.drew (Below.refl _ _))).mono ?_; rintro e wa ⟨rfl, ha4⟩))
      have B : Below w.heap.size w wa := (Below.drew hnx).trans (ha4.mono hnx.size)
      clear ha4 hnx c0 d0 E
      go_wp2_with fail
      go_roundw
      case rel => exact ⟨k + 1, by omega, by go_num, B⟩
      case measure => simp [intOf]; omega
    · go_wp2_with fail
      go_ret
      exact ⟨rfl, hnx⟩
set_option maxRecDepth 100000 in
theorem lawHasText (a : Option Addr) (n c : Nat) (ts : List ByteArray) (x : ByteArray) (w : World) (h : IsStrs w a n c ts) (hn : n ≤ 1048576) :
    Calls Tryz.prog 31 #[.slice a n c, .string x] w fun e w' => e = .returned (.bool (hasB ts x)) ∧ w' = w := by
  have H := Lib.hid h
  have HL := Lib.hid h.len
  clear h
  go_enter Tryz.func31, Tryz.ntmps31
  go_wp2_with fail
  go_loop [5] (fun i => ∃ k : Nat, k ≤ n ∧ i = .int .i64 k ∧ Hid (∀ (i : Nat) (u : ByteArray), i < k → ts[i]? = some u → (u.toList == x.toList) = false)) (fun i => n - (intOf i).toNat)
  case atStart => exact ⟨0, Nat.zero_le _, rfl, Lib.hid (fun i u hi => by omega)⟩
  case round =>
    obtain ⟨k, hk, rfl, hno⟩ := hrel
    by_cases hlt : k < n
    · obtain ⟨b, off, rfl, hb, _, _, hts, hcs⟩ := H.out.cells (by omega)
      have hu : ts[k]? = some (ts[k]'(by omega)) := List.getElem?_eq_getElem (by omega)
      have hc := hcs k _ hu
      generalize ts[k]'(by omega) = u at hu hc
      have hk6 : (0 : Int) ≤ (k : Int) := by omega
      have hk7 : (k : Int) < (n : Int) := by omega
      have HU := Lib.hid hu
      clear hts hcs hu
      cases he : (u.toList == x.toList)
      · have HN : Hid (∀ (i : Nat) (u : ByteArray), i < k + 1 → ts[i]? = some u → (u.toList == x.toList) = false) := Lib.hid (fun i v hi hv => by
          rcases Nat.lt_or_ge i k with g | g
          · exact hno.out i v g hv
          · obtain rfl : i = k := by omega
            rw [HU.out] at hv; obtain rfl := Option.some.inj hv; exact he)
        clear hno HU
        go_wp2_with fail
        go_round
        case rel => exact ⟨k + 1, by omega, by go_num, HN⟩
        case measure => simp [intOf]; omega
      · have HR : Hid (hasB ts x = true) := Lib.hid (hasB_yes HU.out he)
        clear hno HU
        go_wp2_with fail
        go_ret
        exact ⟨by rw [HR.out]; rfl, rfl⟩
    · have HR : Hid (hasB ts x = false) := Lib.hid (hasB_no (fun i u hi hu => hno.out i u (by have := HL.out; omega) hu))
      clear hno
      go_wp2_with fail
      go_ret
      exact ⟨by rw [HR.out]; rfl, rfl⟩
theorem lawHasB (a : Option Addr) (n c : Nat) (ts : List ByteArray) (x : ByteArray) (w : World) (h : IsStrs w a n c ts) (hn : n ≤ 1048576) :
    Calls Tryz.prog 31 #[.slice a n c, .string x] w fun e w' => e = .returned (.bool (hasB ts x)) ∧ Below w.heap.size w w' :=
  (lawHasText a n c ts x w h hn).mono fun _ _ ⟨h1, h2⟩ => ⟨h1, by rw [h2]; exact Below.refl _ _⟩
end Go.Proofs.YtmiiaebelncdhaaGreat
/- Rows projected: the specification's own walk. -/
namespace Go.Proofs.YtmiiaebelncdhaaGreat
open Go.RowKit Go.WideShapes Go.Maps
theorem hasB_txts (vs : List ByteArray) (x : ByteArray) : hasB vs x = decide (x.data.toList ∈ txts vs) := by
  rw [Bool.eq_iff_iff]
  unfold hasB txts
  rw [List.any_eq_true, decide_eq_true_eq, List.mem_map]
  constructor
  · rintro ⟨y, hy, he⟩
    rw [beq_iff_eq, ByteArray.toList_eq, ByteArray.toList_eq] at he
    exact ⟨y, hy, he⟩
  · rintro ⟨y, hy, he⟩
    exact ⟨y, hy, by rw [beq_iff_eq, ByteArray.toList_eq, ByteArray.toList_eq]; exact he⟩
def ProjPost (w : World) (rs : List RowV) (vs : List ByteArray) (e : Ending) (w' : World) : Prop :=
  ∃ a n c, e = .returned (.tuple #[.slice a n c, .bool (projOk rs vs)]) ∧ IsRows w' a n c (projR rs vs) ∧ Below w.heap.size w w'
set_option maxRecDepth 100000 in
set_option maxHeartbeats 6400000 in
theorem specProjected (a b : Option Addr) (la ca lb cb : Nat) (rs : List RowV) (vs : List ByteArray) (w : World) (ha : IsRows w a la ca rs) (hb : IsStrs w b lb cb vs) (hsa : SmR rs) (hsb : ∀ t ∈ vs, t.size ≤ 1048576) (hlb : lb ≤ 1048576) :
    Calls Tryz.prog 30 #[.slice a la ca, .slice b lb cb] w (ProjPost w rs vs) := by
  obtain ⟨j0, hj0, hy0, hy1, hy2⟩ := info_parts infoPair
  have C' := specRowsOk a la ca rs w ha hsa
  have HA := Lib.hid ha
  have HB := Lib.hid hb
  have HSB := Lib.hid hsb
  have HVL := Lib.hid hb.len
  have HRL := Lib.hid ha.len
  have hlbm : lb ≤ 9223372036854775807 := by omega
  cases hq : rowsOkL rs
  · rw [hq] at C'
    have C := Lib.hid C'
    have HP : Hid (projOk rs vs = false) := Lib.hid (by unfold projOk; rw [hq, Bool.false_and])
    clear C' hq ha hb hsa hsb
    go_enter Tryz.func30, Tryz.ntmps30
    go_wp2_with fail
    refine C.out.mono ?_
    rintro e w1 ⟨rfl, hb1⟩
    go_wp2_with fail
    go_ret2
    exact ⟨none, 0, 0, by rw [HP.out]; rfl, by rw [projR_no HP.out]; exact .inl ⟨rfl, rfl, rfl, rfl⟩, hb1⟩
  have hla : la ≤ 300 := by have := rowsOk_most hq; rw [ha.len] at this; exact this
  have HROW : Hid (∀ r ∈ rs, r.length ≤ 12) := Lib.hid (fun r hr => rowsOk_row hq hr)
  have HSA := Lib.hid hsa
  have HRQ := Lib.hid hq
  obtain ⟨nm, hnm⟩ : ∃ nm, txts vs = nm := ⟨_, rfl⟩
  have HNM := Lib.hid hnm
  obtain ⟨ks, hks⟩ : ∃ ks, rs.map (keepL nm) = ks := ⟨_, rfl⟩
  have HKL : Hid (ks.length = la) := Lib.hid (by rw [← hks, List.length_map, ha.len])
  have HKS := Lib.hid hks
  have HKM : Hid (∀ r ∈ ks, (rowTextL r).length ≤ 140737488355328) := Lib.hid (fun r hr => by
    rw [← hks] at hr
    obtain ⟨s, hs, rfl⟩ := List.mem_map.1 hr
    have h1 := HROW.out s hs
    have h2 := keepL_len nm s
    have h3 := rowText_len (r := keepL nm s) (fun t ht => hsa s hs t (List.mem_filter.1 ht).1)
    omega)
  have HPL : Hid (projL rs vs = addAllR [] ks) := Lib.hid (by unfold projL; rw [hnm, hks])
  rw [hq] at C'
  have C := Lib.hid C'
  clear C' hq ha hb hsa hsb hnm hks
  go_enter Tryz.func30, Tryz.ntmps30
  go_wp2_with fail
  refine C.out.mono ?_
  rintro e w1 ⟨rfl, hb1⟩
  clear C
  go_wp2_with fail
  go_loopw [6] (fun i wr => ∃ k : Nat, k ≤ lb ∧ i = .int .i64 k ∧ Hid ((txts (vs.take k)).all isVarK = true) ∧ Below w.heap.size w wr) (fun i _ => lb - (intOf i).toNat)
  case atStart => exact ⟨0, Nat.zero_le _, rfl, Lib.hid rfl, hb1⟩
  case round =>
    obtain ⟨k, hk, rfl, hal, hnx⟩ := hrel
    clear hb1
    have hk6 : (0 : Int) ≤ (k : Int) := by omega
    by_cases hlt : k < lb
    · obtain ⟨bb, off, rfl, hbb, _, _, hts, hcs⟩ := HB.out.cells (by omega)
      have ht : vs[k]? = some (vs[k]'(by omega)) := List.getElem?_eq_getElem (by omega)
      have c0 := hcs k _ ht
      have HK : Hid (vs.take (k + 1) = vs.take k ++ [vs[k]'(by omega)]) := Lib.hid (List.take_succ_eq_append_getElem (by omega))
      have hx1 := HSB.out _ (List.getElem_mem (by omega : k < vs.length))
      have HMEM := Lib.hid (List.getElem_mem (by omega : k < vs.length))
      rw [← hnx.cell (p := ⟨bb, _, none⟩) hbb] at c0
      generalize vs[k]'(by omega) = x at c0 HK hx1 HMEM
      have CV' := specKindOf x (by omega)
      have hk7 : (k : Int) < (lb : Int) := by omega
      have EK : (kindL x.data.toList = 4 ∧ isVarK x.data.toList = true) ∨ (((kindL x.data.toList : Nat) : Int) ≠ 4 ∧ isVarK x.data.toList = false) := by
        unfold isVarK
        by_cases g : kindL x.data.toList = 4
        · exact .inl ⟨g, by simp [g]⟩
        · exact .inr ⟨by omega, by simp [g]⟩
      generalize kindL x.data.toList = kk at CV' EK
      have CV := Lib.hid CV'
      clear CV' hts hcs ht
      rcases EK with ⟨rfl, e2⟩ | ⟨e1, e2⟩
      · have HN := Lib.hid (varsOk_step hal.out HK.out e2)
        clear e2 hal HK
        go_wp2_with fail
        refine (CV.out _).mono ?_
        rintro e w4 ⟨rfl, hb4⟩
        have B4 := hnx.trans (hb4.mono hnx.size)
        clear hb4 hnx CV c0
        go_wp2_with fail
        go_roundw
        case rel => exact ⟨k + 1, by omega, by go_num, HN, B4⟩
        case measure => simp [intOf]; omega
      · have HP : Hid (projOk rs vs = false) := Lib.hid (by unfold projOk; rw [varsOk_not HMEM.out e2, Bool.and_false])
        have e3 : ((kk : Int) != 4) = true := by simpa using e1
        have e4 : ((kk : Int) == 4) = false := by simpa using e1
        clear e2
        go_wp2_with fail
        refine (CV.out _).mono ?_
        rintro e w4 ⟨rfl, hb4⟩
        have B4 := hnx.trans (hb4.mono hnx.size)
        clear hb4 hnx CV c0
        go_wp2_with fail
        go_ret2
        exact ⟨none, 0, 0, by rw [HP.out]; rfl, by rw [projR_no HP.out]; exact .inl ⟨rfl, rfl, rfl, rfl⟩, B4⟩
    · have hkl : k = lb := by omega
      have HVO : Hid (projOk rs vs = true) := Lib.hid (by
        have h1 := hal.out
        rw [List.take_of_length_le (by rw [HVL.out]; omega)] at h1
        unfold projOk varsOkL
        rw [HRQ.out, h1]; rfl)
      obtain ⟨wo, rfl⟩ : ∃ x, x = wr := ⟨_, rfl⟩
      have O0 : OutI w.heap.size (wo.alloc (.cells #[] 36)) (.slice (some ⟨wo.heap.size, 0, none⟩) 0 0) [] [] := ⟨World.ownsRow_lit (size := 1) (e := 36) wo #[] 0 hnx.size (by decide) rfl, rfl, by simp⟩
      have HO0 := Lib.hid O0
      have B2 := hnx.alloc hnx.size (.cells #[] 36)
      clear O0 hnx hal hkl
      go_wp2_with fail
      clear hlt hk6 hk
      go_loopw [7, 8] (fun v i wr => ∃ k g n c : Nat, k ≤ la ∧ i = .int .i64 k ∧ v = .slice (some ⟨g, 0, none⟩) n c ∧ n ≤ k ∧ (∃ us, Hid (OutI w.heap.size wr (.slice (some ⟨g, 0, none⟩) n c) (addAllR [] (ks.take k)) us ∧ (addAllR [] (ks.take k)).length = n)) ∧ Below w.heap.size w wr) (fun _ i _ => la - (intOf i).toNat)
      case atStart => exact ⟨0, _, 0, 0, Nat.zero_le _, rfl, rfl, Nat.le_refl _, ⟨[], Lib.hid ⟨by simpa [addAllR] using HO0.out, by simp [addAllR]⟩⟩, B2⟩
      case round =>
        obtain ⟨k, g, n, c, hk, rfl, rfl, hnk, ⟨us, HO⟩, hnx⟩ := hrel
        clear HO0 B2
        have hk6 : (0 : Int) ≤ (k : Int) := by omega
        by_cases hlt : k < la
        · obtain ⟨bb, off, rfl, hbb, _, _, hts, hcs⟩ := HA.out.cells (by omega)
          have ht : rs[k]? = some (rs[k]'(by omega)) := List.getElem?_eq_getElem (by omega)
          obtain ⟨a1, n1, c1, c0, hz0⟩ := hcs k _ ht
          have hrm := List.getElem_mem (by omega : k < rs.length)
          have hr12 := HROW.out _ hrm
          have hsm := HSA.out _ hrm
          have HKT : Hid (ks.take (k + 1) = ks.take k ++ [keepL nm (rs[k]'(by omega))]) := Lib.hid (by
            have e : ks[k]? = some (keepL nm (rs[k]'(by omega))) := by rw [← HKS.out, List.getElem?_map, ht]; rfl
            have hkk : k < ks.length := by rw [HKL.out]; exact hlt
            rw [List.take_succ_eq_append_getElem hkk]
            rw [List.getElem?_eq_getElem hkk] at e
            rw [Option.some.inj e])
          have HTX := Lib.hid (HKM.out (keepL nm (rs[k]'(by omega))) (by rw [← HKS.out]; exact List.mem_map_of_mem hrm))
          generalize rs[k]'(by omega) = s at hz0 hr12 hsm HKT HTX
          have HZ := Lib.hid hz0
          have hn1 := hz0.len
          have hn12 : n1 ≤ 12 := by omega
          have HN1 := Lib.hid hn1
          have HSM := Lib.hid hsm
          have HC0 := Lib.hid c0
          have hk7 : (k : Int) < (la : Int) := by omega
          obtain ⟨wo, rfl⟩ : ∃ x, x = wr := ⟨_, rfl⟩
          have P0 : OwnP wo.heap.size (wo.alloc (.cells #[] 39)) (.slice (some ⟨wo.heap.size, 0, none⟩) 0 0) [] := World.ownsRow_lit (size := 2) (e := 39) wo #[] 0 (Nat.le_refl _) (by decide) rfl
          have HP0 := Lib.hid P0
          have B3 := (Below.refl wo.heap.size wo).alloc (Nat.le_refl _) (.cells #[] 39)
          have HWO := Lib.hid hnx
          clear hts hcs ht hz0 hrm hr12 hsm hn1 P0 c0 hnx
          go_wp2_with fail
          go_loopw [9, 10] (fun v' i wr => ∃ (j : Nat) (v : Value), j ≤ n1 ∧ i = .int .i64 j ∧ v = v' ∧ Hid (OwnP wo.heap.size wr v (keepL nm (s.take j))) ∧ Below wo.heap.size wo wr) (fun _ i _ => n1 - (intOf i).toNat)
          case atStart => exact ⟨0, _, Nat.zero_le _, rfl, rfl, by simpa [keepL] using HP0, B3⟩
          case round =>
            obtain ⟨j, v, hj, rfl, rfl, hown, hbx⟩ := hrel
            clear HP0 B3
            have hj6 : (0 : Int) ≤ (j : Int) := by omega
            have hnx := HWO.out.trans (hbx.mono HWO.out.size)
            have c0 := HC0.out
            rw [← hnx.cell (p := ⟨bb, _, none⟩) hbb] at c0
            by_cases hlj : j < n1
            · obtain ⟨x, xo, rfl, hx, _, _, hts, hcs⟩ := HZ.out.cells (by omega)
              have ht : s[j]? = some (s[j]'(by omega)) := List.getElem?_eq_getElem (by omega)
              obtain ⟨d0, d1, m0, m1⟩ := hcs j _ ht
              rw [← hnx.cell (p := ⟨x, _, none⟩) hx] at d0 d1
              have HK : Hid (s.take (j + 1) = s.take j ++ [s[j]'(by omega)]) := Lib.hid (List.take_succ_eq_append_getElem (by omega))
              have hkl : (keepL nm (s.take j)).length ≤ j := by have := keepL_len nm (s.take j); rw [List.length_take] at this; omega
              generalize s[j]'(by omega) = t at d0 d1 HK m0 m1
              obtain ⟨y, z⟩ := t
              dsimp only at d0 d1 m0
              have HN : Hid (keepL nm (s.take (j + 1)) = if y.data.toList ∈ nm then keepL nm (s.take j) ++ [(y, z)] else keepL nm (s.take j)) := Lib.hid (by rw [HK.out, keepL_snoc])
              have HH := Lib.hid (fun W (h : Below wr.heap.size wr W) => specHas b lb cb vs y W ((HB.out.next hnx).next h) hlb)
              have HHB : Hid (hasB vs y = decide (y.data.toList ∈ nm)) := Lib.hid (by rw [hasB_txts, HNM.out])
              have hj7 : (j : Int) < (n1 : Int) := by omega
              clear hts hcs ht HK m0 m1
              generalize keepL nm (s.take j) = kr at HN hkl hown
              go_wp2_with fail
              refine (HH.out _ (by first | exact Below.refl _ _ | exact Below.drew (Below.refl _ _))).mono ?_
              rintro e w4 ⟨rfl, hw4⟩
              obtain rfl : wr = w4 := hw4.symm
              clear HH
              by_cases hin : y.data.toList ∈ nm
              · have HM : Hid (keepL nm (s.take (j + 1)) = kr ++ [(y, z)]) := Lib.hid (by rw [HN.out, if_pos hin])
                have hd : hasB vs y = true := by rw [HHB.out]; exact decide_eq_true hin
                have HA2 := Lib.hid (World.ownsRow.alloc hown.out (.cells #[.string y, .string z] 39))
                have HC2 := Lib.hid (hbx.alloc hbx.size (.cells #[.string y, .string z] 39))
                clear HN hin HHB
                rw [hd]
                clear hd
                go_wp2_with (at_builtin; refine wpList_append_own_at _ rfl _ _ 36 rfl wo.heap.size 39 j0 (.agg #[.string ⟨#[]⟩, .string ⟨#[]⟩]) 2 32 Tryz.underlying36 hj0 hy0 hy1 hy2 rfl (by decide) _ _ _ rfl HA2.out ⟨_, 0, none⟩ 1 1 [.string y, .string z] rfl rfl ?d1 ?d2 ?d3 ?d4 ?d5 ?_)
                case d1 => exact two_cellP rfl
                case d2 => exact two_one _ _
                case d3 => unfold maxLen; omega
                case d4 => omega
                case d5 => exact HC2.out.size
                intro v' w6 hown6 hg6 _ _
                have O6 : Hid (OwnP wo.heap.size w6 v' (keepL nm (s.take (j + 1)))) := Lib.hid (by rw [HM.out]; exact own_snocP hown6)
                have B6 := HC2.out.grown hg6 HC2.out.size (fun q hq => (World.ownsRow.lt hown.out q hq).1)
                clear hown6 hg6 HA2 HC2 hown hbx hnx c0 d0 d1
                go_wp2_with fail
                go_roundw
                case rel => exact ⟨j + 1, _, by omega, by go_num, rfl, O6, B6⟩
                case measure => simp [intOf]; omega
              · have HM : Hid (keepL nm (s.take (j + 1)) = kr) := Lib.hid (by rw [HN.out, if_neg hin])
                have hd : hasB vs y = false := by rw [HHB.out]; exact decide_eq_false hin
                have O6 : Hid (OwnP wo.heap.size wr v (keepL nm (s.take (j + 1)))) := Lib.hid (by rw [HM.out]; exact hown.out)
                clear HN hin HHB hown
                rw [hd]
                clear hd
                go_wp2_with fail
                go_roundw
                case rel => exact ⟨j + 1, _, by omega, by go_num, rfl, O6, hbx⟩
                case measure => simp [intOf]; omega
            · have hown' := hown.out
              rw [List.take_of_length_le (by rw [HN1.out]; omega)] at hown'
              obtain ⟨va, vc, hve, hv⟩ := hown'.is (fun t ht => by have := HSM.out t (List.mem_filter.1 ht).1; unfold maxLen; omega)
              subst hve
              have hkl := keepL_len nm s
              have hsl := HN1.out
              have HAD : Hid (addAllR [] (ks.take (k + 1)) = addR (addAllR [] (ks.take k)) (keepL nm s)) := Lib.hid (by rw [HKT.out, addAllR_snoc])
              have HLG : Hid (LongR (addAllR [] (ks.take k))) := Lib.hid (fun r hr => by
                rcases addAllR_mem hr with h | h
                · simp at h
                · exact HKM.out r (List.mem_of_mem_take h))
              generalize addAllR [] (ks.take k) = AL at HO HAD HLG
              generalize keepL nm s = kr at hv hkl HAD HTX
              generalize hkn : kr.length = kn at hv hkl ⊢
              have hAL := HO.out.2
              have E := Lib.hid (fun W (h : Below wr.heap.size wr W) => specAdd w.heap.size g n c AL us va kn vc kr W ((HO.out.1.next hbx).next h) HO.out.2 (by omega) (by have := hnx.size; have := h.size; omega) (hv.next h) (by omega) HLG.out HTX.out)
              clear hown hown' hv HO HTX HLG
              go_wp2_with fail
              refine (E.out _ (by first | exact Below.refl _ _ | exact Below.drew (Below.refl _ _))).mono ?_
              rintro e w5 ⟨g', n', c', us', rfl, ho5, hl5, hb5⟩
              have B5 := hnx.trans (hb5.mono hnx.size)
              have hn5 : n' ≤ n + 1 := by have := addR_len AL kr; omega
              have HO5 := Lib.hid (And.intro ho5 hl5)
              rw [← HAD.out] at HO5
              clear ho5 hl5 hb5 E hnx hbx c0
              go_wp2_with fail
              go_roundw
              case rel => exact ⟨k + 1, g', n', c', by omega, by go_num, rfl, by omega, ⟨us', HO5⟩, B5⟩
              case measure => simp [intOf]; omega
        · have HF : Hid (OutI w.heap.size wr (.slice (some ⟨g, 0, none⟩) n c) (addAllR [] ks) us) := Lib.hid (by
            have h1 := HO.out.1
            rw [List.take_of_length_le (by rw [HKL.out]; omega)] at h1
            exact h1)
          clear HO
          go_wp2_with fail
          go_ret2
          have i9 : IsRows wr (some ⟨g, 0, none⟩) n c (addAllR [] ks) := by
            obtain ⟨a9, c9, e9, i9⟩ := HF.out.is
            simp only [Value.slice.injEq] at e9
            obtain ⟨e1, e2, e3⟩ := e9
            rw [e1, e2, e3]
            exact i9
          exact ⟨some ⟨g, 0, none⟩, n, c, by rw [HVO.out]; rfl, by rw [projR_yes HVO.out, HPL.out]; exact i9, hnx⟩
end Go.Proofs.YtmiiaebelncdhaaGreat
