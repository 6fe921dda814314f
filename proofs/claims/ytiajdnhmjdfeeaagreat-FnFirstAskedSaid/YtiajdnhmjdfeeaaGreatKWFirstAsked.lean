/- The walk of FnFirstAsked. -/
import Derived.Test.YtiajdnhmjdfeeaaGreatK00
import Derived.Test.YtiajdnhmjdfeeaaGreatK41
import Derived.Test.YtiajdnhmjdfeeaaGreatK42
import Derived.Test.YtiajdnhmjdfeeaaGreatK43
import Derived.Test.YtiajdnhmjdfeeaaGreatK36
import Derived.Test.YtiajdnhmjdfeeaaGreatK37
import Derived.Test.YtiajdnhmjdfeeaaGreatK12
namespace Go.Proofs.YtiajdnhmjdfeeaaGreat
open Go.RowKit Go.WideShapes
def askedL (vs l : List ByteArray) : List ByteArray := l.filter fun x => hasB vs x
theorem askedL_snoc (vs l : List ByteArray) (x : ByteArray) : askedL vs (l ++ [x]) = if hasB vs x = true then askedL vs l ++ [x] else askedL vs l := by
  unfold askedL
  rw [List.filter_append]
  by_cases h : hasB vs x = true
  · simp [h]
  · simp [h]
theorem asked_var {vs : List ByteArray} {t1 : List Tri3} {x : Txt} (h : x ∈ txts (askedL vs ((varsT t1).map bs))) : x ∈ varWords t1 ∧ x ∈ txts vs ∧ isVarK x = true := by
  unfold txts askedL at h
  obtain ⟨u, hu, rfl⟩ := List.mem_map.1 h
  obtain ⟨h1, h2⟩ := List.mem_filter.1 hu
  obtain ⟨y, hy, rfl⟩ := List.mem_map.1 h1
  have h3 : y ∈ varWords t1 := by
    unfold varsT at hy
    split at hy
    · rcases putAllS_mem.1 hy with g | g
      · simp at g
      · exact g
    · simp at hy
  have e : (bs y).data.toList = y := by simp [bs]
  refine ⟨by rw [e]; exact h3, ?_, ?_⟩
  · have := hasB_mem vs (bs y)
    rw [h2] at this
    exact of_decide_eq_true this.symm
  · rw [e]
    unfold varWords at h3
    obtain ⟨t, _, h⟩ := List.mem_flatMap.1 h3
    unfold varsIn at h
    exact (List.mem_filter.1 h).2
theorem rows_most {rs : List RowV} (h : totR rs ≤ 3600) : ∀ r ∈ rs, r.length ≤ 1048576 := fun r hr => by have := totR_mem hr; omega
theorem ans_yes {gs : List Tri3} {vs : List ByteArray} {t1 t2 : List Tri3} (h : ansOk gs vs t1 t2 = true) : ∃ rs, ansRows gs vs t1 t2 = some rs ∧ Mid gs t1 rs ∧ ansR gs vs t1 t2 = projL rs vs ∧ projOk rs vs = true := by
  cases hr : ansRows gs vs t1 t2 with
  | none => rw [(ans_none hr).1] at h; cases h
  | some rs =>
    rw [(ans_some hr).1] at h
    exact ⟨rs, rfl, mid_of hr, by rw [(ans_some hr).2, projR_yes h], h⟩
namespace fnFirstAsked
set_option maxRecDepth 100000 in
set_option maxHeartbeats 6400000 in
theorem walk (a : Option Addr) (len cap : Nat) (zs : List Int) (w : World) (hrow : Frame.IsRow .u8 w a len cap zs) :
    Calls Tryz.prog 5 #[.slice a len cap] w fun e w' => e = .returned (.bool true) ∧ Below w.heap.size w w' := by
  have hlen : len ≤ 9223372036854775807 := by
    rcases hrow with ⟨_, rfl, _⟩ | ⟨y, _, h1, h2, _⟩
    · omega
    · unfold maxLen at h2; omega
  by_cases hbig : (1048576 : Int) < len
  · go_enter Tryz.func5, Tryz.ntmps5
    go_wp2_with go_in
    go_ret
    exact ⟨rfl, Below.refl _ _⟩
  go_enter Tryz.func5, Tryz.ntmps5
  go_wp2_with (go_at_call 21; go_in)
  refine (drawAnswer _ _ _ _ _ hrow).mono ?_
  rintro e w0 ⟨va, ts, a0, a1, a2, n0, n1, n2, c0, c1, c2, vs, t1, t2, rfl, hg, hq, hsm, g0⟩
  have hb0 := below_of_grown g0
  have hbx : Below w0.heap.size w0 (w0.alloc (.cells #[.slice a0 n0 c0, .slice a1 n1 c1, .slice a2 n2 c2] 34)) := (Below.refl w0.heap.size w0).alloc (Nat.le_refl _) _
  have B1 := Lib.hid (hb0.alloc hb0.size (.cells #[.slice a0 n0 c0, .slice a1 n1 c1, .slice a2 n2 c2] 34))
  have X1 := Lib.hid (cells_new w0 #[.slice a0 n0 c0, .slice a1 n1 c1, .slice a2 n2 c2] 34)
  have I1 := Lib.hid (hq.next hbx)
  obtain ⟨xa, ca, rfl, hi, hp, hsg⟩ := hg
  obtain ⟨na, hna⟩ : ∃ n, ts.length = n := ⟨_, rfl⟩
  rw [hna] at hi ⊢
  have A1 := Lib.hid (hi.next hbx)
  have HGA : Hid (SmT ts) := Lib.hid (fun t ht => by have := hsg.2 t ht; omega)
  have HS0 : Hid (∀ t ∈ vs, t.size ≤ 1048576) := Lib.hid (fun t ht => by have := hsm.1.2 t ht; omega)
  have HS1 : Hid (SmT t1) := Lib.hid (fun t ht => by have := hsm.2.1.2 t ht; omega)
  have HS2 : Hid (SmT t2) := Lib.hid (fun t ht => by have := hsm.2.2.2 t ht; omega)
  have hl0 : n0 ≤ 4 := by have := hq.1.1.len; have := hsm.1.1; omega
  have hl1 : n1 ≤ 3 := by have := hq.2.1.len; have := hsm.2.1.1; omega
  have HV0 := Lib.hid hq.1.1.len
  have hna81 : na ≤ 81 := by rw [← hna]; exact hsg.1
  clear hrow hbig hlen hb0 hbx g0 hq hi hp hsg hsm hna
  obtain ⟨R, hR⟩ : ∃ r, ansR ts vs t1 t2 = r := ⟨_, rfl⟩
  have C1 := fun (W : World) (hx : IsTris W xa na ca ts) (hy : IsQry W a0 a1 a2 n0 n1 n2 c0 c1 c2 vs t1 t2) => implAnswer xa na ca ts a0 a1 a2 n0 n1 n2 c0 c1 c2 vs t1 t2 W hx hy HGA.out HS0.out HS1.out HS2.out (by omega)
  have C2 := fun (W : World) (hx : IsTris W xa na ca ts) (hy : IsQry W a0 a1 a2 n0 n1 n2 c0 c1 c2 vs t1 t2) => specAnswer xa na ca ts a0 a1 a2 n0 n1 n2 c0 c1 c2 vs t1 t2 W hx hy HGA.out HS0.out HS1.out HS2.out (by omega)
  rw [hR] at C1 C2
  have HRR := Lib.hid hR
  have HRM : Hid (∀ r ∈ R, ∀ t ∈ r, t.1.size ≤ maxLen ∧ t.2.size ≤ maxLen) := Lib.hid (by rw [← hR]; exact (ansR_sz HGA.out HS1.out HS2.out).2.2)
  have HRL : Hid (R.length ≤ 300) := Lib.hid (by rw [← hR]; exact (ansR_sz HGA.out HS1.out HS2.out).1)
  clear hR
  cases hbb : ansOk ts vs t1 t2
  · rw [hbb] at C1 C2
    have D1 := Lib.hid C1
    have D2 := Lib.hid C2
    clear C1 C2
    obtain ⟨xv0, xv1, xv2⟩ := X1.out.now.tre
    go_wp2_with fail
    refine (D1.out _ A1.out I1.out).mono ?_
    rintro e w2 ⟨v, rfl, ho, hb⟩
    clear xv0 xv1 xv2
    have B2 := Lib.hid (B1.out.trans (hb.mono B1.out.size))
    have X2 := Lib.hid (X1.out.next hb)
    have I2 := Lib.hid (I1.out.next hb)
    have A2 := Lib.hid (A1.out.next hb)
    clear hb B1 X1 I1 A1
    clear ho
    obtain ⟨xv0, xv1, xv2⟩ := X2.out.now.tre
    go_wp2_with fail
    refine (D2.out _ A2.out I2.out).mono ?_
    rintro e w3 ⟨sx, sn, sc, rfl, si, hb⟩
    clear xv0 xv1 xv2
    have B3 := Lib.hid (B2.out.trans (hb.mono B2.out.size))
    have X3 := Lib.hid (X2.out.next hb)
    have I3 := Lib.hid (I2.out.next hb)
    have A3 := Lib.hid (A2.out.next hb)
    clear hb B2 X2 I2 A2
    clear si
    go_wp2_with fail
    go_ret
    exact ⟨rfl, B3.out⟩
  obtain ⟨rs, har, hmid, hRp, hpo⟩ := ans_yes hbb
  obtain ⟨i0, hi0, hz0, hzz, hzB⟩ := info_parts infoStr
  rw [HRR.out] at hRp
  have HMS : Hid (SmR rs) := Lib.hid (ansRows_sm HGA.out HS1.out HS2.out har)
  clear har
  have HMID := Lib.hid hmid
  have HRP := Lib.hid hRp
  clear hRp hpo
  obtain ⟨S, hS⟩ : ∃ s, solR ts t1 = s := ⟨_, rfl⟩
  have HSS := Lib.hid hS
  have HSM : Hid (SmR S) := Lib.hid (by rw [← hS]; exact solR_sm HGA.out HS1.out)
  have CS := fun (W : World) (hx : IsTris W xa na ca ts) (hy : IsTris W a1 n1 c1 t1) => implSolutions xa a1 na ca n1 c1 ts t1 W hx hy HGA.out HS1.out
  rw [hS, hmid.sol] at CS
  have DS := Lib.hid CS
  have CV := Lib.hid (fun (W : World) (hy : IsTris W a1 n1 c1 t1) => implVarsOf a1 n1 c1 t1 W hy HS1.out.sm)
  have HSL : Hid (S.length ≤ 300) := Lib.hid (by rw [← hS]; exact solR_len)
  have HV12 := Lib.hid (varsT_most t1)
  clear CS hS hmid
  rw [hbb] at C1 C2
  have D1 := Lib.hid C1
  have D2 := Lib.hid C2
  clear C1 C2
  obtain ⟨xv0, xv1, xv2⟩ := X1.out.now.tre
  go_wp2_with fail
  refine (D1.out _ A1.out I1.out).mono ?_
  rintro e w2 ⟨v, rfl, ho, hb⟩
  clear xv0 xv1 xv2
  have B2 := Lib.hid (B1.out.trans (hb.mono B1.out.size))
  have X2 := Lib.hid (X1.out.next hb)
  have I2 := Lib.hid (I1.out.next hb)
  have A2 := Lib.hid (A1.out.next hb)
  clear hb B1 X1 I1 A1
  obtain ⟨xr, cr, rfl, ir⟩ := ho.is HRM.out
  obtain ⟨nr, hnr⟩ : ∃ n, R.length = n := ⟨_, rfl⟩
  rw [hnr] at ir ⊢
  have HNr := Lib.hid hnr
  have E2 := Lib.hid ir
  clear ho ir hnr
  obtain ⟨xv0, xv1, xv2⟩ := X2.out.now.tre
  go_wp2_with fail
  refine (D2.out _ A2.out I2.out).mono ?_
  rintro e w3 ⟨sx, sn, sc, rfl, si, hb⟩
  clear xv0 xv1 xv2
  have B3 := Lib.hid (B2.out.trans (hb.mono B2.out.size))
  have X3 := Lib.hid (X2.out.next hb)
  have I3 := Lib.hid (I2.out.next hb)
  have A3 := Lib.hid (A2.out.next hb)
  have E3 := Lib.hid (E2.out.next hb)
  clear hb B2 X2 I2 A2 E2
  clear si
  obtain ⟨xv0, xv1, xv2⟩ := X3.out.now.tre
  go_wp2_with fail
  refine (CV.out _ I3.out.2.1).mono ?_
  rintro e w4 ⟨v, rfl, ho, hb⟩
  clear xv0 xv1 xv2
  have B4 := Lib.hid (B3.out.trans (hb.mono B3.out.size))
  have X4 := Lib.hid (X3.out.next hb)
  have I4 := Lib.hid (I3.out.next hb)
  have A4 := Lib.hid (A3.out.next hb)
  have E4 := Lib.hid (E3.out.next hb)
  clear hb B3 X3 I3 A3 E3
  obtain ⟨pv, cv, rfl, iv⟩ := ho.is
  obtain ⟨VS, hVS⟩ : ∃ l, (varsT t1).map bs = l := ⟨_, rfl⟩
  rw [hVS] at iv ⊢
  have HVS := Lib.hid hVS
  have hnv12 : VS.length ≤ 12 := by rw [← hVS, List.length_map]; exact HV12.out
  obtain ⟨nv, hnv⟩ : ∃ n, VS.length = n := ⟨_, rfl⟩
  rw [hnv] at iv hnv12 ⊢
  have HNV := Lib.hid hnv
  have V4 := Lib.hid iv
  clear ho iv hVS hnv
  obtain ⟨xv0, xv1, xv2⟩ := X4.out.now.tre
  go_wp2_with fail
  refine (DS.out _ A4.out I4.out.2.1).mono ?_
  rintro e w5 ⟨v, rfl, ho, hb⟩
  clear xv0 xv1 xv2
  have B5 := Lib.hid (B4.out.trans (hb.mono B4.out.size))
  have X5 := Lib.hid (X4.out.next hb)
  have I5 := Lib.hid (I4.out.next hb)
  have A5 := Lib.hid (A4.out.next hb)
  have E5 := Lib.hid (E4.out.next hb)
  have V5 := Lib.hid (V4.out.next hb)
  clear hb B4 X4 I4 A4 E4 V4
  obtain ⟨xs, cs, rfl, is⟩ := ho.is (fun r hr t ht => by have := HSM.out r hr t ht; unfold maxLen; omega)
  obtain ⟨ns, hns⟩ : ∃ n, S.length = n := ⟨_, rfl⟩
  rw [hns] at is ⊢
  have HNs := Lib.hid hns
  have W5 := Lib.hid is
  clear ho is hns
  obtain ⟨Wl, hWl⟩ : ∃ x, w5.heap.size = x := ⟨_, rfl⟩
  have D0 := Lib.hid ((Below.refl w5.heap.size w5).alloc (Nat.le_refl _) (.cells #[] 9))
  have O0 : Hid (OwnS w5.heap.size (w5.alloc (.cells #[] 9)) (.slice (some ⟨w5.heap.size, 0, none⟩) 0 0) []) := Lib.hid (World.ownsRow_lit (size := 1) (e := 9) w5 #[] 0 (Nat.le_refl _) (by decide) rfl)
  rw [hWl] at D0 O0
  go_wp2_with fail
  go_loopw [12, 13] (fun v i wr => ∃ k : Nat, k ≤ nv ∧ i = .int .i64 k ∧ Hid (OwnS Wl wr v (askedL vs (VS.take k))) ∧ Hid (Below Wl w5 wr)) (fun _ i _ => nv - (intOf i).toNat)
  case atStart => exact ⟨0, Nat.zero_le _, rfl, Lib.hid (by simpa [askedL] using O0.out), D0⟩
  case round =>
    obtain ⟨k, hk, rfl, O1, DD⟩ := hrel
    clear O0 D0
    have hk6 : (0 : Int) ≤ (k : Int) := by omega
    have DW : Hid (Below w5.heap.size w5 wr) := Lib.hid (by rw [hWl]; exact DD.out)
    have HWr : Wl ≤ wr.heap.size := by have := DW.out.size; omega
    by_cases hlt : k < nv
    · have hk7 : (k : Int) < (nv : Int) := by omega
      obtain ⟨vb, vo, rfl, hvb, _, _, hvl, hvc⟩ := (V5.out.next DW.out).cells (by omega)
      have hvk : VS[k]? = some (VS[k]'(by omega)) := List.getElem?_eq_getElem (by omega)
      have d0 := hvc k _ hvk
      have HT : Hid (VS.take (k + 1) = VS.take k ++ [VS[k]'(by omega)]) := Lib.hid (List.take_succ_eq_append_getElem (by omega))
      generalize VS[k]'(by omega) = x at hvk d0 HT
      have HSN := Lib.hid (askedL_snoc vs (VS.take k) x)
      rw [← HT.out] at HSN
      obtain ⟨L, hL⟩ : ∃ l, askedL vs (VS.take k) = l := ⟨_, rfl⟩
      have hL12 : L.length ≤ 12 := by rw [← hL]; unfold askedL; have h1 := List.length_filter_le (fun x => hasB vs x) (VS.take k); rw [List.length_take] at h1; omega
      rw [hL] at O1 HSN
      obtain ⟨oa, on, oc, rfl⟩ := own_sliceS O1.out
      have hon := own_lenS O1.out
      have IW := Lib.hid ((I5.out.next DW.out).next (Below.refl wr.heap.size wr).drew)
      have D3 : Hid ((wr.drew.cell? ⟨w0.heap.size, 0, none⟩ = some (.slice a0 n0 c0) ∧ wr.drew.cell? ⟨w0.heap.size, 1, none⟩ = some (.slice a1 n1 c1) ∧ wr.drew.cell? ⟨w0.heap.size, 2, none⟩ = some (.slice a2 n2 c2)) ∧ wr.drew.cell? ⟨vb, vo + k, none⟩ = some (.string x)) := Lib.hid ⟨(X5.out.next DW.out).now.tre, d0⟩
      have HH := Lib.hid (fun (W : World) (hi : IsStrs W a0 n0 c0 vs) => lawHasTx a0 n0 c0 vs x W hi (by omega))
      clear hvl hvc hvk hL HT
      have d1 : wr.drew.cell? ⟨vb, vo + k, none⟩ = some (.string x) := d0
      clear d0
      cases hhb : hasB vs x
      · have HHd := HH.out
        simp only [hhb] at HHd
        have HX := Lib.hid HHd
        clear HHd
        go_wp2_with fail
        refine wp_region_held_drew (S := (fun w' => (w'.cell? ⟨w0.heap.size, 0, none⟩ = some (.slice a0 n0 c0) ∧ w'.cell? ⟨w0.heap.size, 1, none⟩ = some (.slice a1 n1 c1) ∧ w'.cell? ⟨w0.heap.size, 2, none⟩ = some (.slice a2 n2 c2)) ∧ w'.cell? ⟨vb, vo + k, none⟩ = some (.string x))) (by kernel_rfl) ?_ (fun hHeld => ?_)
        · exact D3.out
        refine wpAnyH_take (i := 0) (v := ?_) rfl (by kernel_rfl) (by kernel_rfl) (by kernel_rfl) (fun _ _ _ h => h) (Or.inl ⟨by kernel_rfl, ?_⟩) (by assumption) ?_
        rotate_left
        · intro w hSw; (try dsimp only at hSw); go_simp; try with_reducible rfl
        refine wpAnyH_take (i := 1) (v := ?_) rfl (by kernel_rfl) (by kernel_rfl) (by kernel_rfl) (fun _ _ _ h => h) (Or.inl ⟨by kernel_rfl, ?_⟩) (by assumption) ?_
        rotate_left
        · intro w hSw; (try dsimp only at hSw); go_simp; try with_reducible rfl
        refine wpAnyH_take (i := 2) (v := ?_) rfl (by kernel_rfl) (by kernel_rfl) (by kernel_rfl) (fun _ _ _ h => h) (Or.inl ⟨by kernel_rfl, ?_⟩) (by assumption) ?_
        rotate_left
        · intro w hSw; (try dsimp only at hSw); go_simp; try with_reducible rfl
        refine wpAnyH_take (i := 3) (v := ?_) rfl (by kernel_rfl) (by kernel_rfl) (by kernel_rfl) (fun _ _ _ h => h) (Or.inl ⟨by kernel_rfl, ?_⟩) (by assumption) ?_
        rotate_left
        · intro w hSw; (try dsimp only at hSw); go_simp; try with_reducible rfl
        refine wpAnyH_take (i := 4) (v := ?_) rfl (by kernel_rfl) (by kernel_rfl) (by kernel_rfl) (fun _ _ _ h => h) (Or.inl ⟨by kernel_rfl, ?_⟩) (by assumption) ?_
        rotate_left
        · intro w hSw; (try dsimp only at hSw); go_simp; try with_reducible rfl
        refine wpAnyH_take (i := 5) (v := ?_) rfl (by kernel_rfl) (by kernel_rfl) (by kernel_rfl) (fun _ _ _ h => h) (Or.inl ⟨by kernel_rfl, ?_⟩) (by assumption) ?_
        rotate_left
        · intro w hSw; (try dsimp only at hSw); go_simp; try with_reducible rfl
        refine wpAnyH_ready (rs := [6]) (by kernel_rfl) (by simp) ?_
        refine AllReadyH.cons rfl (fun K hK => ?_) AllReadyH.nil
        go_simp
        refine (HX.out _ IW.out.1.1).mono ?_
        rintro e wy ⟨rfl, hwy⟩
        subst hwy
        go_wp2_with fail
        clear hHeld
        refine hK.out _ _ ?_ (fun hHeld => ?_)
        · exact D3.out
        clear hK K
        refine wpAnyH_done (by kernel_rfl) ?_ _
        try simp only [Act.put, List.setIfInBounds_toArray, List.set_cons_zero, List.set_cons_succ, List.getElem_toArray, List.getElem_cons_zero, List.getElem_cons_succ]
        clear hHeld
        go_wp2_with fail
        go_roundw
        case rel => exact ⟨k + 1, by omega, by go_num, Lib.hid (by rw [HSN.out, if_neg (by rw [hhb]; simp)]; exact ownS_off O1.out (grownBy_drew (World.grownBy.refl wr none)) (fun j e => by cases e)), Lib.hid DD.out.drew⟩
        case measure => simp [intOf]; omega
      · have OA : Hid ((wr.drew.alloc (.cells #[.string x] 9)).ownsRow Wl 9 1 (.slice oa on oc) on (L.map strV)) := Lib.hid (World.ownsRow.alloc (by have h1 := ownS_off O1.out (grownBy_drew (World.grownBy.refl wr none)) (fun j e => by cases e); unfold OwnS at h1; rw [hon] at h1; exact h1) (.cells #[.string x] 9))
        have HC1 := Lib.hid (one_cell (w := wr.drew) (u := .string x) (e := 9))
        have hlto := fun q hq => (World.ownsRow.lt OA.out q hq).1
        have HHd := HH.out
        simp only [hhb] at HHd
        have HX := Lib.hid HHd
        clear HHd
        go_wp2_with fail
        refine wp_region_held_drew (S := (fun w' => (w'.cell? ⟨w0.heap.size, 0, none⟩ = some (.slice a0 n0 c0) ∧ w'.cell? ⟨w0.heap.size, 1, none⟩ = some (.slice a1 n1 c1) ∧ w'.cell? ⟨w0.heap.size, 2, none⟩ = some (.slice a2 n2 c2)) ∧ w'.cell? ⟨vb, vo + k, none⟩ = some (.string x))) (by kernel_rfl) ?_ (fun hHeld => ?_)
        · exact D3.out
        refine wpAnyH_take (i := 0) (v := ?_) rfl (by kernel_rfl) (by kernel_rfl) (by kernel_rfl) (fun _ _ _ h => h) (Or.inl ⟨by kernel_rfl, ?_⟩) (by assumption) ?_
        rotate_left
        · intro w hSw; (try dsimp only at hSw); go_simp; try with_reducible rfl
        refine wpAnyH_take (i := 1) (v := ?_) rfl (by kernel_rfl) (by kernel_rfl) (by kernel_rfl) (fun _ _ _ h => h) (Or.inl ⟨by kernel_rfl, ?_⟩) (by assumption) ?_
        rotate_left
        · intro w hSw; (try dsimp only at hSw); go_simp; try with_reducible rfl
        refine wpAnyH_take (i := 2) (v := ?_) rfl (by kernel_rfl) (by kernel_rfl) (by kernel_rfl) (fun _ _ _ h => h) (Or.inl ⟨by kernel_rfl, ?_⟩) (by assumption) ?_
        rotate_left
        · intro w hSw; (try dsimp only at hSw); go_simp; try with_reducible rfl
        refine wpAnyH_take (i := 3) (v := ?_) rfl (by kernel_rfl) (by kernel_rfl) (by kernel_rfl) (fun _ _ _ h => h) (Or.inl ⟨by kernel_rfl, ?_⟩) (by assumption) ?_
        rotate_left
        · intro w hSw; (try dsimp only at hSw); go_simp; try with_reducible rfl
        refine wpAnyH_take (i := 4) (v := ?_) rfl (by kernel_rfl) (by kernel_rfl) (by kernel_rfl) (fun _ _ _ h => h) (Or.inl ⟨by kernel_rfl, ?_⟩) (by assumption) ?_
        rotate_left
        · intro w hSw; (try dsimp only at hSw); go_simp; try with_reducible rfl
        refine wpAnyH_take (i := 5) (v := ?_) rfl (by kernel_rfl) (by kernel_rfl) (by kernel_rfl) (fun _ _ _ h => h) (Or.inl ⟨by kernel_rfl, ?_⟩) (by assumption) ?_
        rotate_left
        · intro w hSw; (try dsimp only at hSw); go_simp; try with_reducible rfl
        refine wpAnyH_ready (rs := [6]) (by kernel_rfl) (by simp) ?_
        refine AllReadyH.cons rfl (fun K hK => ?_) AllReadyH.nil
        go_simp
        refine (HX.out _ IW.out.1.1).mono ?_
        rintro e wy ⟨rfl, hwy⟩
        subst hwy
        go_wp2_with fail
        clear hHeld
        refine hK.out _ _ ?_ (fun hHeld => ?_)
        · exact D3.out
        clear hK K
        refine wpAnyH_done (by kernel_rfl) ?_ _
        try simp only [Act.put, List.setIfInBounds_toArray, List.set_cons_zero, List.set_cons_succ, List.getElem_toArray, List.getElem_cons_zero, List.getElem_cons_succ]
        clear hHeld
        go_wp2_with (at_builtin; refine wpList_append_own _ rfl _ _ 23 rfl Wl 9 i0 (.string ⟨#[]⟩) 1 16 Tryz.underlying23 hi0 hz0 hzz hzB rfl (by decide) _ _ _ rfl OA.out ⟨wr.drew.heap.size, 0, none⟩ 1 _ [.string x] rfl rfl HC1.out (by intro z hz; simp at hz; subst hz; rfl) ?h63 ?h48 ?hbs ?_)
        case h63 => unfold maxLen; omega
        case h48 => omega
        case hbs => first | exact HWr | exact Nat.le_succ_of_le HWr | (simp only [World.size_alloc]; omega) | (simp; omega)
        intro v9 w9 hown5 hg5 _
        have O5 : Hid (OwnS Wl w9 v9 (L ++ [x])) := Lib.hid (ownS_snoc (t := x) (by rw [hon]; exact hown5))
        have D5 : Hid (Below Wl w5 w9) := Lib.hid ((DD.out.drew.alloc HWr (.cells #[.string x] 9)).grown hg5 (by rw [World.size_alloc]; exact Nat.le_succ_of_le HWr) (fun j hj => hlto j hj))
        clear hown5 hg5 OA HC1 hlto
        go_wp2_with fail
        go_roundw
        case rel => exact ⟨k + 1, by omega, by go_num, Lib.hid (by rw [HSN.out, if_pos hhb]; exact O5.out), D5⟩
        case measure => simp [intOf]; omega
    · obtain rfl : k = nv := by omega
      have HF : Hid (VS.take k = VS) := Lib.hid (List.take_of_length_le (by rw [HNV.out]; exact Nat.le_refl _))
      rw [HF.out, ← HVS.out] at O1
      obtain ⟨L, hL⟩ : ∃ l, askedL vs ((varsT t1).map bs) = l := ⟨_, rfl⟩
      rw [hL] at O1
      have HAV : Hid (∀ x ∈ txts L, x ∈ varWords t1 ∧ x ∈ txts vs ∧ isVarK x = true) := Lib.hid (fun x hx => asked_var (by rw [hL]; exact hx))
      have hLs : ∀ x ∈ L, x.size ≤ 1048576 := fun x hx => by rw [← hL] at hx; unfold askedL at hx; have h1 := (List.mem_filter.1 hx).2; obtain ⟨y, hy, e⟩ := List.any_eq_true.1 h1; have e := beq_iff_eq.1 e; rw [ByteArray.toList_eq, ByteArray.toList_eq] at e; have h2 := HS0.out y hy; have e2 : y.size = x.size := congrArg List.length e; omega
      have HLS := Lib.hid hLs
      have hL12 : L.length ≤ 12 := by rw [← hL]; unfold askedL; have h1 := List.length_filter_le (fun x => hasB vs x) ((varsT t1).map bs); rw [List.length_map] at h1; have := HV12.out; omega
      obtain ⟨oa, on, oc, rfl⟩ := own_sliceS O1.out
      have hon := own_lenS O1.out
      rw [hon] at hL12
      have P5 := Lib.hid (ownS_strs O1.out)
      have B5' := Lib.hid (B5.out.trans (DW.out.mono B5.out.size))
      have X5' := Lib.hid (X5.out.next DW.out)
      have I5' := Lib.hid (I5.out.next DW.out)
      have A5' := Lib.hid (A5.out.next DW.out)
      have E5' := Lib.hid (E5.out.next DW.out)
      have V5' := Lib.hid (V5.out.next DW.out)
      have W5' := Lib.hid (W5.out.next DW.out)
      clear B5 X5 I5 A5 E5 V5 W5 hL hLs DD DW O1
      have B6 := B5'
      have X6 := X5'
      have I6 := I5'
      have A6 := A5'
      have E6 := E5'
      have V6 := V5'
      have W6 := W5'
      have P6 := P5
      clear B5' X5' I5' A5' E5' V5' W5' P5
      obtain ⟨hp1, hp2⟩ := few_ok HMID.out (vs := vs) (asked := L) (by rw [← HRP.out]; exact HRL.out) (fun x hx => (HAV.out x hx).2.2)
      have hpe := ans_few HMID.out (vs := vs) (asked := L) (fun x hx => (HAV.out x hx).1) (fun x hx => (HAV.out x hx).2.1)
      rw [← HRP.out, HSS.out] at hpe
      rw [← HRP.out] at hp1
      rw [HSS.out] at hp2
      have HRS : Hid (SmR R) := Lib.hid (fun r hr t ht => by
        rw [HRP.out] at hr
        obtain ⟨m, hm, rfl⟩ := (projL_back HMID.out.ok r).1 hr
        exact HMS.out m hm t (keepL_sub t ht))
      have E1 := fun (W : World) (hx : IsRows W xs ns cs S) (hy : IsStrs W oa on oc L) => implProjected xs oa ns cs on oc S L W hx hy HSM.out HLS.out (by omega)
      have E2 := fun (W : World) (hx : IsRows W xr nr cr R) (hy : IsStrs W oa on oc L) => implProjected xr oa nr cr on oc R L W hx hy HRS.out HLS.out (by omega)
      rw [hp2, projR_yes hp2] at E1
      rw [hp1, projR_yes hp1, hpe] at E2
      obtain ⟨z1, z2, z3⟩ := projR_sz S L
      rw [projR_yes hp2] at z1 z2 z3
      obtain ⟨PL, hPL⟩ : ∃ l, projL S L = l := ⟨_, rfl⟩
      rw [hPL] at E1 E2 z1 z2 z3
      have HPM : Hid (∀ r ∈ PL, ∀ t ∈ r, t.1.size ≤ maxLen ∧ t.2.size ≤ maxLen) := Lib.hid (fun r hr t ht => by obtain ⟨s, hs, hts⟩ := z3 r hr t ht; have := HSM.out s hs t hts; unfold maxLen; omega)
      have HPL := Lib.hid (rows_most z2)
      have hp300 : PL.length ≤ 300 := z1
      have F1 := Lib.hid E1
      have F2 := Lib.hid E2
      clear E1 E2 z1 z2 z3 hpe hp1 hp2 hPL
      go_wp2_with fail
      refine (F1.out _ W6.out P6.out).mono ?_
      rintro e w7 ⟨v, rfl, ho, hb⟩
      have B7 := Lib.hid (B6.out.trans (hb.mono B6.out.size))
      have X7 := Lib.hid (X6.out.next hb)
      have I7 := Lib.hid (I6.out.next hb)
      have A7 := Lib.hid (A6.out.next hb)
      have E7 := Lib.hid (E6.out.next hb)
      have V7 := Lib.hid (V6.out.next hb)
      have W7 := Lib.hid (W6.out.next hb)
      have P7 := Lib.hid (P6.out.next hb)
      clear hb B6 X6 I6 A6 E6 V6 W6 P6
      obtain ⟨xj, cj, rfl, ij⟩ := ho.is HPM.out
      obtain ⟨nj, hnj⟩ : ∃ n, PL.length = n := ⟨_, rfl⟩
      rw [hnj] at ij ⊢
      have HNj := Lib.hid hnj
      have J7 := Lib.hid ij
      clear ho ij hnj
      go_wp2_with fail
      refine (F2.out _ E7.out P7.out).mono ?_
      rintro e w8 ⟨v, rfl, ho, hb⟩
      have B8 := Lib.hid (B7.out.trans (hb.mono B7.out.size))
      have X8 := Lib.hid (X7.out.next hb)
      have I8 := Lib.hid (I7.out.next hb)
      have A8 := Lib.hid (A7.out.next hb)
      have E8 := Lib.hid (E7.out.next hb)
      have V8 := Lib.hid (V7.out.next hb)
      have W8 := Lib.hid (W7.out.next hb)
      have P8 := Lib.hid (P7.out.next hb)
      have J8 := Lib.hid (J7.out.next hb)
      clear hb B7 X7 I7 A7 E7 V7 W7 P7 J7
      obtain ⟨xk, ck, rfl, ik⟩ := ho.is HPM.out
      rw [HNj.out] at ik ⊢
      have K8 := Lib.hid ik
      clear ho ik
      have hnj : nj ≤ 1048576 := by have := HNj.out; omega
      go_wp2_with fail
      refine (lawRowsSame xj xk nj cj nj ck PL _ J8.out K8.out ⟨hnj, HPL.out⟩).mono ?_
      rintro e w9 ⟨rfl, hb⟩
      have B9 := Lib.hid (B8.out.trans (hb.mono B8.out.size))
      have X9 := Lib.hid (X8.out.next hb)
      have I9 := Lib.hid (I8.out.next hb)
      have A9 := Lib.hid (A8.out.next hb)
      have E9 := Lib.hid (E8.out.next hb)
      have V9 := Lib.hid (V8.out.next hb)
      have W9 := Lib.hid (W8.out.next hb)
      have P9 := Lib.hid (P8.out.next hb)
      have J9 := Lib.hid (J8.out.next hb)
      have K9 := Lib.hid (K8.out.next hb)
      clear hb B8 X8 I8 A8 E8 V8 W8 P8 J8 K8
      go_wp2_with fail
      go_ret
      exact ⟨rfl, B9.out⟩
end fnFirstAsked
end Go.Proofs.YtiajdnhmjdfeeaaGreat
