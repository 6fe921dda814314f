/- The walk of FnAnswers. -/
import Derived.Test.YtiajdnhmjdfeeaaGreatKAS
import Derived.Test.YtiajdnhmjdfeeaaGreatK00
import Derived.Test.YtiajdnhmjdfeeaaGreatK41
import Derived.Test.YtiajdnhmjdfeeaaGreatK42
import Derived.Test.YtiajdnhmjdfeeaaGreatK43
import Derived.Test.YtiajdnhmjdfeeaaGreatKA00
import Derived.Test.YtiajdnhmjdfeeaaGreatKA01
import Derived.Test.YtiajdnhmjdfeeaaGreatKA03
import Derived.Test.YtiajdnhmjdfeeaaGreatK37
namespace Go.Proofs.YtiajdnhmjdfeeaaGreat
open Go.RowKit Go.WideShapes
def anyM (l : List RowV) (r : RowV) : Bool := l.any fun s => (mergedP s r).isSome
theorem anyM_step {l : List RowV} {s r : RowV} {k : Nat} (h : l[k]? = some s) : anyM (l.take (k + 1)) r = (anyM (l.take k) r || (mergedP s r).isSome) := by
  obtain ⟨hk, rfl⟩ := List.getElem?_eq_some_iff.1 h
  unfold anyM
  rw [List.take_succ_eq_append_getElem hk, List.any_append]
  simp only [List.any_cons, List.any_nil, Bool.or_false]
theorem ans_yesA {gs : List Tri3} {vs : List ByteArray} {t1 t2 : List Tri3} (h : ansOk gs vs t1 t2 = true) : ∃ rs, ansRows gs vs t1 t2 = some rs ∧ Mid gs t1 rs ∧ ansR gs vs t1 t2 = projL rs vs := by
  cases hr : ansRows gs vs t1 t2 with
  | none => rw [(ans_none hr).1] at h; cases h
  | some rs =>
    rw [(ans_some hr).1] at h
    exact ⟨rs, rfl, mid_of hr, by rw [(ans_some hr).2, projR_yes h]⟩
theorem rowsM {rs : List RowV} (h : totR rs ≤ 3600) : ∀ r ∈ rs, r.length ≤ 1048576 := fun r hr => by have := totR_mem hr; omega
namespace fnAnswers
set_option maxRecDepth 100000 in
set_option maxHeartbeats 6400000 in
theorem walk (a : Option Addr) (len cap : Nat) (zs : List Int) (w : World) (hrow : Frame.IsRow .u8 w a len cap zs) :
    Calls Tryz.prog 4 #[.slice a len cap] w fun e w' => e = .returned (.bool true) ∧ Below w.heap.size w w' := by
  have hlen : len ≤ 9223372036854775807 := by
    rcases hrow with ⟨_, rfl, _⟩ | ⟨y, _, h1, h2, _⟩
    · omega
    · unfold maxLen at h2; omega
  by_cases hbig : (1048576 : Int) < len
  · go_enter Tryz.func4, Tryz.ntmps4
    go_wp2_with go_in
    go_ret
    exact ⟨rfl, Below.refl _ _⟩
  go_enter Tryz.func4, Tryz.ntmps4
  go_wp2_with (go_at_call 21; go_in)
  refine (drawAnswer _ _ _ _ _ hrow).mono ?_
  rintro e w0 ⟨va, ts, a0, a1, a2, n0, n1, n2, c0, c1, c2, vs, t1, t2, rfl, hg, hq, hsm, g0⟩
  have HR0 := Lib.hid hrow
  have hb0 := below_of_grown g0
  have hbx : Below w0.heap.size w0 (w0.alloc (.cells #[.slice a0 n0 c0, .slice a1 n1 c1, .slice a2 n2 c2] 34)) := (Below.refl w0.heap.size w0).alloc (Nat.le_refl _) _
  have B1 := Lib.hid (hb0.alloc hb0.size (.cells #[.slice a0 n0 c0, .slice a1 n1 c1, .slice a2 n2 c2] 34))
  have X1 := Lib.hid (cells_new w0 #[.slice a0 n0 c0, .slice a1 n1 c1, .slice a2 n2 c2] 34)
  have I1 := Lib.hid (hq.next hbx)
  obtain ⟨xa, ca, rfl, hi, hp, hsg⟩ := hg
  obtain ⟨na, hna⟩ : ∃ n, ts.length = n := ⟨_, rfl⟩
  rw [hna] at hi ⊢
  have A1 := Lib.hid (hi.next hbx)
  have HGA : Hid (SmT ts) := Lib.hid (fun t ht => by have := hsg.2 t ht; omega)
  have HS0 : Hid (∀ t ∈ vs, t.size ≤ 1048576) := Lib.hid (fun t ht => by have := hsm.1.2 t ht; omega)
  have HS1 : Hid (SmT t1) := Lib.hid (fun t ht => by have := hsm.2.1.2 t ht; omega)
  have HS2 : Hid (SmT t2) := Lib.hid (fun t ht => by have := hsm.2.2.2 t ht; omega)
  have hl0 : n0 ≤ 4 := by have := hq.1.1.len; have := hsm.1.1; omega
  have hl1 : n1 ≤ 3 := by have := hq.2.1.len; have := hsm.2.1.1; omega
  have HV0 := Lib.hid hq.1.1.len
  have hna81 : na ≤ 81 := by rw [← hna]; exact hsg.1
  clear hrow hbig hlen hb0 hbx g0 hq hi hp hsg hsm hna
  obtain ⟨R, hR⟩ : ∃ r, ansR ts vs t1 t2 = r := ⟨_, rfl⟩
  have C1 := fun (W : World) (hx : IsTris W xa na ca ts) (hy : IsQry W a0 a1 a2 n0 n1 n2 c0 c1 c2 vs t1 t2) => implAnswer xa na ca ts a0 a1 a2 n0 n1 n2 c0 c1 c2 vs t1 t2 W hx hy HGA.out HS0.out HS1.out HS2.out (by omega)
  have C2 := fun (W : World) (hx : IsTris W xa na ca ts) (hy : IsQry W a0 a1 a2 n0 n1 n2 c0 c1 c2 vs t1 t2) => specAnswer xa na ca ts a0 a1 a2 n0 n1 n2 c0 c1 c2 vs t1 t2 W hx hy HGA.out HS0.out HS1.out HS2.out (by omega)
  rw [hR] at C1 C2
  have HRR := Lib.hid hR
  have HRM : Hid (∀ r ∈ R, ∀ t ∈ r, t.1.size ≤ maxLen ∧ t.2.size ≤ maxLen) := Lib.hid (by rw [← hR]; exact (ansR_sz HGA.out HS1.out HS2.out).2.2)
  have HRL : Hid (R.length ≤ 300) := Lib.hid (by rw [← hR]; exact (ansR_sz HGA.out HS1.out HS2.out).1)
  have HRW : Hid (∀ r ∈ R, r.length ≤ 1048576) := Lib.hid (by rw [← hR]; exact rowsM (ansR_sz HGA.out HS1.out HS2.out).2.1)
  clear hR
  cases hbb : ansOk ts vs t1 t2
  · rw [hbb] at C1 C2
    have D1 := Lib.hid C1
    have D2 := Lib.hid C2
    clear C1 C2
    obtain ⟨xv0, xv1, xv2⟩ := X1.out.now.tre
    go_wp2_with fail
    refine (D1.out _ A1.out I1.out).mono ?_
    rintro e w2 ⟨v, rfl, ho, hb⟩
    clear xv0 xv1 xv2
    have B2 := Lib.hid (B1.out.trans (hb.mono B1.out.size))
    have X2 := Lib.hid (X1.out.next hb)
    have I2 := Lib.hid (I1.out.next hb)
    have A2 := Lib.hid (A1.out.next hb)
    clear hb B1 X1 I1 A1
    obtain ⟨xr, cr, rfl, ir⟩ := ho.is HRM.out
    obtain ⟨nr, hnr⟩ : ∃ n, R.length = n := ⟨_, rfl⟩
    rw [hnr] at ir ⊢
    have HNr := Lib.hid hnr
    have E2 := Lib.hid ir
    clear ho ir hnr
    obtain ⟨xv0, xv1, xv2⟩ := X2.out.now.tre
    go_wp2_with fail
    refine (D2.out _ A2.out I2.out).mono ?_
    rintro e w3 ⟨sx, sn, sc, rfl, si, hb⟩
    clear xv0 xv1 xv2
    have B3 := Lib.hid (B2.out.trans (hb.mono B2.out.size))
    have X3 := Lib.hid (X2.out.next hb)
    have I3 := Lib.hid (I2.out.next hb)
    have A3 := Lib.hid (A2.out.next hb)
    have E3 := Lib.hid (E2.out.next hb)
    clear hb B2 X2 I2 A2 E2
    have hsn := si.len
    rw [HNr.out] at hsn
    subst hsn
    have F3 := Lib.hid si
    clear si
    go_wp2_with fail
    refine (drawRowsText _ _ _ _ _ (isRow_grown HR0.out (grown_of_below B3.out))).mono ?_
    rintro e w4 ⟨tx, tn, tc, T, rfl, ti, hts, htn, hb⟩
    have B4 := Lib.hid (B3.out.trans (hb.mono B3.out.size))
    have X4 := Lib.hid (X3.out.next hb)
    have I4 := Lib.hid (I3.out.next hb)
    have A4 := Lib.hid (A3.out.next hb)
    have E4 := Lib.hid (E3.out.next hb)
    have F4 := Lib.hid (F3.out.next hb)
    clear hb B3 X3 I3 A3 E3 F3
    have T4 := Lib.hid ti
    have HTS := Lib.hid hts
    clear ti hts
    have P1 := fun (W : World) (hx : IsRows W tx tn tc T) => implRowsText tx tn tc T W hx HTS.out (by omega)
    have P2 := fun (W : World) (hx : IsRows W tx tn tc T) => specRowsText tx tn tc T W hx HTS.out (by omega)
    generalize bs (rowsTx T) = tt at P1 P2
    have Q1 := Lib.hid P1
    have Q2 := Lib.hid P2
    clear P1 P2
    go_wp2_with fail
    refine (lawRowsSame _ _ _ _ _ _ R _ E4.out F4.out ⟨by have := HNr.out; have := HRL.out; omega, HRW.out⟩).mono ?_
    rintro e w5 ⟨rfl, hb⟩
    have B5 := Lib.hid (B4.out.trans (hb.mono B4.out.size))
    have X5 := Lib.hid (X4.out.next hb)
    have I5 := Lib.hid (I4.out.next hb)
    have A5 := Lib.hid (A4.out.next hb)
    have E5 := Lib.hid (E4.out.next hb)
    have F5 := Lib.hid (F4.out.next hb)
    have T5 := Lib.hid (T4.out.next hb)
    clear hb B4 X4 I4 A4 E4 F4 T4
    go_wp2_with fail
    refine (Q1.out _ T5.out).mono ?_
    rintro e w6 ⟨rfl, hb⟩
    have B6 := Lib.hid (B5.out.trans (hb.mono B5.out.size))
    have X6 := Lib.hid (X5.out.next hb)
    have I6 := Lib.hid (I5.out.next hb)
    have A6 := Lib.hid (A5.out.next hb)
    have E6 := Lib.hid (E5.out.next hb)
    have F6 := Lib.hid (F5.out.next hb)
    have T6 := Lib.hid (T5.out.next hb)
    clear hb B5 X5 I5 A5 E5 F5 T5
    go_wp2_with fail
    refine (Q2.out _ T6.out).mono ?_
    rintro e w7 ⟨rfl, hb⟩
    have B7 := Lib.hid (B6.out.trans (hb.mono B6.out.size))
    have X7 := Lib.hid (X6.out.next hb)
    have I7 := Lib.hid (I6.out.next hb)
    have A7 := Lib.hid (A6.out.next hb)
    have E7 := Lib.hid (E6.out.next hb)
    have F7 := Lib.hid (F6.out.next hb)
    have T7 := Lib.hid (T6.out.next hb)
    clear hb B6 X6 I6 A6 E6 F6 T6
    go_wp2_with fail
    refine (lawRowsSame _ _ _ _ _ _ R _ E7.out F7.out ⟨by have := HNr.out; have := HRL.out; omega, HRW.out⟩).mono ?_
    rintro e w8 ⟨rfl, hb⟩
    have B8 := Lib.hid (B7.out.trans (hb.mono B7.out.size))
    have X8 := Lib.hid (X7.out.next hb)
    have I8 := Lib.hid (I7.out.next hb)
    have A8 := Lib.hid (A7.out.next hb)
    have E8 := Lib.hid (E7.out.next hb)
    have F8 := Lib.hid (F7.out.next hb)
    have T8 := Lib.hid (T7.out.next hb)
    clear hb B7 X7 I7 A7 E7 F7 T7
    go_wp2_with fail
    refine (Q1.out _ T8.out).mono ?_
    rintro e w9 ⟨rfl, hb⟩
    have B9 := Lib.hid (B8.out.trans (hb.mono B8.out.size))
    have X9 := Lib.hid (X8.out.next hb)
    have I9 := Lib.hid (I8.out.next hb)
    have A9 := Lib.hid (A8.out.next hb)
    have E9 := Lib.hid (E8.out.next hb)
    have F9 := Lib.hid (F8.out.next hb)
    have T9 := Lib.hid (T8.out.next hb)
    clear hb B8 X8 I8 A8 E8 F8 T8
    go_wp2_with fail
    refine (Q2.out _ T9.out).mono ?_
    rintro e w10 ⟨rfl, hb⟩
    have B10 := Lib.hid (B9.out.trans (hb.mono B9.out.size))
    have X10 := Lib.hid (X9.out.next hb)
    have I10 := Lib.hid (I9.out.next hb)
    have A10 := Lib.hid (A9.out.next hb)
    have E10 := Lib.hid (E9.out.next hb)
    have F10 := Lib.hid (F9.out.next hb)
    have T10 := Lib.hid (T9.out.next hb)
    clear hb B9 X9 I9 A9 E9 F9 T9
    go_wp2_with fail
    go_ret
    exact ⟨rfl, B10.out⟩
  obtain ⟨rs, har, hmid, hRp⟩ := ans_yesA hbb
  rw [HRR.out] at hRp
  have HMID := Lib.hid hmid
  have HRP := Lib.hid hRp
  have HMS : Hid (SmR rs) := Lib.hid (ansRows_sm HGA.out HS1.out HS2.out har)
  clear har hRp
  obtain ⟨S, hS⟩ : ∃ s, solR ts t1 = s := ⟨_, rfl⟩
  have HSS := Lib.hid hS
  have HSM : Hid (SmR S) := Lib.hid (by rw [← hS]; exact solR_sm HGA.out HS1.out)
  have CS := fun (W : World) (hx : IsTris W xa na ca ts) (hy : IsTris W a1 n1 c1 t1) => implSolutions xa a1 na ca n1 c1 ts t1 W hx hy HGA.out HS1.out
  rw [hS, hmid.sol] at CS
  have DS := Lib.hid CS
  have HRS : Hid (SmR R) := Lib.hid (fun r hr t ht => by
    rw [HRP.out] at hr
    obtain ⟨m, hm, rfl⟩ := (projL_back HMID.out.ok r).1 hr
    exact HMS.out m hm t (keepL_sub t ht))
  have HPART : Hid (∀ r ∈ R, anyM S r = true) := Lib.hid (fun r hr => by
    rw [HRP.out] at hr
    obtain ⟨s, hs, hm⟩ := ans_part HMID.out r hr
    rw [HSS.out] at hs
    exact List.any_eq_true.2 ⟨s, hs, hm⟩)
  have HVAR : Hid (∀ r ∈ R, ∀ t ∈ r, hasB vs t.1 = true) := Lib.hid (fun r hr t ht => by
    rw [HRP.out] at hr
    rw [hasB_mem]
    exact decide_eq_true (projL_has hr ht))
  have HNIL : Hid (S.length = 0 ↔ R.length = 0) := Lib.hid (by rw [HRP.out, ← HSS.out]; exact ans_nil HMID.out)
  clear CS hS hmid
  rw [hbb] at C1 C2
  have D1 := Lib.hid C1
  have D2 := Lib.hid C2
  clear C1 C2
  obtain ⟨xv0, xv1, xv2⟩ := X1.out.now.tre
  go_wp2_with fail
  refine (D1.out _ A1.out I1.out).mono ?_
  rintro e w2 ⟨v, rfl, ho, hb⟩
  clear xv0 xv1 xv2
  have B2 := Lib.hid (B1.out.trans (hb.mono B1.out.size))
  have X2 := Lib.hid (X1.out.next hb)
  have I2 := Lib.hid (I1.out.next hb)
  have A2 := Lib.hid (A1.out.next hb)
  clear hb B1 X1 I1 A1
  obtain ⟨xr, cr, rfl, ir⟩ := ho.is HRM.out
  obtain ⟨nr, hnr⟩ : ∃ n, R.length = n := ⟨_, rfl⟩
  rw [hnr] at ir ⊢
  have HNr := Lib.hid hnr
  have E2 := Lib.hid ir
  clear ho ir hnr
  obtain ⟨xv0, xv1, xv2⟩ := X2.out.now.tre
  go_wp2_with fail
  refine (D2.out _ A2.out I2.out).mono ?_
  rintro e w3 ⟨sx, sn, sc, rfl, si, hb⟩
  clear xv0 xv1 xv2
  have B3 := Lib.hid (B2.out.trans (hb.mono B2.out.size))
  have X3 := Lib.hid (X2.out.next hb)
  have I3 := Lib.hid (I2.out.next hb)
  have A3 := Lib.hid (A2.out.next hb)
  have E3 := Lib.hid (E2.out.next hb)
  clear hb B2 X2 I2 A2 E2
  have hsn := si.len
  rw [HNr.out] at hsn
  subst hsn
  have F3 := Lib.hid si
  clear si
  go_wp2_with fail
  refine (drawRowsText _ _ _ _ _ (isRow_grown HR0.out (grown_of_below B3.out))).mono ?_
  rintro e w4 ⟨tx, tn, tc, T, rfl, ti, hts, htn, hb⟩
  have B4 := Lib.hid (B3.out.trans (hb.mono B3.out.size))
  have X4 := Lib.hid (X3.out.next hb)
  have I4 := Lib.hid (I3.out.next hb)
  have A4 := Lib.hid (A3.out.next hb)
  have E4 := Lib.hid (E3.out.next hb)
  have F4 := Lib.hid (F3.out.next hb)
  clear hb B3 X3 I3 A3 E3 F3
  have T4 := Lib.hid ti
  have HTS := Lib.hid hts
  clear ti hts
  have P1 := fun (W : World) (hx : IsRows W tx tn tc T) => implRowsText tx tn tc T W hx HTS.out (by omega)
  have P2 := fun (W : World) (hx : IsRows W tx tn tc T) => specRowsText tx tn tc T W hx HTS.out (by omega)
  generalize bs (rowsTx T) = tt at P1 P2
  have Q1 := Lib.hid P1
  have Q2 := Lib.hid P2
  clear P1 P2
  go_wp2_with fail
  refine (lawRowsSame _ _ _ _ _ _ R _ E4.out F4.out ⟨by have := HNr.out; have := HRL.out; omega, HRW.out⟩).mono ?_
  rintro e w5 ⟨rfl, hb⟩
  have B5 := Lib.hid (B4.out.trans (hb.mono B4.out.size))
  have X5 := Lib.hid (X4.out.next hb)
  have I5 := Lib.hid (I4.out.next hb)
  have A5 := Lib.hid (A4.out.next hb)
  have E5 := Lib.hid (E4.out.next hb)
  have F5 := Lib.hid (F4.out.next hb)
  have T5 := Lib.hid (T4.out.next hb)
  clear hb B4 X4 I4 A4 E4 F4 T4
  go_wp2_with fail
  refine (Q1.out _ T5.out).mono ?_
  rintro e w6 ⟨rfl, hb⟩
  have B6 := Lib.hid (B5.out.trans (hb.mono B5.out.size))
  have X6 := Lib.hid (X5.out.next hb)
  have I6 := Lib.hid (I5.out.next hb)
  have A6 := Lib.hid (A5.out.next hb)
  have E6 := Lib.hid (E5.out.next hb)
  have F6 := Lib.hid (F5.out.next hb)
  have T6 := Lib.hid (T5.out.next hb)
  clear hb B5 X5 I5 A5 E5 F5 T5
  go_wp2_with fail
  refine (Q2.out _ T6.out).mono ?_
  rintro e w7 ⟨rfl, hb⟩
  have B7 := Lib.hid (B6.out.trans (hb.mono B6.out.size))
  have X7 := Lib.hid (X6.out.next hb)
  have I7 := Lib.hid (I6.out.next hb)
  have A7 := Lib.hid (A6.out.next hb)
  have E7 := Lib.hid (E6.out.next hb)
  have F7 := Lib.hid (F6.out.next hb)
  have T7 := Lib.hid (T6.out.next hb)
  clear hb B6 X6 I6 A6 E6 F6 T6
  clear F7
  clear T7
  obtain ⟨xv0, xv1, xv2⟩ := X7.out.now.tre
  go_wp2_with fail
  refine (DS.out _ A7.out I7.out.2.1).mono ?_
  rintro e w8 ⟨v, rfl, ho, hb⟩
  clear xv0 xv1 xv2
  have B8 := Lib.hid (B7.out.trans (hb.mono B7.out.size))
  have X8 := Lib.hid (X7.out.next hb)
  have I8 := Lib.hid (I7.out.next hb)
  have A8 := Lib.hid (A7.out.next hb)
  have E8 := Lib.hid (E7.out.next hb)
  clear hb B7 X7 I7 A7 E7
  obtain ⟨xs, cs, rfl, is⟩ := ho.is (fun r hr t ht => by have := HSM.out r hr t ht; unfold maxLen; omega)
  obtain ⟨ns, hns⟩ : ∃ n, S.length = n := ⟨_, rfl⟩
  rw [hns] at is ⊢
  have HNs := Lib.hid hns
  have W8 := Lib.hid is
  clear ho is hns
  have hnr300 : nr ≤ 300 := by rw [← HNr.out]; exact HRL.out
  have hns300 : ns ≤ 300 := by rw [← HNs.out, ← HSS.out]; exact solR_len
  go_wp2_with fail
  go_loopw [12] (fun i wr => ∃ k : Nat, k ≤ nr ∧ i = .int .i64 k ∧ Hid (Below w8.heap.size w8 wr)) (fun i _ => nr - (intOf i).toNat)
  case atStart => exact ⟨0, Nat.zero_le _, rfl, Lib.hid (Below.refl _ _)⟩
  case round =>
    obtain ⟨k, hk, rfl, DW⟩ := hrel
    have hk6 : (0 : Int) ≤ (k : Int) := by omega
    by_cases hlt : k < nr
    · have hk7 : (k : Int) < (nr : Int) := by omega
      have hk8 : k + 1 ≤ nr := hlt
      obtain ⟨rb, ro, rfl, hrb, _, _, hrl, hrc⟩ := E8.out.cells (by omega)
      have hrk : R[k]? = some (R[k]'(by omega)) := List.getElem?_eq_getElem (by omega)
      obtain ⟨ra, rn, rc, d0, hp⟩ := hrc k _ hrk
      have hmr : R[k]'(by omega) ∈ R := List.getElem_mem _
      generalize R[k]'(by omega) = r at hrk d0 hp hmr
      have HP := Lib.hid hp
      have HD0 := Lib.hid d0
      have HPA := Lib.hid (HPART.out r hmr)
      have HVA := Lib.hid (HVAR.out r hmr)
      have HRr := Lib.hid (HRS.out r hmr)
      have HRn := Lib.hid hp.len
      have hrn : rn ≤ 1048576 := by have := HRW.out r hmr; have := hp.len; omega
      clear hrl hrc hrk hp hmr d0
      go_wp2_with fail
      go_loopw [13, 14] (fun pt j wr => ∃ q : Nat, q ≤ ns ∧ j = .int .i64 q ∧ pt = .bool (anyM (S.take q) r) ∧ Hid (Below w8.heap.size w8 wr)) (fun _ j _ => ns - (intOf j).toNat)
      case atStart => exact ⟨0, Nat.zero_le _, rfl, rfl, DW⟩
      case round =>
        obtain ⟨q, hq, rfl, rfl, DQ⟩ := hrel
        clear DW
        have hq6 : (0 : Int) ≤ (q : Int) := by omega
        by_cases hql : q < ns
        · have hq7 : (q : Int) < (ns : Int) := by omega
          have hq8 : q + 1 ≤ ns := hql
          obtain ⟨sb, so, rfl, hsb, _, _, hsl, hsc⟩ := W8.out.cells (by omega)
          have hsk : S[q]? = some (S[q]'(by omega)) := List.getElem?_eq_getElem (by omega)
          obtain ⟨sa, sn9, sc9, e0, hps⟩ := hsc q _ hsk
          have hms : S[q]'(by omega) ∈ S := List.getElem_mem _
          generalize S[q]'(by omega) = s at hsk e0 hps hms
          have HST := Lib.hid (anyM_step (r := r) hsk)
          have CM := Lib.hid (fun (W : World) (hb : Below w8.heap.size w8 W) => implMerged sa ra sn9 sc9 rn rc s r W (hps.next hb) (HP.out.next hb) (HSM.out s hms) HRr.out)
          have DQd := Lib.hid DQ.out.drew
          have D3 : Hid (wr.drew.cell? ⟨sb, so + q, none⟩ = some (.slice sa sn9 sc9) ∧ wr.drew.cell? ⟨rb, ro + k, none⟩ = some (.slice ra rn rc)) := Lib.hid ⟨(DQ.out.cell (World.block_lt_of_cell? _ _ e0)).trans e0, (DQ.out.cell (World.block_lt_of_cell? _ _ HD0.out)).trans HD0.out⟩
          clear hsl hsc hsk hps hms e0
          cases hpt : anyM (S.take q) r
          · rw [hpt] at HST
            clear hpt
            go_wp2_with fail
            refine wp_region_held_drew (S := (fun w' => w'.cell? ⟨sb, so + q, none⟩ = some (.slice sa sn9 sc9) ∧ w'.cell? ⟨rb, ro + k, none⟩ = some (.slice ra rn rc))) (by kernel_rfl) ?_ (fun hHeld => ?_)
            · exact D3.out
            refine wpAnyH_take (i := 0) (v := ?_) rfl (by kernel_rfl) (by kernel_rfl) (by kernel_rfl) (fun _ _ _ h => h) (Or.inl ⟨by kernel_rfl, ?_⟩) (by assumption) ?_
            rotate_left
            · intro w hSw; (try dsimp only at hSw); go_simp; try with_reducible rfl
            refine wpAnyH_take (i := 1) (v := ?_) rfl (by kernel_rfl) (by kernel_rfl) (by kernel_rfl) (fun _ _ _ h => h) (Or.inl ⟨by kernel_rfl, ?_⟩) (by assumption) ?_
            rotate_left
            · intro w hSw; (try dsimp only at hSw); go_simp; try with_reducible rfl
            refine wpAnyH_take (i := 2) (v := ?_) rfl (by kernel_rfl) (by kernel_rfl) (by kernel_rfl) (fun _ _ _ h => h) (Or.inl ⟨by kernel_rfl, ?_⟩) (by assumption) ?_
            rotate_left
            · intro w hSw; (try dsimp only at hSw); go_simp; try with_reducible rfl
            refine wpAnyH_take (i := 3) (v := ?_) rfl (by kernel_rfl) (by kernel_rfl) (by kernel_rfl) (fun _ _ _ h => h) (Or.inl ⟨by kernel_rfl, ?_⟩) (by assumption) ?_
            rotate_left
            · intro w hSw; (try dsimp only at hSw); go_simp; try with_reducible rfl
            refine wpAnyH_take (i := 4) (v := ?_) rfl (by kernel_rfl) (by kernel_rfl) (by kernel_rfl) (fun _ _ _ h => h) (Or.inl ⟨by kernel_rfl, ?_⟩) (by assumption) ?_
            rotate_left
            · intro w hSw; (try dsimp only at hSw); go_simp; try with_reducible rfl
            refine wpAnyH_take (i := 5) (v := ?_) rfl (by kernel_rfl) (by kernel_rfl) (by kernel_rfl) (fun _ _ _ h => h) (Or.inl ⟨by kernel_rfl, ?_⟩) (by assumption) ?_
            rotate_left
            · intro w hSw; (try dsimp only at hSw); go_simp; try with_reducible rfl
            refine wpAnyH_take (i := 6) (v := ?_) rfl (by kernel_rfl) (by kernel_rfl) (by kernel_rfl) (fun _ _ _ h => h) (Or.inl ⟨by kernel_rfl, ?_⟩) (by assumption) ?_
            rotate_left
            · intro w hSw; (try dsimp only at hSw); go_simp; try with_reducible rfl
            refine wpAnyH_take (i := 7) (v := ?_) rfl (by kernel_rfl) (by kernel_rfl) (by kernel_rfl) (fun _ _ _ h => h) (Or.inl ⟨by kernel_rfl, ?_⟩) (by assumption) ?_
            rotate_left
            · intro w hSw; (try dsimp only at hSw); go_simp; try with_reducible rfl
            refine wpAnyH_ready (rs := [8]) (by kernel_rfl) (by simp) ?_
            refine AllReadyH.cons rfl (fun K hK => ?_) AllReadyH.nil
            go_simp
            refine (CM.out _ DQd.out).mono ?_
            rintro e wm (⟨v, h, rfl, hm, _, hb⟩ | ⟨rfl, hm, hb⟩)
            · have DM := Lib.hid (DQd.out.trans (hb.mono DQd.out.size))
              have D4 : Hid (wm.cell? ⟨sb, so + q, none⟩ = some (.slice sa sn9 sc9) ∧ wm.cell? ⟨rb, ro + k, none⟩ = some (.slice ra rn rc)) := Lib.hid ⟨(hb.cell (World.block_lt_of_cell? _ _ D3.out.1)).trans D3.out.1, (hb.cell (World.block_lt_of_cell? _ _ D3.out.2)).trans D3.out.2⟩
              rw [hm] at HST
              clear hb hm
              go_wp2_with fail
              clear hHeld
              refine hK.out _ _ ?_ (fun hHeld => ?_)
              · exact D4.out
              clear hK K
              refine wpAnyH_take (i := 9) (v := ?_) rfl (by kernel_rfl) (by kernel_rfl) (by kernel_rfl) (fun _ _ _ h => h) (Or.inl ⟨by kernel_rfl, ?_⟩) (by assumption) ?_
              rotate_left
              · intro w hSw; (try dsimp only at hSw); go_simp; try with_reducible rfl
              refine wpAnyH_take (i := 10) (v := ?_) rfl (by kernel_rfl) (by kernel_rfl) (by kernel_rfl) (fun _ _ _ h => h) (Or.inl ⟨by kernel_rfl, ?_⟩) (by assumption) ?_
              rotate_left
              · intro w hSw; (try dsimp only at hSw); go_simp; try with_reducible rfl
              refine wpAnyH_take (i := 11) (v := ?_) rfl (by kernel_rfl) (by kernel_rfl) (by kernel_rfl) (fun _ _ _ h => h) (Or.inl ⟨by kernel_rfl, ?_⟩) (by assumption) ?_
              rotate_left
              · intro w hSw; (try dsimp only at hSw); go_simp; try with_reducible rfl
              refine wpAnyH_take (i := 12) (v := ?_) rfl (by kernel_rfl) (by kernel_rfl) (by kernel_rfl) (fun _ _ _ h => h) (Or.inl ⟨by kernel_rfl, ?_⟩) (by assumption) ?_
              rotate_left
              · intro w hSw; (try dsimp only at hSw); go_simp; try with_reducible rfl
              refine wpAnyH_take (i := 13) (v := ?_) rfl (by kernel_rfl) (by kernel_rfl) (by kernel_rfl) (fun _ _ _ h => h) (Or.inl ⟨by kernel_rfl, ?_⟩) (by assumption) ?_
              rotate_left
              · intro w hSw; (try dsimp only at hSw); go_simp; try with_reducible rfl
              refine wpAnyH_done (by kernel_rfl) ?_ _
              try simp only [Act.put, List.setIfInBounds_toArray, List.set_cons_zero, List.set_cons_succ, List.getElem_toArray, List.getElem_cons_zero, List.getElem_cons_succ]
              clear hHeld
              go_wp2_with fail
              go_roundw
              case rel => exact ⟨q + 1, hq8, by go_num, by rw [HST.out]; rfl, DM⟩
              case measure => simp [intOf]; omega
            · have DM := Lib.hid (DQd.out.trans (hb.mono DQd.out.size))
              have D4 : Hid (wm.cell? ⟨sb, so + q, none⟩ = some (.slice sa sn9 sc9) ∧ wm.cell? ⟨rb, ro + k, none⟩ = some (.slice ra rn rc)) := Lib.hid ⟨(hb.cell (World.block_lt_of_cell? _ _ D3.out.1)).trans D3.out.1, (hb.cell (World.block_lt_of_cell? _ _ D3.out.2)).trans D3.out.2⟩
              rw [hm] at HST
              clear hb hm
              go_wp2_with fail
              clear hHeld
              refine hK.out _ _ ?_ (fun hHeld => ?_)
              · exact D4.out
              clear hK K
              refine wpAnyH_take (i := 9) (v := ?_) rfl (by kernel_rfl) (by kernel_rfl) (by kernel_rfl) (fun _ _ _ h => h) (Or.inl ⟨by kernel_rfl, ?_⟩) (by assumption) ?_
              rotate_left
              · intro w hSw; (try dsimp only at hSw); go_simp; try with_reducible rfl
              refine wpAnyH_take (i := 10) (v := ?_) rfl (by kernel_rfl) (by kernel_rfl) (by kernel_rfl) (fun _ _ _ h => h) (Or.inl ⟨by kernel_rfl, ?_⟩) (by assumption) ?_
              rotate_left
              · intro w hSw; (try dsimp only at hSw); go_simp; try with_reducible rfl
              refine wpAnyH_take (i := 11) (v := ?_) rfl (by kernel_rfl) (by kernel_rfl) (by kernel_rfl) (fun _ _ _ h => h) (Or.inl ⟨by kernel_rfl, ?_⟩) (by assumption) ?_
              rotate_left
              · intro w hSw; (try dsimp only at hSw); go_simp; try with_reducible rfl
              refine wpAnyH_take (i := 12) (v := ?_) rfl (by kernel_rfl) (by kernel_rfl) (by kernel_rfl) (fun _ _ _ h => h) (Or.inl ⟨by kernel_rfl, ?_⟩) (by assumption) ?_
              rotate_left
              · intro w hSw; (try dsimp only at hSw); go_simp; try with_reducible rfl
              refine wpAnyH_take (i := 13) (v := ?_) rfl (by kernel_rfl) (by kernel_rfl) (by kernel_rfl) (fun _ _ _ h => h) (Or.inl ⟨by kernel_rfl, ?_⟩) (by assumption) ?_
              rotate_left
              · intro w hSw; (try dsimp only at hSw); go_simp; try with_reducible rfl
              refine wpAnyH_done (by kernel_rfl) ?_ _
              try simp only [Act.put, List.setIfInBounds_toArray, List.set_cons_zero, List.set_cons_succ, List.getElem_toArray, List.getElem_cons_zero, List.getElem_cons_succ]
              clear hHeld
              go_wp2_with fail
              go_roundw
              case rel => exact ⟨q + 1, hq8, by go_num, by rw [HST.out]; rfl, DM⟩
              case measure => simp [intOf]; omega
          · rw [hpt] at HST
            clear hpt
            go_wp2_with fail
            refine wp_region_held_drew (S := (fun w' => w'.cell? ⟨sb, so + q, none⟩ = some (.slice sa sn9 sc9) ∧ w'.cell? ⟨rb, ro + k, none⟩ = some (.slice ra rn rc))) (by kernel_rfl) ?_ (fun hHeld => ?_)
            · exact D3.out
            refine wpAnyH_take (i := 0) (v := ?_) rfl (by kernel_rfl) (by kernel_rfl) (by kernel_rfl) (fun _ _ _ h => h) (Or.inl ⟨by kernel_rfl, ?_⟩) (by assumption) ?_
            rotate_left
            · intro w hSw; (try dsimp only at hSw); go_simp; try with_reducible rfl
            refine wpAnyH_take (i := 1) (v := ?_) rfl (by kernel_rfl) (by kernel_rfl) (by kernel_rfl) (fun _ _ _ h => h) (Or.inl ⟨by kernel_rfl, ?_⟩) (by assumption) ?_
            rotate_left
            · intro w hSw; (try dsimp only at hSw); go_simp; try with_reducible rfl
            refine wpAnyH_take (i := 2) (v := ?_) rfl (by kernel_rfl) (by kernel_rfl) (by kernel_rfl) (fun _ _ _ h => h) (Or.inl ⟨by kernel_rfl, ?_⟩) (by assumption) ?_
            rotate_left
            · intro w hSw; (try dsimp only at hSw); go_simp; try with_reducible rfl
            refine wpAnyH_take (i := 3) (v := ?_) rfl (by kernel_rfl) (by kernel_rfl) (by kernel_rfl) (fun _ _ _ h => h) (Or.inl ⟨by kernel_rfl, ?_⟩) (by assumption) ?_
            rotate_left
            · intro w hSw; (try dsimp only at hSw); go_simp; try with_reducible rfl
            refine wpAnyH_take (i := 4) (v := ?_) rfl (by kernel_rfl) (by kernel_rfl) (by kernel_rfl) (fun _ _ _ h => h) (Or.inl ⟨by kernel_rfl, ?_⟩) (by assumption) ?_
            rotate_left
            · intro w hSw; (try dsimp only at hSw); go_simp; try with_reducible rfl
            refine wpAnyH_take (i := 5) (v := ?_) rfl (by kernel_rfl) (by kernel_rfl) (by kernel_rfl) (fun _ _ _ h => h) (Or.inl ⟨by kernel_rfl, ?_⟩) (by assumption) ?_
            rotate_left
            · intro w hSw; (try dsimp only at hSw); go_simp; try with_reducible rfl
            refine wpAnyH_take (i := 6) (v := ?_) rfl (by kernel_rfl) (by kernel_rfl) (by kernel_rfl) (fun _ _ _ h => h) (Or.inl ⟨by kernel_rfl, ?_⟩) (by assumption) ?_
            rotate_left
            · intro w hSw; (try dsimp only at hSw); go_simp; try with_reducible rfl
            refine wpAnyH_take (i := 7) (v := ?_) rfl (by kernel_rfl) (by kernel_rfl) (by kernel_rfl) (fun _ _ _ h => h) (Or.inl ⟨by kernel_rfl, ?_⟩) (by assumption) ?_
            rotate_left
            · intro w hSw; (try dsimp only at hSw); go_simp; try with_reducible rfl
            refine wpAnyH_ready (rs := [8]) (by kernel_rfl) (by simp) ?_
            refine AllReadyH.cons rfl (fun K hK => ?_) AllReadyH.nil
            go_simp
            refine (CM.out _ DQd.out).mono ?_
            rintro e wm (⟨v, h, rfl, hm, _, hb⟩ | ⟨rfl, hm, hb⟩)
            · have DM := Lib.hid (DQd.out.trans (hb.mono DQd.out.size))
              have D4 : Hid (wm.cell? ⟨sb, so + q, none⟩ = some (.slice sa sn9 sc9) ∧ wm.cell? ⟨rb, ro + k, none⟩ = some (.slice ra rn rc)) := Lib.hid ⟨(hb.cell (World.block_lt_of_cell? _ _ D3.out.1)).trans D3.out.1, (hb.cell (World.block_lt_of_cell? _ _ D3.out.2)).trans D3.out.2⟩
              rw [hm] at HST
              clear hb hm
              go_wp2_with fail
              clear hHeld
              refine hK.out _ _ ?_ (fun hHeld => ?_)
              · exact D4.out
              clear hK K
              refine wpAnyH_take (i := 9) (v := ?_) rfl (by kernel_rfl) (by kernel_rfl) (by kernel_rfl) (fun _ _ _ h => h) (Or.inl ⟨by kernel_rfl, ?_⟩) (by assumption) ?_
              rotate_left
              · intro w hSw; (try dsimp only at hSw); go_simp; try with_reducible rfl
              refine wpAnyH_take (i := 10) (v := ?_) rfl (by kernel_rfl) (by kernel_rfl) (by kernel_rfl) (fun _ _ _ h => h) (Or.inl ⟨by kernel_rfl, ?_⟩) (by assumption) ?_
              rotate_left
              · intro w hSw; (try dsimp only at hSw); go_simp; try with_reducible rfl
              refine wpAnyH_take (i := 11) (v := ?_) rfl (by kernel_rfl) (by kernel_rfl) (by kernel_rfl) (fun _ _ _ h => h) (Or.inl ⟨by kernel_rfl, ?_⟩) (by assumption) ?_
              rotate_left
              · intro w hSw; (try dsimp only at hSw); go_simp; try with_reducible rfl
              refine wpAnyH_take (i := 12) (v := ?_) rfl (by kernel_rfl) (by kernel_rfl) (by kernel_rfl) (fun _ _ _ h => h) (Or.inl ⟨by kernel_rfl, ?_⟩) (by assumption) ?_
              rotate_left
              · intro w hSw; (try dsimp only at hSw); go_simp; try with_reducible rfl
              refine wpAnyH_take (i := 13) (v := ?_) rfl (by kernel_rfl) (by kernel_rfl) (by kernel_rfl) (fun _ _ _ h => h) (Or.inl ⟨by kernel_rfl, ?_⟩) (by assumption) ?_
              rotate_left
              · intro w hSw; (try dsimp only at hSw); go_simp; try with_reducible rfl
              refine wpAnyH_done (by kernel_rfl) ?_ _
              try simp only [Act.put, List.setIfInBounds_toArray, List.set_cons_zero, List.set_cons_succ, List.getElem_toArray, List.getElem_cons_zero, List.getElem_cons_succ]
              clear hHeld
              go_wp2_with fail
              go_roundw
              case rel => exact ⟨q + 1, hq8, by go_num, by rw [HST.out]; rfl, DM⟩
              case measure => simp [intOf]; omega
            · have DM := Lib.hid (DQd.out.trans (hb.mono DQd.out.size))
              have D4 : Hid (wm.cell? ⟨sb, so + q, none⟩ = some (.slice sa sn9 sc9) ∧ wm.cell? ⟨rb, ro + k, none⟩ = some (.slice ra rn rc)) := Lib.hid ⟨(hb.cell (World.block_lt_of_cell? _ _ D3.out.1)).trans D3.out.1, (hb.cell (World.block_lt_of_cell? _ _ D3.out.2)).trans D3.out.2⟩
              rw [hm] at HST
              clear hb hm
              go_wp2_with fail
              clear hHeld
              refine hK.out _ _ ?_ (fun hHeld => ?_)
              · exact D4.out
              clear hK K
              refine wpAnyH_take (i := 9) (v := ?_) rfl (by kernel_rfl) (by kernel_rfl) (by kernel_rfl) (fun _ _ _ h => h) (Or.inl ⟨by kernel_rfl, ?_⟩) (by assumption) ?_
              rotate_left
              · intro w hSw; (try dsimp only at hSw); go_simp; try with_reducible rfl
              refine wpAnyH_take (i := 10) (v := ?_) rfl (by kernel_rfl) (by kernel_rfl) (by kernel_rfl) (fun _ _ _ h => h) (Or.inl ⟨by kernel_rfl, ?_⟩) (by assumption) ?_
              rotate_left
              · intro w hSw; (try dsimp only at hSw); go_simp; try with_reducible rfl
              refine wpAnyH_take (i := 11) (v := ?_) rfl (by kernel_rfl) (by kernel_rfl) (by kernel_rfl) (fun _ _ _ h => h) (Or.inl ⟨by kernel_rfl, ?_⟩) (by assumption) ?_
              rotate_left
              · intro w hSw; (try dsimp only at hSw); go_simp; try with_reducible rfl
              refine wpAnyH_take (i := 12) (v := ?_) rfl (by kernel_rfl) (by kernel_rfl) (by kernel_rfl) (fun _ _ _ h => h) (Or.inl ⟨by kernel_rfl, ?_⟩) (by assumption) ?_
              rotate_left
              · intro w hSw; (try dsimp only at hSw); go_simp; try with_reducible rfl
              refine wpAnyH_take (i := 13) (v := ?_) rfl (by kernel_rfl) (by kernel_rfl) (by kernel_rfl) (fun _ _ _ h => h) (Or.inl ⟨by kernel_rfl, ?_⟩) (by assumption) ?_
              rotate_left
              · intro w hSw; (try dsimp only at hSw); go_simp; try with_reducible rfl
              refine wpAnyH_done (by kernel_rfl) ?_ _
              try simp only [Act.put, List.setIfInBounds_toArray, List.set_cons_zero, List.set_cons_succ, List.getElem_toArray, List.getElem_cons_zero, List.getElem_cons_succ]
              clear hHeld
              go_wp2_with fail
              go_roundw
              case rel => exact ⟨q + 1, hq8, by go_num, by rw [HST.out]; rfl, DM⟩
              case measure => simp [intOf]; omega
        · obtain rfl : q = ns := by omega
          have HF : Hid (S.take q = S) := Lib.hid (List.take_of_length_le (by rw [HNs.out]; exact Nat.le_refl _))
          rw [HF.out, HPA.out]
          go_wp2_with fail
          go_loopw [17] (fun j wr => ∃ p : Nat, p ≤ rn ∧ j = .int .i64 p ∧ Hid (Below w8.heap.size w8 wr)) (fun j _ => rn - (intOf j).toNat)
          case atStart => exact ⟨0, Nat.zero_le _, rfl, DQ⟩
          case round =>
            obtain ⟨p, hp, rfl, DV⟩ := hrel
            clear DQ
            have hp6 : (0 : Int) ≤ (p : Int) := by omega
            have d1 := (DV.out.cell (World.block_lt_of_cell? _ _ HD0.out)).trans HD0.out
            by_cases hpl : p < rn
            · have hp7 : (p : Int) < (rn : Int) := by omega
              obtain ⟨pb, po, rfl, hpb, _, _, hpl9, hpc⟩ := (HP.out.next DV.out).cells (by omega)
              have hpk : r[p]? = some (r[p]'(by omega)) := List.getElem?_eq_getElem (by omega)
              obtain ⟨e0, _, m0, _⟩ := hpc p _ hpk
              have hmp : r[p]'(by omega) ∈ r := List.getElem_mem _
              have hhb := HVA.out _ hmp
              generalize r[p]'(by omega) = t at hpk e0 hmp hhb m0
              have HX0 := fun (W : World) (hi : IsStrs W a0 n0 c0 vs) => lawHasTx a0 n0 c0 vs t.1 W hi (by omega)
              simp only [hhb] at HX0
              have HX := Lib.hid HX0
              have IW := Lib.hid ((I8.out.next DV.out).next (Below.refl wr.heap.size wr).drew)
              have D3 : Hid ((wr.drew.cell? ⟨w0.heap.size, 0, none⟩ = some (.slice a0 n0 c0) ∧ wr.drew.cell? ⟨w0.heap.size, 1, none⟩ = some (.slice a1 n1 c1) ∧ wr.drew.cell? ⟨w0.heap.size, 2, none⟩ = some (.slice a2 n2 c2)) ∧ wr.drew.cell? ⟨rb, ro + k, none⟩ = some (.slice (some ⟨pb, po, none⟩) rn rc) ∧ wr.drew.cell? ⟨pb, po + p * 2, none⟩ = some (.string t.1)) := Lib.hid ⟨(X8.out.next DV.out).now.tre, d1, e0⟩
              clear hpc hpk hmp hhb HX0 m0
              generalize t.1 = xv at HX D3 e0
              go_wp2_with fail
              clear d1 e0
              refine wp_region_held_drew (S := (fun w' => (w'.cell? ⟨w0.heap.size, 0, none⟩ = some (.slice a0 n0 c0) ∧ w'.cell? ⟨w0.heap.size, 1, none⟩ = some (.slice a1 n1 c1) ∧ w'.cell? ⟨w0.heap.size, 2, none⟩ = some (.slice a2 n2 c2)) ∧ w'.cell? ⟨rb, ro + k, none⟩ = some (.slice (some ⟨pb, po, none⟩) rn rc) ∧ w'.cell? ⟨pb, po + p * 2, none⟩ = some (.string xv))) (by kernel_rfl) ?_ (fun hHeld => ?_)
              · exact D3.out
              refine wpAnyH_take (i := 0) (v := ?_) rfl (by kernel_rfl) (by kernel_rfl) (by kernel_rfl) (fun _ _ _ h => h) (Or.inl ⟨by kernel_rfl, ?_⟩) (by assumption) ?_
              rotate_left
              · intro w hSw; (try dsimp only at hSw); go_simp; try with_reducible rfl
              refine wpAnyH_take (i := 1) (v := ?_) rfl (by kernel_rfl) (by kernel_rfl) (by kernel_rfl) (fun _ _ _ h => h) (Or.inl ⟨by kernel_rfl, ?_⟩) (by assumption) ?_
              rotate_left
              · intro w hSw; (try dsimp only at hSw); go_simp; try with_reducible rfl
              refine wpAnyH_take (i := 2) (v := ?_) rfl (by kernel_rfl) (by kernel_rfl) (by kernel_rfl) (fun _ _ _ h => h) (Or.inl ⟨by kernel_rfl, ?_⟩) (by assumption) ?_
              rotate_left
              · intro w hSw; (try dsimp only at hSw); go_simp; try with_reducible rfl
              refine wpAnyH_take (i := 3) (v := ?_) rfl (by kernel_rfl) (by kernel_rfl) (by kernel_rfl) (fun _ _ _ h => h) (Or.inl ⟨by kernel_rfl, ?_⟩) (by assumption) ?_
              rotate_left
              · intro w hSw; (try dsimp only at hSw); go_simp; try with_reducible rfl
              refine wpAnyH_take (i := 4) (v := ?_) rfl (by kernel_rfl) (by kernel_rfl) (by kernel_rfl) (fun _ _ _ h => h) (Or.inl ⟨by kernel_rfl, ?_⟩) (by assumption) ?_
              rotate_left
              · intro w hSw; (try dsimp only at hSw); go_simp; try with_reducible rfl
              refine wpAnyH_take (i := 5) (v := ?_) rfl (by kernel_rfl) (by kernel_rfl) (by kernel_rfl) (fun _ _ _ h => h) (Or.inl ⟨by kernel_rfl, ?_⟩) (by assumption) ?_
              rotate_left
              · intro w hSw; (try dsimp only at hSw); go_simp; try with_reducible rfl
              refine wpAnyH_take (i := 6) (v := ?_) rfl (by kernel_rfl) (by kernel_rfl) (by kernel_rfl) (fun _ _ _ h => h) (Or.inl ⟨by kernel_rfl, ?_⟩) (by assumption) ?_
              rotate_left
              · intro w hSw; (try dsimp only at hSw); go_simp; try with_reducible rfl
              refine wpAnyH_take (i := 7) (v := ?_) rfl (by kernel_rfl) (by kernel_rfl) (by kernel_rfl) (fun _ _ _ h => h) (Or.inl ⟨by kernel_rfl, ?_⟩) (by assumption) ?_
              rotate_left
              · intro w hSw; (try dsimp only at hSw); go_simp; try with_reducible rfl
              refine wpAnyH_take (i := 8) (v := ?_) rfl (by kernel_rfl) (by kernel_rfl) (by kernel_rfl) (fun _ _ _ h => h) (Or.inl ⟨by kernel_rfl, ?_⟩) (by assumption) ?_
              rotate_left
              · intro w hSw; (try dsimp only at hSw); go_simp; try with_reducible rfl
              refine wpAnyH_take (i := 9) (v := ?_) rfl (by kernel_rfl) (by kernel_rfl) (by kernel_rfl) (fun _ _ _ h => h) (Or.inl ⟨by kernel_rfl, ?_⟩) (by assumption) ?_
              rotate_left
              · intro w hSw; (try dsimp only at hSw); go_simp; try with_reducible rfl
              refine wpAnyH_ready (rs := [10]) (by kernel_rfl) (by simp) ?_
              refine AllReadyH.cons rfl (fun K hK => ?_) AllReadyH.nil
              go_simp
              refine (HX.out _ IW.out.1.1).mono ?_
              rintro e wy ⟨rfl, hwy⟩
              subst hwy
              go_wp2_with fail
              clear hHeld
              refine hK.out _ _ ?_ (fun hHeld => ?_)
              · exact D3.out
              clear hK K
              refine wpAnyH_take (i := 11) (v := ?_) rfl (by kernel_rfl) (by kernel_rfl) (by kernel_rfl) (fun _ _ _ h => h) (Or.inl ⟨by kernel_rfl, ?_⟩) (by assumption) ?_
              rotate_left
              · intro w hSw; (try dsimp only at hSw); go_simp; try with_reducible rfl
              refine wpAnyH_done (by kernel_rfl) ?_ _
              try simp only [Act.put, List.setIfInBounds_toArray, List.set_cons_zero, List.set_cons_succ, List.getElem_toArray, List.getElem_cons_zero, List.getElem_cons_succ]
              clear hHeld
              go_wp2_with fail
              go_roundw
              case rel => exact ⟨p + 1, by omega, by go_num, Lib.hid DV.out.drew⟩
              case measure => simp [intOf]; omega
            · go_wp2_with fail
              go_roundw
              case rel => exact ⟨k + 1, hk8, by go_num, DV⟩
              case measure => simp [intOf]; omega
    · have BZ := Lib.hid (B8.out.trans (DW.out.mono B8.out.size))
      have hz := HNIL.out
      rw [HNs.out, HNr.out] at hz
      clear B8 X8 I8 A8 E8 W8
      clear DW
      by_cases h0 : ns = 0
      · have h1 := hz.1 h0
        clear hz HNs HNr
        subst h0
        subst h1
        go_wp2_with fail
        go_ret
        exact ⟨rfl, BZ.out⟩
      · have h1 : ¬ nr = 0 := fun h => h0 (hz.2 h)
        clear hz
        have e0 : ((ns : Int) == 0) = false := by rw [beq_eq_false_iff_ne]; omega
        have e1 : ((nr : Int) == 0) = false := by rw [beq_eq_false_iff_ne]; omega
        clear h0 h1
        go_wp2_with fail
        go_ret
        exact ⟨rfl, BZ.out⟩
end fnAnswers
end Go.Proofs.YtiajdnhmjdfeeaaGreat
