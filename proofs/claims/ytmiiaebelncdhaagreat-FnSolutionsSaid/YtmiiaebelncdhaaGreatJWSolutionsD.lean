/- The walk of FnSolutions. -/
import Derived.Test.YtmiiaebelncdhaaGreatG00
import Derived.Test.YtmiiaebelncdhaaGreatG34
import Derived.Test.YtmiiaebelncdhaaGreatG36
import Derived.Test.YtmiiaebelncdhaaGreatG28
import Derived.Test.YtmiiaebelncdhaaGreatG18
import Derived.Test.YtmiiaebelncdhaaGreatG26
import Derived.Test.YtmiiaebelncdhaaGreatG15
namespace Go.Proofs.YtmiiaebelncdhaaGreat
open Go.RowKit Go.WideShapes
namespace fnSolutions
theorem got_sl {w : World} {v : Value} {ts : List Tri3} (h : GotG w v ts) : ∃ a n c, v = .slice a n c ∧ IsTris w a n c ts ∧ SmG ts := by
  obtain ⟨x, c, hv, hi, hp, hs⟩ := h
  exact ⟨x, _, c, hv, hi, hs⟩
theorem smP_max {rs : List RowV} (h : ∀ r ∈ rs, SmP r) : ∀ r ∈ rs, ∀ t ∈ r, t.1.size ≤ maxLen ∧ t.2.size ≤ maxLen := fun r hr t ht => by
  have := h r hr t ht
  unfold maxLen
  omega
theorem rows_le {gs ls : List Tri3} (hl : ls.length ≤ 3) : ∀ r ∈ solR gs ls, r.length ≤ 12 := by
  cases h : solOk gs ls
  · intro r hr
    rw [solR_none h] at hr
    simp at hr
  · intro r hr
    exact rowOk_most ((solR_row h r hr).ok (by omega))
/-- The names of a row are the variables, place by place. -/
theorem name_at {gs ls : List Tri3} {r : RowV} (h : RowOf gs ls r) (hl : bgpOk ls = true) {k : Nat} {t : Pre2} (ht : r[k]? = some t) : ((varsT ls).map bs)[k]? = some t.1 := by
  rw [← h.names_is hl]
  unfold names
  rw [List.map_map, List.getElem?_map, ht]
  simp [bs]
theorem filledYes (a : Option Addr) (len cap : Nat) (ts : List Pre2) (s p o : ByteArray) (w : World) (h : IsPres w a len cap ts) (hsm : SmP ts) (hlen : len ≤ 1048576) (hr : rowOk ts = true) :
    Calls Tryz.prog 22 #[.slice a len cap, .agg #[.string s, .string p, .string o]] w fun e w' => e = .returned (.agg #[.string (seen ts s), .string (seen ts p), .string (seen ts o)]) ∧ Below w.heap.size w w' := by
  have e : filledV ts s p o = .agg #[.string (seen ts s), .string (seen ts p), .string (seen ts o)] := by unfold filledV; rw [hr]
  rw [← e]
  exact implFilled a len cap ts s p o w h hsm hlen
theorem hasYes (a : Option Addr) (len cap : Nat) (ts : List Tri3) (s p o : ByteArray) (w : World) (h : IsTris w a len cap ts) (hl : len ≤ 1048576) (hm : (s, p, o) ∈ ts) :
    Calls Tryz.prog 21 #[.slice a len cap, .agg #[.string s, .string p, .string o]] w fun e w' => e = .returned (.bool true) ∧ Below w.heap.size w w' := by
  have := lawHas a len cap ts s p o w h hl
  rwa [decide_eq_true hm] at this
theorem rowNo (a b : Option Addr) (la ca lb cb : Nat) (ts us : RowV) (w : World) (h : IsPres w a la ca ts) (k : IsPres w b lb cb us) (hl : la ≤ 1048576) (kl : lb ≤ 1048576) (hn : ts ≠ us) :
    Calls Tryz.prog 23 #[.slice a la ca, .slice b lb cb] w fun e w' => e = .returned (.bool false) ∧ Below w.heap.size w w' := by
  have := lawRow a b la ca lb cb ts us w h k hl kl
  rwa [decide_eq_false hn] at this
set_option maxRecDepth 100000 in
set_option maxHeartbeats 12800000 in
theorem walk (a : Option Addr) (len cap : Nat) (zs : List Int) (w : World) (hrow : Frame.IsRow .u8 w a len cap zs) :
    Calls Tryz.prog 3 #[.slice a len cap] w fun e w' => e = .returned (.bool true) ∧ Below w.heap.size w w' := by
  have hlen : len ≤ 9223372036854775807 := by
    rcases hrow with ⟨_, rfl, _⟩ | ⟨y, _, h1, h2, _⟩
    · omega
    · unfold maxLen at h2; omega
  by_cases hbig : (1048576 : Int) < len
  · go_enter Tryz.func3, Tryz.ntmps3
    go_wp2_with go_in
    go_ret
    exact ⟨rfl, Below.refl _ _⟩
  have HROW := Lib.hid hrow
  go_enter Tryz.func3, Tryz.ntmps3
  go_wp2_with (go_at_call 9; go_in)
  refine (drawSolutions _ _ _ _ _ hrow).mono ?_
  rintro e w1 ⟨v, u, gs, ls, rfl, hG, hL, hl3, g1⟩
  have B1 := Lib.hid (below_of_grown g1)
  obtain ⟨xg, ng, cg, rfl, iG, sG⟩ := got_sl hG
  obtain ⟨xl, nl, cl, rfl, iL, sL⟩ := got_sl hL
  have hng : ng ≤ 81 := by have := iG.len; have := sG.1; omega
  have hnl : nl ≤ 3 := by have := iL.len; omega
  have HG1 := Lib.hid iG
  have HL1 := Lib.hid iL
  have HSG := Lib.hid sG
  have HSL := Lib.hid sL
  have HL3 := Lib.hid hl3
  have HSR := Lib.hid (solR_small (gs := gs) (ls := ls) sG.t sL.t)
  have C1 := Lib.hid (fun W (h : Below w1.heap.size w1 W) => implSolutions xg xl ng cg nl cl gs ls W (HG1.out.next h) (HL1.out.next h) HSG.out.t HSL.out.t)
  have C2 := Lib.hid (fun W (h : Below w1.heap.size w1 W) => specSolutions xg xl ng cg nl cl gs ls W (HG1.out.next h) (HL1.out.next h) HSG.out.t HSL.out.t)
  have C3 := Lib.hid (fun W (h : Below w1.heap.size w1 W) => implVarsOf xl nl cl ls W (HL1.out.next h) HSL.out.sm)
  have C4 := Lib.hid (fun W (h : Below w1.heap.size w1 W) => specVarsOf xl nl cl ls W (HL1.out.next h) HSL.out.sm)
  clear g1 hrow hbig hlen iG iL sG sL hG hL hl3
  go_wp2_with fail
  refine (C1.out _ (by first | exact Below.refl _ _ | exact Below.drew (Below.refl _ _))).mono ?_
  rintro e w2 ⟨v, rfl, o2, b2⟩
  obtain ⟨px, pc, rfl, i2⟩ := o2.is (smP_max HSR.out)
  have E2 : Below w1.heap.size w1 w2 := by first | exact b2 | exact (Below.drew (Below.refl _ _)).trans b2
  have HE2 := Lib.hid E2
  have HP2 := Lib.hid i2
  clear b2 o2 i2 C1 E2
  obtain ⟨pn, hpn⟩ : ∃ n, (solR gs ls).length = n := ⟨_, rfl⟩
  rw [hpn] at HP2 ⊢
  have hpn3 : pn ≤ 300 := by rw [← hpn]; exact solR_len
  have HPN := Lib.hid hpn
  clear hpn
  go_wp2_with fail
  refine (C2.out _ (by first | exact HE2.out | exact HE2.out.drew)).mono ?_
  rintro e w3 ⟨qx, qn, qc, rfl, i3, b3⟩
  have b3' : Below w2.heap.size w2 w3 := by first | exact b3 | exact (Below.drew (Below.refl _ _)).trans b3
  have HQ3 := Lib.hid i3
  have HP3 := Lib.hid (HP2.out.next b3')
  have HE3 := Lib.hid (HE2.out.trans (b3'.mono HE2.out.size))
  clear b3 b3' i3 C2 HE2 HP2
  go_wp2_with fail
  refine (C3.out _ (by first | exact HE3.out | exact HE3.out.drew)).mono ?_
  rintro e w4 ⟨v, rfl, o4, b4⟩
  obtain ⟨vx, vc, rfl, i4⟩ := o4.is
  have b4' : Below w3.heap.size w3 w4 := by first | exact b4 | exact (Below.drew (Below.refl _ _)).trans b4
  have HV4 := Lib.hid i4
  have HQ4 := Lib.hid (HQ3.out.next b4')
  have HP4 := Lib.hid (HP3.out.next b4')
  have HE4 := Lib.hid (HE3.out.trans (b4'.mono HE3.out.size))
  clear b4 b4' o4 i4 C3 HE3 HP3 HQ3
  obtain ⟨vn, hvn⟩ : ∃ n, ((varsT ls).map bs).length = n := ⟨_, rfl⟩
  rw [hvn] at HV4 ⊢
  have HVN := Lib.hid hvn
  have hvn9 : vn ≤ 1000 := by
    rw [← hvn, List.length_map]
    have h1 := varWords_len ls
    have h2 := putAllS_len (varWords ls) []
    have h3 := HL3.out
    unfold varsT
    split
    · simp at h2; omega
    · simp
  clear hvn
  have HR4 := Lib.hid (isRow_grown HROW.out (grown_of_below (B1.out.trans (HE4.out.mono B1.out.size))))
  go_wp2_with fail
  refine (drawBgpOk _ _ _ _ _ HR4.out).mono ?_
  rintro e w5 ⟨bx, bn, bc, xs, rfl, i5, s5, g5⟩
  have b5 := below_of_grown g5
  have HX5 := Lib.hid i5
  have HSX := Lib.hid s5
  have HV5 := Lib.hid (HV4.out.next b5)
  have HQ5 := Lib.hid (HQ4.out.next b5)
  have HP5 := Lib.hid (HP4.out.next b5)
  have HE5 := Lib.hid (HE4.out.trans (b5.mono HE4.out.size))
  have HG5 := Lib.hid (HG1.out.next HE5.out)
  have HL5 := Lib.hid (HL1.out.next HE5.out)
  clear i5 s5 b5 g5 HE4 HV4 HQ4 HP4 HR4
  have HLS : Hid (pn ≤ 1048576 ∧ ∀ r ∈ solR gs ls, r.length ≤ 1048576) := Lib.hid ⟨by omega, fun r hr => by have := rows_le HL3.out.2 r hr; omega⟩
  have CS := Lib.hid (fun W (h : Below w5.heap.size w5 W) => lawRowsSame px qx pn pc qn qc _ W (HP5.out.next h) (HQ5.out.next h) HLS.out)
  have CV := Lib.hid (fun W (h : Below w5.heap.size w5 W) => C4.out W (HE5.out.trans (h.mono HE5.out.size)))
  have CT := Lib.hid (fun W x n c (h : Below w5.heap.size w5 W) (k : IsStrs W x n c ((varsT ls).map bs)) => lawTextsSame vx x vn vc n c _ W (HV5.out.next h) k (by omega))
  have KI := Lib.hid (fun W (h : Below w5.heap.size w5 W) => implBgpOk bx bn bc xs W (HX5.out.next h) HSX.out.sm)
  have KS := Lib.hid (fun W (h : Below w5.heap.size w5 W) => specBgpOk bx bn bc xs W (HX5.out.next h) HSX.out.sm)
  have HB5 := Lib.hid (B1.out.trans (HE5.out.mono B1.out.size))
  clear C4 B1 HE5
  generalize bgpOk xs = kb at KI KS
  have hkb : (kb != kb) = false := bne_self_eq_false kb
  have hkb2 : (kb == kb) = true := beq_self_eq_true kb
  cases hok : solOk gs ls
  · clear hok
    go_wp2_with fail
    refine (CS.out _ (by first | exact Below.refl w5.heap.size w5 | exact (Below.refl w5.heap.size w5).drew)).mono ?_
    rintro e w6 ⟨rfl, b6⟩
    have E6 : Hid (Below w5.heap.size w5 w6) := Lib.hid (by first | exact (Below.refl w5.heap.size w5).trans (b6.mono (Below.refl w5.heap.size w5).size) | exact ((Below.refl w5.heap.size w5).drew).trans (b6.mono (Below.refl w5.heap.size w5).size))
    clear b6
    go_wp2_with fail
    refine (CV.out _ (by first | exact E6.out | exact (E6.out).drew)).mono ?_
    rintro e w7 ⟨v, rfl, o7, b7⟩
    obtain ⟨x7, c7, rfl, i7⟩ := o7.is
    rw [HVN.out] at i7 ⊢
    have E7 : Hid (Below w5.heap.size w5 w7) := Lib.hid (by first | exact (E6.out).trans (b7.mono (E6.out).size) | exact ((E6.out).drew).trans (b7.mono (E6.out).size))
    have HS7 := Lib.hid i7
    clear b7 o7 i7 E6
    go_wp2_with fail
    refine (CT.out _ x7 vn c7 (by first | exact E7.out | exact (E7.out).drew) (by first | exact HS7.out | exact HS7.out.next (Below.drew (Below.refl _ _)))).mono ?_
    rintro e w8 ⟨rfl, b8⟩
    have E8 : Hid (Below w5.heap.size w5 w8) := Lib.hid (by first | exact (E7.out).trans (b8.mono (E7.out).size) | exact ((E7.out).drew).trans (b8.mono (E7.out).size))
    clear b8 E7 HS7
    go_wp2_with fail
    refine (KI.out _ (by first | exact E8.out | exact (E8.out).drew)).mono ?_
    rintro e w9 ⟨rfl, b9⟩
    have E9 : Hid (Below w5.heap.size w5 w9) := Lib.hid (by first | exact (E8.out).trans (b9.mono (E8.out).size) | exact ((E8.out).drew).trans (b9.mono (E8.out).size))
    clear b9 E8
    go_wp2_with fail
    refine (KS.out _ (by first | exact E9.out | exact (E9.out).drew)).mono ?_
    rintro e w10 ⟨rfl, b10⟩
    have E10 : Hid (Below w5.heap.size w5 w10) := Lib.hid (by first | exact (E9.out).trans (b10.mono (E9.out).size) | exact ((E9.out).drew).trans (b10.mono (E9.out).size))
    clear b10 E9
    go_wp2_with fail
    refine (CS.out _ (by first | exact E10.out | exact (E10.out).drew)).mono ?_
    rintro e w11 ⟨rfl, b11⟩
    have E11 : Hid (Below w5.heap.size w5 w11) := Lib.hid (by first | exact (E10.out).trans (b11.mono (E10.out).size) | exact ((E10.out).drew).trans (b11.mono (E10.out).size))
    clear b11
    go_wp2_with fail
    refine (CV.out _ (by first | exact E11.out | exact (E11.out).drew)).mono ?_
    rintro e w12 ⟨v, rfl, o12, b12⟩
    obtain ⟨x12, c12, rfl, i12⟩ := o12.is
    rw [HVN.out] at i12 ⊢
    have E12 : Hid (Below w5.heap.size w5 w12) := Lib.hid (by first | exact (E11.out).trans (b12.mono (E11.out).size) | exact ((E11.out).drew).trans (b12.mono (E11.out).size))
    have HS12 := Lib.hid i12
    clear b12 o12 i12 E11
    go_wp2_with fail
    refine (CT.out _ x12 vn c12 (by first | exact E12.out | exact (E12.out).drew) (by first | exact HS12.out | exact HS12.out.next (Below.drew (Below.refl _ _)))).mono ?_
    rintro e w13 ⟨rfl, b13⟩
    have E13 : Hid (Below w5.heap.size w5 w13) := Lib.hid (by first | exact (E12.out).trans (b13.mono (E12.out).size) | exact ((E12.out).drew).trans (b13.mono (E12.out).size))
    clear b13 E12 HS12
    go_wp2_with fail
    refine (KI.out _ (by first | exact E13.out | exact (E13.out).drew)).mono ?_
    rintro e w14 ⟨rfl, b14⟩
    have E14 : Hid (Below w5.heap.size w5 w14) := Lib.hid (by first | exact (E13.out).trans (b14.mono (E13.out).size) | exact ((E13.out).drew).trans (b14.mono (E13.out).size))
    clear b14 E13
    go_wp2_with fail
    refine (KS.out _ (by first | exact E14.out | exact (E14.out).drew)).mono ?_
    rintro e w15 ⟨rfl, b15⟩
    have E15 : Hid (Below w5.heap.size w5 w15) := Lib.hid (by first | exact (E14.out).trans (b15.mono (E14.out).size) | exact ((E14.out).drew).trans (b15.mono (E14.out).size))
    clear b15 E14
    go_wp2_with fail
    go_ret
    exact ⟨rfl, HB5.out.trans (E15.out.mono HB5.out.size)⟩
  · have HOK := Lib.hid hok
    have HRO := Lib.hid (solR_row hok)
    have HND := Lib.hid (solR_nodup hok)
    have HBG : Hid (bgpOk ls = true) := Lib.hid (solR_cases hok).2.1
    clear hok
    go_wp2_with fail
    refine (CS.out _ (by first | exact Below.refl w5.heap.size w5 | exact (Below.refl w5.heap.size w5).drew)).mono ?_
    rintro e w6 ⟨rfl, b6⟩
    have E6 : Hid (Below w5.heap.size w5 w6) := Lib.hid (by first | exact (Below.refl w5.heap.size w5).trans (b6.mono (Below.refl w5.heap.size w5).size) | exact ((Below.refl w5.heap.size w5).drew).trans (b6.mono (Below.refl w5.heap.size w5).size))
    clear b6
    go_wp2_with fail
    refine (CV.out _ (by first | exact E6.out | exact (E6.out).drew)).mono ?_
    rintro e w7 ⟨v, rfl, o7, b7⟩
    obtain ⟨x7, c7, rfl, i7⟩ := o7.is
    rw [HVN.out] at i7 ⊢
    have E7 : Hid (Below w5.heap.size w5 w7) := Lib.hid (by first | exact (E6.out).trans (b7.mono (E6.out).size) | exact ((E6.out).drew).trans (b7.mono (E6.out).size))
    have HS7 := Lib.hid i7
    clear b7 o7 i7 E6
    go_wp2_with fail
    refine (CT.out _ x7 vn c7 (by first | exact E7.out | exact (E7.out).drew) (by first | exact HS7.out | exact HS7.out.next (Below.drew (Below.refl _ _)))).mono ?_
    rintro e w8 ⟨rfl, b8⟩
    have E8 : Hid (Below w5.heap.size w5 w8) := Lib.hid (by first | exact (E7.out).trans (b8.mono (E7.out).size) | exact ((E7.out).drew).trans (b8.mono (E7.out).size))
    clear b8 E7 HS7
    go_wp2_with fail
    refine (KI.out _ (by first | exact E8.out | exact (E8.out).drew)).mono ?_
    rintro e w9 ⟨rfl, b9⟩
    have E9 : Hid (Below w5.heap.size w5 w9) := Lib.hid (by first | exact (E8.out).trans (b9.mono (E8.out).size) | exact ((E8.out).drew).trans (b9.mono (E8.out).size))
    clear b9 E8
    go_wp2_with fail
    refine (KS.out _ (by first | exact E9.out | exact (E9.out).drew)).mono ?_
    rintro e w10 ⟨rfl, b10⟩
    have E10 : Hid (Below w5.heap.size w5 w10) := Lib.hid (by first | exact (E9.out).trans (b10.mono (E9.out).size) | exact ((E9.out).drew).trans (b10.mono (E9.out).size))
    clear b10 E9
    go_wp2_with fail
    have HE := Lib.hid E10.out
    clear E10 CS CV CT KI KS hkb hkb2
    go_loopw [11] (fun i wr => ∃ j : Nat, j ≤ pn ∧ i = .int .i64 j ∧ Hid (Below w5.heap.size w5 wr)) (fun i _ => pn - (intOf i).toNat)
    case atStart => exact ⟨0, Nat.zero_le _, rfl, HE⟩
    case round =>
      obtain ⟨j, hj, rfl, hfr⟩ := hrel
      clear HE
      have hj6 : (0 : Int) ≤ (j : Int) := by omega
      by_cases hlt : j < pn
      · have hj7 : (j : Int) < (pn : Int) := by omega
        obtain ⟨b, off, rfl, hb, _, _, hl, hc⟩ := HP5.out.cells (by omega)
        have ht : (solR gs ls)[j]? = some ((solR gs ls)[j]'(by omega)) := List.getElem?_eq_getElem (by omega)
        obtain ⟨ra, rn, rc, c0, hz⟩ := hc j _ ht
        have hro := HRO.out _ (List.mem_of_getElem? ht)
        have hsm := HSR.out _ (List.mem_of_getElem? ht)
        have HJ := Lib.hid ht
        have HALLC := Lib.hid hc
        generalize (solR gs ls)[j]'(by omega) = r at ht hz hro hsm HJ
        obtain rfl : rn = vn := by
          rw [← hz.len, ← HVN.out, List.length_map, ← hro.names_is HBG.out]
          unfold names
          rw [List.length_map]
        have HZ := Lib.hid hz
        have HC0 := Lib.hid c0
        have HRW := Lib.hid hro
        have HSMR := Lib.hid hsm
        have hrok : rowOk r = true := hro.ok (by have := HL3.out; omega)
        have CR := Lib.hid (fun W (h : Below w5.heap.size w5 W) => by
          have := implRowOk ra rn rc r W (HZ.out.next h) HSMR.out
          rw [hrok] at this
          exact this)
        have HROKR := Lib.hid hrok
        clear ht hc hl hz hro hsm c0 hrok
        have q0 := (hfr.out.cell (p := ⟨b, off + j, none⟩) hb).trans HC0.out
        go_wp2_with fail
        refine (CR.out _ (by first | exact hfr.out | exact hfr.out.drew)).mono ?_
        rintro e w11 ⟨rfl, b11⟩
        have E11 : Hid (Below w5.heap.size w5 w11) := Lib.hid (by first | exact hfr.out.trans (b11.mono hfr.out.size) | exact hfr.out.drew.trans (b11.mono hfr.out.size))
        clear b11 hfr q0 CR
        go_wp2_with fail
        go_loopw [12] (fun i wr => ∃ k : Nat, k ≤ rn ∧ i = .int .i64 k ∧ Hid (Below w5.heap.size w5 wr)) (fun i _ => rn - (intOf i).toNat)
        case atStart => exact ⟨0, Nat.zero_le _, rfl, E11⟩
        case round =>
          clear E11
          obtain ⟨k, hk, rfl, hfr⟩ := hrel
          have hk6 : (0 : Int) ≤ (k : Int) := by omega
          by_cases hlt2 : k < rn
          · have hk7 : (k : Int) < (rn : Int) := by omega
            have q0 := (hfr.out.cell (p := ⟨b, off + j, none⟩) hb).trans HC0.out
            obtain ⟨b2, off2, rfl, hb2, _, _, hl2, hc2⟩ := (HZ.out.next hfr.out).cells (by omega)
            obtain ⟨b3, off3, rfl, hb3, _, _, hl3, hc3⟩ := (HV5.out.next hfr.out).cells (by omega)
            have ht : r[k]? = some (r[k]'(by omega)) := List.getElem?_eq_getElem (by omega)
            obtain ⟨d0, d1, m0, m1⟩ := hc2 k _ ht
            have d2 := hc3 k _ (name_at HRW.out HBG.out ht)
            generalize r[k]'(by omega) = t at ht d0 d1 m0 m1 d2
            have EQ : (t.1.toList == t.1.toList) = true := by simp
            have EN : (t.1.toList != t.1.toList) = false := by simp
            have HB : Hid (∀ n, Below w5.heap.size w5 (wr.drewN n)) := Lib.hid (fun n => below_drewN hfr.out n)
            clear ht hc2 hl2 m0 m1 d1 hc3 hl3 hfr
            go_wp2_with fail
            go_quiet (fail)
            clear EQ EN q0 d0 d2
            go_wp2_with fail
            go_roundw
            case rel => exact ⟨k + 1, by omega, by go_num, Lib.hid (HB.out _)⟩
            case measure => simp [intOf]; omega
          · clear hk6
            go_wp2_with fail
            go_loopw [13] (fun i wr => ∃ k : Nat, k ≤ nl ∧ i = .int .i64 k ∧ Hid (Below w5.heap.size w5 wr)) (fun i _ => nl - (intOf i).toNat)
            case atStart => exact ⟨0, Nat.zero_le _, rfl, hfr⟩
            case round =>
              clear hfr hlt2 hk
              obtain ⟨k, hk, rfl, hfr⟩ := hrel
              have hk6 : (0 : Int) ≤ (k : Int) := by omega
              by_cases hlt2 : k < nl
              · have hk7 : (k : Int) < (nl : Int) := by omega
                obtain ⟨b2, off2, rfl, hb2, _, _, hl2, hc2⟩ := HL5.out.cells (by omega)
                have ht : ls[k]? = some (ls[k]'(by omega)) := List.getElem?_eq_getElem (by omega)
                obtain ⟨d0, d1, d2, mm⟩ := hc2 k _ ht
                have hin : (seen r (ls[k]'(by omega)).1, seen r (ls[k]'(by omega)).2.1, seen r (ls[k]'(by omega)).2.2) ∈ gs := HRW.out.fills (List.mem_of_getElem? ht)
                generalize ls[k]'(by omega) = p at ht d0 d1 d2 hin
                have CF := Lib.hid (fun W (h : Below w5.heap.size w5 W) => filledYes ra rn rc r p.1 p.2.1 p.2.2 W (HZ.out.next h) HSMR.out (by omega) HROKR.out)
                have CH := Lib.hid (fun W (h : Below w5.heap.size w5 W) => hasYes xg ng cg gs (seen r p.1) (seen r p.2.1) (seen r p.2.2) W (HG5.out.next h) (by omega) hin)
                have ALL : Hid (∀ W, Below w5.heap.size w5 W → W.cell? ⟨b, off + j, none⟩ = some (.slice ra rn rc) ∧ W.cell? ⟨b2, off2 + k * 3, none⟩ = some (.string p.1) ∧ W.cell? ⟨b2, off2 + k * 3 + 1, none⟩ = some (.string p.2.1) ∧ W.cell? ⟨b2, off2 + k * 3 + 2, none⟩ = some (.string p.2.2)) := Lib.hid (fun W h => ⟨(h.cell (p := ⟨b, off + j, none⟩) hb).trans HC0.out, (h.cell (p := ⟨b2, off2 + k * 3, none⟩) hb2).trans d0, (h.cell (p := ⟨b2, off2 + k * 3 + 1, none⟩) hb2).trans d1, (h.cell (p := ⟨b2, off2 + k * 3 + 2, none⟩) hb2).trans d2⟩)
                have E0 := Lib.hid (Below.drew hfr.out)
                obtain ⟨y0, y1, y2, y3⟩ := ALL.out _ E0.out
                clear mm
                clear ht hc2 hl2 d0 d1 d2 hfr hin
                go_wp2_with fail
                go_region_held3 (fun w' => w'.cell? ⟨b, off + j, none⟩ = some (.slice ra rn rc) ∧ w'.cell? ⟨b2, off2 + k * 3, none⟩ = some (.string p.1) ∧ w'.cell? ⟨b2, off2 + k * 3 + 1, none⟩ = some (.string p.2.1) ∧ w'.cell? ⟨b2, off2 + k * 3 + 2, none⟩ = some (.string p.2.2))
                  (first | with_reducible exact ALL.out _ E3.out | with_reducible exact ALL.out _ E2.out | with_reducible exact ALL.out _ E0.out)
                  (first
                    | (go_at_call 22; refine (CF.out _ E0.out).mono ?_; rintro e wa ⟨rfl, ha⟩; have E2 := Lib.hid (E0.out.trans (ha.mono E0.out.size)))
                    | (go_at_call 21; refine (CH.out _ E2.out).mono ?_; rintro e wb ⟨rfl, hb'⟩; have E3 := Lib.hid (E2.out.trans (hb'.mono E2.out.size))))
                clear ha hb' E0 E2 y0 y1 y2 y3 CF CH ALL
                go_wp2_with fail
                go_roundw
                case rel => exact ⟨k + 1, by omega, by go_num, E3⟩
                case measure => simp [intOf]; omega
              · clear hk6
                go_wp2_with fail
                go_loopw [14] (fun i wr => ∃ k : Nat, k ≤ j ∧ i = .int .i64 k ∧ Hid (Below w5.heap.size w5 wr)) (fun i _ => j - (intOf i).toNat)
                case atStart => exact ⟨0, Nat.zero_le _, rfl, hfr⟩
                case round =>
                  clear hfr hlt2 hk
                  obtain ⟨k, hk, rfl, hfr⟩ := hrel
                  have hk6 : (0 : Int) ≤ (k : Int) := by omega
                  by_cases hlt2 : k < j
                  · have hk7 : (k : Int) < (j : Int) := by omega
                    have ht : (solR gs ls)[k]? = some ((solR gs ls)[k]'(by have := HPN.out; omega)) := List.getElem?_eq_getElem (by have := HPN.out; omega)
                    obtain ⟨sa, sn, sc, d0, hz⟩ := HALLC.out k _ ht
                    have hne : (solR gs ls)[k]'(by have := HPN.out; omega) ≠ r := fun e => by
                      have h1 := HJ.out
                      have h2 := (List.getElem?_eq_some_iff.1 h1).1
                      have h3 := (List.getElem?_eq_some_iff.1 h1).2
                      have := (List.nodup_iff_pairwise_ne.1 HND.out)
                      have := (List.pairwise_iff_getElem.1 this) k j (by omega) h2 hlt2
                      exact this (e.trans h3.symm)
                    have h12 := rows_le HL3.out.2 _ (List.mem_of_getElem? ht)
                    generalize (solR gs ls)[k]'(by have := HPN.out; omega) = s at ht hz hne h12
                    have hsn : sn ≤ 12 := by have := hz.len; omega
                    have CD := Lib.hid (fun W (h : Below w5.heap.size w5 W) => rowNo sa ra sn sc rn rc s r W (hz.next h) (HZ.out.next h) (by omega) (by omega) hne)
                    have ALL : Hid (∀ W, Below w5.heap.size w5 W → W.cell? ⟨b, off + k, none⟩ = some (.slice sa sn sc) ∧ W.cell? ⟨b, off + j, none⟩ = some (.slice ra rn rc)) := Lib.hid (fun W h => ⟨(h.cell (p := ⟨b, off + k, none⟩) hb).trans d0, (h.cell (p := ⟨b, off + j, none⟩) hb).trans HC0.out⟩)
                    have E0 := Lib.hid (Below.drew hfr.out)
                    obtain ⟨y0, y1⟩ := ALL.out _ E0.out
                    have hk8 : (k : Int) < (pn : Int) := by omega
                    clear ht hz hne h12 d0 hfr
                    go_wp2_with fail
                    go_region_held3 (fun w' => w'.cell? ⟨b, off + k, none⟩ = some (.slice sa sn sc) ∧ w'.cell? ⟨b, off + j, none⟩ = some (.slice ra rn rc))
                      (first | with_reducible exact ALL.out _ E2.out | with_reducible exact ALL.out _ E0.out)
                      (first
                        | (go_at_call 23; refine (CD.out _ E0.out).mono ?_; rintro e wa ⟨rfl, ha⟩; have E2 := Lib.hid (E0.out.trans (ha.mono E0.out.size))))
                    clear ha E0 y0 y1 CD ALL
                    go_wp2_with fail
                    go_roundw
                    case rel => exact ⟨k + 1, by omega, by go_num, E2⟩
                    case measure => simp [intOf]; omega
                  · clear hk6
                    go_wp2_with fail
                    go_roundw
                    case rel => exact ⟨j + 1, by omega, by go_num, hfr⟩
                    case measure => simp [intOf]; omega
      · go_wp2_with fail
        go_ret
        exact ⟨rfl, HB5.out.trans (hfr.out.mono HB5.out.size)⟩
end fnSolutions
end Go.Proofs.YtmiiaebelncdhaaGreat
