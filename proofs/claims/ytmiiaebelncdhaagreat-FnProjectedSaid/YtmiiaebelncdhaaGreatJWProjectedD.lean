/- The walk of FnProjected. -/
import Derived.Test.YtmiiaebelncdhaaGreatG00
import Derived.Test.YtmiiaebelncdhaaGreatG34
import Derived.Test.YtmiiaebelncdhaaGreatG35
import Derived.Test.YtmiiaebelncdhaaGreatG32
import Derived.Test.YtmiiaebelncdhaaGreatG33
import Derived.Test.YtmiiaebelncdhaaGreatG15
namespace Go.Proofs.YtmiiaebelncdhaaGreat
open Go.RowKit Go.WideShapes
namespace fnProjected
theorem proj_res {rs : List RowV} {vs : List ByteArray} (h : rs.length ≤ 300 ∧ ∀ r ∈ rs, SmP r) : (projR rs vs).length ≤ 300 ∧ (∀ r ∈ projR rs vs, SmP r ∧ r.length ≤ 12) := by
  cases hp : projOk rs vs
  · rw [projR_no hp]; simp
  · rw [projR_yes hp]
    have hq : rowsOkL rs = true := by unfold projOk at hp; simp only [Bool.and_eq_true] at hp; exact hp.1
    refine ⟨Nat.le_trans (projL_len rs vs) h.1, fun r hr => ?_⟩
    obtain ⟨s, hs, rfl⟩ := projL_mem hr
    refine ⟨fun t ht => h.2 s hs t (List.mem_filter.1 ht).1, ?_⟩
    have := rowsOk_row hq hs
    have := keepL_len (txts vs) s
    omega
theorem smP_max {rs : List RowV} (h : ∀ r ∈ rs, SmP r ∧ r.length ≤ 12) : ∀ r ∈ rs, ∀ t ∈ r, t.1.size ≤ maxLen ∧ t.2.size ≤ maxLen := fun r hr t ht => by
  have := (h r hr).1 t ht
  unfold maxLen
  omega
theorem hasB_txt {vs : List ByteArray} {x : ByteArray} (h : x.data.toList ∈ txts vs) : hasB vs x = true := by
  rw [hasB_txts]
  exact decide_eq_true h
set_option maxRecDepth 100000 in
set_option maxHeartbeats 6400000 in
theorem walk (a : Option Addr) (len cap : Nat) (zs : List Int) (w : World) (hrow : Frame.IsRow .u8 w a len cap zs) :
    Calls Tryz.prog 6 #[.slice a len cap] w fun e w' => e = .returned (.bool true) ∧ Below w.heap.size w w' := by
  have hlen : len ≤ 9223372036854775807 := by
    rcases hrow with ⟨_, rfl, _⟩ | ⟨y, _, h1, h2, _⟩
    · omega
    · unfold maxLen at h2; omega
  by_cases hbig : (1048576 : Int) < len
  · go_enter Tryz.func6, Tryz.ntmps6
    go_wp2_with go_in
    go_ret
    exact ⟨rfl, Below.refl _ _⟩
  go_enter Tryz.func6, Tryz.ntmps6
  go_wp2_with (go_at_call 9; go_in)
  refine (drawProjected _ _ _ _ _ hrow).mono ?_
  rintro e w1 ⟨x, n, c, y, m, d, rs, vs, rfl, iR, iS, hsr, hsv, g1⟩
  have B1 := below_of_grown g1
  have hnm : n ≤ 300 := by have := iR.len; omega
  have hmm : m ≤ 3 := by have := iS.len; omega
  have HR1 := Lib.hid iR
  have HS1 := Lib.hid iS
  have HSR := Lib.hid hsr
  have HSV : Hid (∀ t ∈ vs, t.size ≤ 1048576) := Lib.hid (fun t ht => by have := hsv.2 t ht; omega)
  have C1 := Lib.hid (fun W (h : Below w1.heap.size w1 W) => implProjected x y n c m d rs vs W (HR1.out.next h) (HS1.out.next h) HSR.out.2 HSV.out (by omega))
  have HPR := Lib.hid (proj_res (vs := vs) hsr)
  clear g1 hrow hbig hlen iR iS hsr hsv
  go_wp2_with fail
  refine (C1.out _ (by first | exact Below.refl _ _ | exact Below.drew (Below.refl _ _))).mono ?_
  rintro e w2 ⟨v, rfl, o2, b2⟩
  obtain ⟨px, pc, rfl, i2⟩ := o2.is (smP_max HPR.out.2)
  have b2' : Below w1.heap.size w1 w2 := by first | exact b2 | exact (Below.drew (Below.refl _ _)).trans b2
  have HP2 := Lib.hid i2
  have C2 := Lib.hid (fun W (h : Below w1.heap.size w1 W) => specProjected x y n c m d rs vs W (HR1.out.next h) (HS1.out.next h) HSR.out.2 HSV.out (by omega))
  clear b2 o2 i2 C1
  have E2 := Lib.hid b2'
  clear b2'
  obtain ⟨pn, hpn⟩ : ∃ n, (projR rs vs).length = n := ⟨_, rfl⟩
  rw [hpn] at HP2 ⊢
  have HPN := Lib.hid hpn
  clear hpn
  go_wp2_with fail
  refine (C2.out _ (by first | exact E2.out | exact E2.out.drew)).mono ?_
  rintro e w3 ⟨qx, qn, qc, rfl, i3, b3⟩
  have b3' : Below w2.heap.size w2 w3 := by first | exact b3 | exact (Below.drew (Below.refl _ _)).trans b3
  have HQ3 := Lib.hid i3
  have HP3 := Lib.hid (HP2.out.next b3')
  have E3 := Lib.hid (E2.out.trans (b3'.mono E2.out.size))
  clear b3 b3' i3 C2 E2 HP2
  have HLS : Hid (pn ≤ 1048576 ∧ ∀ r ∈ projR rs vs, r.length ≤ 1048576) := Lib.hid ⟨by have := HPR.out.1; have := HPN.out; omega, fun r hr => by have := (HPR.out.2 r hr).2; omega⟩
  have CS := Lib.hid (fun W (h : Below w3.heap.size w3 W) => lawRowsSame px qx pn pc qn qc _ W (HP3.out.next h) (HQ3.out.next h) HLS.out)
  cases hok : projOk rs vs
  · clear hok
    go_wp2_with fail
    refine (CS.out _ (by first | exact Below.refl _ _ | exact Below.drew (Below.refl _ _))).mono ?_
    rintro e w4 ⟨rfl, b4⟩
    have b4' : Below w3.heap.size w3 w4 := by first | exact b4 | exact (Below.drew (Below.refl _ _)).trans b4
    have E4 := Lib.hid (E3.out.trans (b4'.mono E3.out.size))
    have CS4 := Lib.hid (CS.out _ b4')
    clear b4 CS
    go_wp2_with fail
    refine (CS4.out).mono ?_
    rintro e w5 ⟨rfl, b5⟩
    have B5 := B1.trans ((E4.out.trans (b5.mono E4.out.size)).mono B1.size)
    clear b5 E4 E3
    go_wp2_with fail
    go_ret
    exact ⟨rfl, B5⟩
  · have HOK := Lib.hid hok
    clear hok
    go_wp2_with fail
    refine (CS.out _ (by first | exact Below.refl _ _ | exact Below.drew (Below.refl _ _))).mono ?_
    rintro e w4 ⟨rfl, b4⟩
    have b4' : Below w3.heap.size w3 w4 := by first | exact b4 | exact (Below.drew (Below.refl _ _)).trans b4
    have E4 := Lib.hid (E3.out.trans (b4'.mono E3.out.size))
    have HP4 := Lib.hid (HP3.out.next b4')
    have HPL : Hid (projR rs vs = projL rs vs) := Lib.hid (projR_yes HOK.out)
    have HIN : Hid (∀ r ∈ projR rs vs, ∀ t ∈ r, hasB vs t.1 = true) := Lib.hid (fun r hr t ht => by
      rw [HPL.out] at hr
      exact hasB_txt (projL_has hr ht))
    have hpn3 : pn ≤ 300 := by have := HPR.out.1; have := HPN.out; omega
    clear b4 b4' E3 HP3 CS
    go_wp2_with fail
    go_loopw [9] (fun i wr => ∃ j : Nat, j ≤ pn ∧ i = .int .i64 j ∧ Hid (Below w4.heap.size w4 wr)) (fun i _ => pn - (intOf i).toNat)
    case atStart => exact ⟨0, Nat.zero_le _, rfl, Lib.hid (Below.refl _ _)⟩
    case round =>
      obtain ⟨j, hj, rfl, hfr⟩ := hrel
      have hj6 : (0 : Int) ≤ (j : Int) := by omega
      by_cases hlt : j < pn
      · have hj7 : (j : Int) < (pn : Int) := by omega
        obtain ⟨b, off, rfl, hb, _, _, hl, hc⟩ := HP4.out.cells (by omega)
        have ht : (projR rs vs)[j]? = some ((projR rs vs)[j]'(by omega)) := List.getElem?_eq_getElem (by omega)
        obtain ⟨ra, rn, rc, c0, hz⟩ := hc j _ ht
        have HRI := Lib.hid (HIN.out _ (List.mem_of_getElem? ht))
        have hr12 := (HPR.out.2 _ (List.mem_of_getElem? ht)).2
        generalize (projR rs vs)[j]'(by omega) = r at ht hz HRI hr12
        have hrn : rn ≤ 12 := by have := hz.len; omega
        have HZ := Lib.hid hz
        have HC0 := Lib.hid c0
        clear ht hc hl hz hr12 c0
        obtain ⟨wo, rfl⟩ : ∃ x, x = wr := ⟨_, rfl⟩
        go_wp2_with fail
        go_loopw [10] (fun i wr => ∃ k : Nat, k ≤ rn ∧ i = .int .i64 k ∧ Hid (Below w4.heap.size w4 wr)) (fun i _ => rn - (intOf i).toNat)
        case atStart => exact ⟨0, Nat.zero_le _, rfl, hfr⟩
        case round =>
          clear hfr
          obtain ⟨k, hk, rfl, hfr⟩ := hrel
          have hk6 : (0 : Int) ≤ (k : Int) := by omega
          have c0 := (hfr.out.cell (p := ⟨b, _, none⟩) hb).trans HC0.out
          by_cases hlt2 : k < rn
          · have hk7 : (k : Int) < (rn : Int) := by omega
            obtain ⟨b2, off2, rfl, hb2, _, _, hl2, hc2⟩ := (HZ.out.next hfr.out).cells (by omega)
            have ht : r[k]? = some (r[k]'(by omega)) := List.getElem?_eq_getElem (by omega)
            obtain ⟨d0, d1, m0, m1⟩ := hc2 k _ ht
            have hin := HRI.out _ (List.mem_of_getElem? ht)
            generalize r[k]'(by omega) = t at ht d0 d1 m0 m1 hin
            have E := Lib.hid (fun (W : World) (h : Below wr.heap.size wr W) => by
              have CH := lawHasB y m d vs t.1 W ((HS1.out.next (E4.out.trans (hfr.out.mono E4.out.size))).next h) (by omega)
              rw [hin] at CH
              exact CH)
            have HFR := Lib.hid hfr.out
            have l1 : b < wr.heap.size := Nat.lt_of_lt_of_le hb hfr.out.size
            have l2 : b2 < wr.heap.size := hb2
            clear hin ht hc2 hl2 m0 m1 d1 hfr
            go_wp2_with fail
            refine (E.out _ (by first | exact Below.refl _ _ | exact Below.drew (Below.refl _ _))).mono ?_
            rintro e wa ⟨rfl, ha4⟩
            have ha4' : Below wr.heap.size wr wa := by first | exact ha4 | exact (Below.drew (Below.refl _ _)).trans ha4
            have B := Lib.hid (HFR.out.trans (ha4'.mono HFR.out.size))
            clear ha4 ha4' HFR c0 d0 E
            go_wp2_with fail
            go_roundw
            case rel => exact ⟨k + 1, by omega, by go_num, B⟩
            case measure => simp [intOf]; omega
          · obtain rfl : k = rn := by omega
            go_wp2_with fail
            go_roundw
            case rel => exact ⟨j + 1, by omega, by go_num, hfr⟩
            case measure => simp [intOf]; omega
      · obtain rfl : j = pn := by omega
        have HSP : Hid (∀ r ∈ projR rs vs, SmP r) := Lib.hid (fun r hr => (HPR.out.2 r hr).1)
        have E9 := Lib.hid (E4.out.trans (hfr.out.mono E4.out.size))
        have HP9 := Lib.hid (HP4.out.next hfr.out)
        have hj300 : j ≤ 300 := by have := HPR.out.1; have := HPN.out; omega
        have CP := Lib.hid (fun W (h : Below wr.heap.size wr W) => implProjected px y j pc m d (projR rs vs) vs W (HP9.out.next h) ((HS1.out.next E9.out).next h) HSP.out HSV.out (by omega))
        have HTW : Hid (projR (projR rs vs) vs = projR rs vs) := Lib.hid (by
          rw [HPL.out, projR_yes (projOk_twice HOK.out), projL_twice HOK.out])
        have hle : (j : Int) ≤ (n : Int) := by
          have h1 := projL_len rs vs
          have h2 := HPN.out
          rw [HPL.out] at h2
          have h3 := HR1.out.len
          omega
        clear hfr hlt
        go_wp2_with fail
        refine (CP.out _ (by first | exact Below.refl _ _ | exact Below.drew (Below.refl _ _))).mono ?_
        rintro e w7 ⟨v7, rfl, o7, b7⟩
        rw [HTW.out] at o7
        obtain ⟨ax, ac, rfl, i7⟩ := o7.is (smP_max HPR.out.2)
        rw [HPN.out] at i7 ⊢
        have b7' : Below wr.heap.size wr w7 := by first | exact b7 | exact (Below.drew (Below.refl _ _)).trans b7
        have E10 := Lib.hid (E9.out.trans (b7'.mono E9.out.size))
        have CS9 := Lib.hid (fun W (h : Below w7.heap.size w7 W) => lawRowsSame ax px j ac j pc _ W (i7.next h) ((HP9.out.next b7').next h) HLS.out)
        clear b7 b7' o7 i7 CP E9 HP9
        go_wp2_with fail
        refine (CS9.out _ (by first | exact Below.refl _ _ | exact Below.drew (Below.refl _ _))).mono ?_
        rintro e w8 ⟨rfl, b8⟩
        have b8' : Below w7.heap.size w7 w8 := by first | exact b8 | exact (Below.drew (Below.refl _ _)).trans b8
        have B9 := B1.trans ((E10.out.trans (b8'.mono E10.out.size)).mono B1.size)
        clear b8 b8' CS9 E10
        go_wp2_with fail
        go_ret
        exact ⟨rfl, B9⟩
end fnProjected
end Go.Proofs.YtmiiaebelncdhaaGreat
