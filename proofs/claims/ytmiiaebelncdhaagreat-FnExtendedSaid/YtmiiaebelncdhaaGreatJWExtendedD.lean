/- The walk of FnExtended. -/
import Derived.Test.YtmiiaebelncdhaaGreatG00
import Derived.Test.YtmiiaebelncdhaaGreatG43
import Derived.Test.YtmiiaebelncdhaaGreatG35
import Derived.Test.YtmiiaebelncdhaaGreatJWExactMerged
namespace Go.Proofs.YtmiiaebelncdhaaGreat
open Go.RowKit Go.WideShapes
namespace fnExtended
theorem smP_max {rs : List RowV} (h : ∀ r ∈ rs, SmP r) : ∀ r ∈ rs, ∀ t ∈ r, t.1.size ≤ maxLen ∧ t.2.size ≤ maxLen := fun r hr t ht => by
  have := h r hr t ht
  unfold maxLen
  omega
theorem got_is {w : World} {a : Option Addr} {n c : Nat} {ts : List Tri3} (h : GotG w (.slice a n c) ts) : ts.length = n ∧ IsTris w a n c ts ∧ SmG ts := by
  obtain ⟨x, c', hv, hi, hp, hs⟩ := h
  simp only [Value.slice.injEq] at hv
  obtain ⟨rfl, rfl, rfl⟩ := hv
  exact ⟨rfl, hi, hs⟩
set_option maxRecDepth 100000 in
set_option maxHeartbeats 12800000 in
theorem walk (a : Option Addr) (len cap : Nat) (zs : List Int) (w : World) (hrow : Frame.IsRow .u8 w a len cap zs) :
    Calls Tryz.prog 7 #[.slice a len cap] w fun e w' => e = .returned (.bool true) ∧ Below w.heap.size w w' := by
  have hlen : len ≤ 9223372036854775807 := by
    rcases hrow with ⟨_, rfl, _⟩ | ⟨y, _, h1, h2, _⟩
    · omega
    · unfold maxLen at h2; omega
  by_cases hbig : (1048576 : Int) < len
  · go_enter Tryz.func7, Tryz.ntmps7
    go_wp2_with go_in
    go_ret
    exact ⟨rfl, Below.refl _ _⟩
  have HROW := Lib.hid hrow
  clear hrow
  go_enter Tryz.func7, Tryz.ntmps7
  go_wp2_with (go_at_call 9; go_in)
  refine (drawExtended _ _ _ _ _ HROW.out).mono ?_
  rintro e w1 ⟨x, c, y, n, d, z, zc, gs, rs, ls, rfl, hG, hN, iR, hL, hsr, hl3, g1⟩
  have B1 := below_of_grown g1
  obtain ⟨ng, hn1⟩ : ∃ n, gs.length = n := ⟨_, rfl⟩
  obtain ⟨nl, hn2⟩ : ∃ n, ls.length = n := ⟨_, rfl⟩
  rw [hn1] at hG ⊢
  rw [hn2] at hL hl3 ⊢
  obtain ⟨_, iG, sG⟩ := got_is hG
  obtain ⟨_, iL, sL⟩ := got_is hL
  have hng : ng ≤ 81 := by rw [← hn1]; exact sG.1
  have hn3 : n ≤ 300 := by have := iR.len; have := hsr.1; omega
  have HNR : Hid (rs.length = n) := Lib.hid iR.len
  have HR1 := Lib.hid iR
  have HSR := Lib.hid hsr.2
  have HG1 := Lib.hid iG
  have HL1 := Lib.hid iL
  have HSG := Lib.hid sG.t
  have HSL := Lib.hid sL.t
  have HN := Lib.hid hN
  have HRS := Lib.hid (ext_res (gs := gs) (ls := ls) sG.t hsr.2 sL.t)
  have C1 := Lib.hid (fun W (h : Below w1.heap.size w1 W) => implExtended x y z ng c n d nl zc gs rs ls W (HG1.out.next h) (HR1.out.next h) (HL1.out.next h) HSG.out HSR.out HSL.out)
  have C2 := Lib.hid (fun W (h : Below w1.heap.size w1 W) => specExtended x y z ng c n d nl zc gs rs ls W (HG1.out.next h) (HR1.out.next h) (HL1.out.next h) HSG.out HSR.out HSL.out)
  clear g1 hbig hlen iR hsr iG iL sG sL hN hG hL hn1 hn2 HROW
  go_wp2_with fail
  refine (C1.out _ (by first | exact Below.refl _ _ | exact Below.drew (Below.refl _ _))).mono ?_
  rintro e w2 ⟨v, rfl, o2, b2⟩
  obtain ⟨px, pc, rfl, i2⟩ := o2.is (smP_max (fun r hr => (HRS.out.2 r hr).1))
  have b2' : Below w1.heap.size w1 w2 := by first | exact b2 | exact (Below.drew (Below.refl _ _)).trans b2
  have HP2 := Lib.hid i2
  clear b2 o2 i2 C1
  have E2 := Lib.hid b2'
  clear b2'
  obtain ⟨pn, hpn⟩ : ∃ n, (extR gs rs ls).length = n := ⟨_, rfl⟩
  rw [hpn] at HP2 ⊢
  have HPN := Lib.hid hpn
  clear hpn
  go_wp2_with fail
  refine (C2.out _ (by first | exact E2.out | exact E2.out.drew)).mono ?_
  rintro e w3 ⟨qx, qn, qc, rfl, i3, b3⟩
  have b3' : Below w2.heap.size w2 w3 := by first | exact b3 | exact (Below.drew (Below.refl _ _)).trans b3
  have HQ3 := Lib.hid i3
  have HP3 := Lib.hid (HP2.out.next b3')
  have E3 := Lib.hid (E2.out.trans (b3'.mono E2.out.size))
  clear b3 b3' i3 C2 E2 HP2
  have hpn3 : pn ≤ 300 := by have := HRS.out.1; have := HPN.out; omega
  have HLS : Hid (pn ≤ 1048576 ∧ ∀ r ∈ extR gs rs ls, r.length ≤ 1048576) := Lib.hid ⟨by omega, fun r hr => by have := (HRS.out.2 r hr).2; omega⟩
  have CS := Lib.hid (fun W (h : Below w3.heap.size w3 W) => lawRowsSame px qx pn pc qn qc _ W (HP3.out.next h) (HQ3.out.next h) HLS.out)
  cases hok : extOk gs rs ls
  · clear hok
    go_wp2_with fail
    refine (CS.out _ (by first | exact Below.refl _ _ | exact Below.drew (Below.refl _ _))).mono ?_
    rintro e w4 ⟨rfl, b4⟩
    have b4' : Below w3.heap.size w3 w4 := by first | exact b4 | exact (Below.drew (Below.refl _ _)).trans b4
    have E4 := Lib.hid (E3.out.trans (b4'.mono E3.out.size))
    have CS4 := Lib.hid (CS.out _ b4')
    clear b4 CS
    go_wp2_with fail
    refine (CS4.out).mono ?_
    rintro e w5 ⟨rfl, b5⟩
    have B5 := B1.trans ((E4.out.trans (b5.mono E4.out.size)).mono B1.size)
    clear b5 E4 E3
    go_wp2_with fail
    go_ret
    exact ⟨rfl, B5⟩
  · have HOK := Lib.hid hok
    clear hok
    go_wp2_with fail
    refine (CS.out _ (by first | exact Below.refl _ _ | exact Below.drew (Below.refl _ _))).mono ?_
    rintro e w4 ⟨rfl, b4⟩
    have b4' : Below w3.heap.size w3 w4 := by first | exact b4 | exact (Below.drew (Below.refl _ _)).trans b4
    have E4 := Lib.hid (E3.out.trans (b4'.mono E3.out.size))
    have HM4 := Lib.hid (HP3.out.next b4')
    have HR4 := Lib.hid (HR1.out.next E4.out)
    have HG4 := Lib.hid (HG1.out.next E4.out)
    have HANY := Lib.hid (ext_any HOK.out)
    have HNN := Lib.hid (ext_nn HOK.out HN.out)
    have HRM : Hid (∀ r ∈ rs, r.length ≤ 12) := Lib.hid (fun r hr => rowOk_most ((ext_parts HOK.out).2.2.2.1 r hr))
    have HZERO : Hid (∀ W, Below w4.heap.size w4 W → ∀ a', IsTris W a' 1 1 [patN] → Calls Tryz.prog 33 #[.slice x ng c, .slice y n d, .slice a' 1 1] W fun e w' => ∃ v, e = .returned (.tuple #[v, .bool true]) ∧ (∃ xa xn xc, v = .slice xa xn xc ∧ xn ≤ n) ∧ Below W.heap.size W w') := Lib.hid (fun W h a' ha => by
      have K := implExtended x y a' ng c n d 1 1 gs rs [patN] W (HG4.out.next h) (HR4.out.next h) ha HSG.out HSR.out patN_small
      rw [HNN.out.1] at K
      refine K.mono ?_
      rintro e w' ⟨v, he, hv, hb⟩
      obtain ⟨xa, xc, hv', _⟩ := hv.is (smP_max (fun r hr => ((ext_res HSG.out HSR.out patN_small).2 r hr).1))
      exact ⟨v, he, ⟨xa, _, xc, hv', by have := HNN.out.2; have := HNR.out; omega⟩, hb⟩)
    clear b4 b4' E3 HP3 HQ3 CS HLS HR1 HG1 HL1 HG4 HNN HN HSG HSL HOK
    generalize extR gs rs ls = ms at HRS HPN HM4 HANY
    go_wp2_with fail
    go_loopw [10] (fun i wr => ∃ j : Nat, j ≤ n ∧ i = .int .i64 j ∧ Hid (Below w4.heap.size w4 wr)) (fun i _ => n - (intOf i).toNat)
    case atStart => exact ⟨0, Nat.zero_le _, rfl, Lib.hid (Below.refl _ _)⟩
    case round =>
      obtain ⟨j, hj, rfl, hfr⟩ := hrel
      have hj6 : (0 : Int) ≤ (j : Int) := by omega
      by_cases hlt : j < n
      · have hj7 : (j : Int) < (n : Int) := by omega
        obtain ⟨b, off, rfl, hb, _, _, hl, hc⟩ := HR4.out.cells (by omega)
        have ht : rs[j]? = some (rs[j]'(by omega)) := List.getElem?_eq_getElem (by omega)
        obtain ⟨ra, rn, rc, c0, hz⟩ := hc j _ ht
        have hrl := HRM.out _ (List.mem_of_getElem? ht)
        have HRP := Lib.hid (HSR.out _ (List.mem_of_getElem? ht))
        have HRA := Lib.hid (HANY.out _ (List.mem_of_getElem? ht))
        generalize rs[j]'(by omega) = r at ht hz hrl HRP HRA
        have hrn : rn ≤ 12 := by have := hz.len; omega
        have HZ := Lib.hid hz
        have HC0 := Lib.hid c0
        clear ht hc hl hz c0 hrl HZERO
        go_wp2_with fail
        go_loopw [11, 12] (fun th i wr => ∃ k : Nat, k ≤ pn ∧ i = .int .i64 k ∧ Hid (th = .bool (anyF r (ms.take k))) ∧ Hid (Below w4.heap.size w4 wr)) (fun _ i _ => pn - (intOf i).toNat)
        case atStart => exact ⟨0, Nat.zero_le _, rfl, Lib.hid rfl, hfr⟩
        case round =>
          clear hfr
          obtain ⟨k, hk, rfl, hth, hfr⟩ := hrel
          have hk6 : (0 : Int) ≤ (k : Int) := by omega
          by_cases hlt2 : k < pn
          · have hk7 : (k : Int) < (pn : Int) := by omega
            obtain ⟨b2, off2, rfl, hb2, _, _, hl2, hc2⟩ := HM4.out.cells (by omega)
            have ht : ms[k]? = some (ms[k]'(by omega)) := List.getElem?_eq_getElem (by omega)
            obtain ⟨sa, sn, sc, d0, hy⟩ := hc2 k _ ht
            have hsl := HRS.out.2 _ (List.mem_of_getElem? ht)
            have HST := Lib.hid (anyF_step (r := r) ht)
            generalize ms[k]'(by omega) = s' at ht hy hsl HST
            have hsn : sn ≤ 12 := by have := hy.len; omega
            have HY := Lib.hid hy
            have HMB : Hid (∀ t ∈ (mergedP r s').getD [], t.1.size ≤ maxLen ∧ t.2.size ≤ maxLen) := Lib.hid (merged_max HRP.out hsl.1)
            have HML : Hid (((mergedP r s').getD []).length ≤ 24) := Lib.hid (merged_most (by have := HZ.out.len; omega) hsl.2)
            have CM := Lib.hid (fun W (h : Below w4.heap.size w4 W) => fnExactMerged.implMergedR ra sa rn rc sn sc r s' W (HZ.out.next h) (HY.out.next h) HRP.out hsl.1)
            have ALL : Hid (∀ W, Below w4.heap.size w4 W → W.cell? ⟨b, off + j, none⟩ = some (.slice ra rn rc) ∧ W.cell? ⟨b2, off2 + k, none⟩ = some (.slice sa sn sc)) := Lib.hid (fun W h => ⟨(h.cell (p := ⟨b, off + j, none⟩) hb).trans HC0.out, (h.cell (p := ⟨b2, off2 + k, none⟩) hb2).trans d0⟩)
            have E0 := Lib.hid (Below.drew hfr.out)
            obtain ⟨y0, y1⟩ := ALL.out _ E0.out
            clear ht hc2 hl2 hy hsl d0 hfr
            go_wp2_with fail
            go_region_held3 (fun w' => w'.cell? ⟨b, off + j, none⟩ = some (.slice ra rn rc) ∧ w'.cell? ⟨b2, off2 + k, none⟩ = some (.slice sa sn sc))
              (first | with_reducible exact ALL.out _ E2.out | with_reducible exact ALL.out _ E0.out)
              (first
                | (go_at_call 24; refine (CM.out _ E0.out).mono ?_; rintro e wm ⟨v, rfl, om, bm⟩; obtain ⟨xm, cm, rfl, im⟩ := om.is HMB.out; have E2 := Lib.hid (E0.out.trans (bm.mono E0.out.size))))
            have hfm := E2
            clear y0 y1 om bm CM E0 E2 HMB
            unfold fitsR at HST
            generalize (mergedP r s').getD [] = M at im HML HST
            obtain ⟨mn, hmn⟩ : ∃ n, M.length = n := ⟨_, rfl⟩
            rw [hmn] at im HML ⊢
            have hmn24 : mn ≤ 24 := HML.out
            have HIM := Lib.hid im
            clear hmn im HML
            have CD := Lib.hid (fun W (h : Below wm.heap.size wm W) => lawRow xm sa mn cm sn sc M s' W (HIM.out.next h) (HY.out.next (hfm.out.trans (h.mono hfm.out.size))) (by omega) (by omega))
            cases hq : anyF r (ms.take k)
            · have hth' := hth.out
              rw [hq] at hth' HST
              rw [Bool.false_or] at HST
              subst hth'
              cases hf : (mergedP r s').isSome
              · rw [hf, Bool.false_and] at HST
                clear hth hq hf CD ALL
                go_wp2_with fail
                go_roundw
                case rel => exact ⟨k + 1, by omega, by go_num, Lib.hid (by rw [HST.out]), hfm⟩
                case measure => simp [intOf]; omega
              · rw [hf, Bool.true_and] at HST
                generalize decide (M = s') = q at CD HST
                obtain ⟨y0, y1⟩ := ALL.out _ hfm.out
                clear hth hq hf ALL
                go_wp2_with fail
                refine (CD.out _ (by first | exact Below.refl _ _ | exact Below.drew (Below.refl _ _))).mono ?_
                rintro e wa ⟨rfl, ha⟩
                have ha2 : Below wm.heap.size wm wa := by first | exact ha | exact (Below.drew (Below.refl _ _)).trans ha
                have E3 := Lib.hid (hfm.out.trans (ha2.mono hfm.out.size))
                clear ha ha2 y0 y1 CD
                go_wp2_with fail
                go_roundw
                case rel => exact ⟨k + 1, by omega, by go_num, Lib.hid (by rw [HST.out]), E3⟩
                case measure => simp [intOf]; omega
            · have hth' := hth.out
              rw [hq] at hth' HST
              rw [Bool.true_or] at HST
              subst hth'
              clear hth hq CD ALL
              go_wp2_with fail
              go_roundw
              case rel => exact ⟨k + 1, by omega, by go_num, Lib.hid (by rw [HST.out]), hfm⟩
              case measure => simp [intOf]; omega
          · have hth' := hth.out
            rw [List.take_of_length_le (by have := HPN.out; omega), HRA.out] at hth'
            subst hth'
            clear hth hk6
            go_wp2_with fail
            go_roundw
            case rel => exact ⟨j + 1, by omega, by go_num, hfr⟩
            case measure => simp [intOf]; omega
      · go_wp2_with fail
        have H5 : Hid (Below w4.heap.size w4 (wr.alloc (.cells #[.string ⟨#[60, 110, 110, 62]⟩, .string ⟨#[60, 110, 110, 62]⟩, .string ⟨#[63, 110]⟩] 42))) := Lib.hid (hfr.out.alloc hfr.out.size _)
        have O5 : OwnT wr.heap.size (wr.alloc (.cells #[.string ⟨#[60, 110, 110, 62]⟩, .string ⟨#[60, 110, 110, 62]⟩, .string ⟨#[63, 110]⟩] 42)) (.slice (some ⟨wr.heap.size, 0, none⟩) 1 1) [patN] := World.ownsRow_lit (size := 3) (e := 42) wr #[.string ⟨#[60, 110, 110, 62]⟩, .string ⟨#[60, 110, 110, 62]⟩, .string ⟨#[63, 110]⟩] 1 (Nat.le_refl _) (by decide) rfl
        obtain ⟨a5, c5, e5, i5⟩ := O5.is (fun t ht => by have := patN_small t ht; unfold maxLen; omega)
        simp only [Value.slice.injEq] at e5
        obtain ⟨e1, e2, e3⟩ := e5
        rw [← e1, ← e2, ← e3] at i5
        have KZ := Lib.hid (HZERO.out _ H5.out _ i5)
        clear O5 i5 e1 e2 e3 hlt
        refine KZ.out.mono ?_
        rintro e w7 ⟨v7, rfl, ⟨xa, xn, xc, rfl, hxn⟩, b7⟩
        have B9 := B1.trans ((E4.out.trans ((H5.out.trans (b7.mono H5.out.size)).mono E4.out.size)).mono B1.size)
        have hxn' : (xn : Int) ≤ (n : Int) := by omega
        clear b7 H5 KZ hfr
        go_wp2_with fail
        go_ret
        exact ⟨rfl, B9⟩
end fnExtended
end Go.Proofs.YtmiiaebelncdhaaGreat
