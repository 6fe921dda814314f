/- The walk of FnMoreRows. -/
import Derived.Test.YtmiiaebelncdhaaGreatG00
import Derived.Test.YtmiiaebelncdhaaGreatG34
import Derived.Test.YtmiiaebelncdhaaGreatG37
import Derived.Test.YtmiiaebelncdhaaGreatG35
import Derived.Test.YtmiiaebelncdhaaGreatG15
namespace Go.Proofs.YtmiiaebelncdhaaGreat
open Go.RowKit Go.WideShapes
namespace fnMoreRows
theorem smP_max {rs : List RowV} (h : ∀ r ∈ rs, SmP r) : ∀ r ∈ rs, ∀ t ∈ r, t.1.size ≤ maxLen ∧ t.2.size ≤ maxLen := fun r hr t ht => by
  have := h r hr t ht
  unfold maxLen
  omega
theorem rows_le {gs ls : List Tri3} (hl : ls.length ≤ 3) : ∀ r ∈ solR gs ls, r.length ≤ 12 := by
  cases h : solOk gs ls
  · intro r hr
    rw [solR_none h] at hr
    simp at hr
  · intro r hr
    exact rowOk_most ((solR_row h r hr).ok (by omega))
theorem got_is {w : World} {a : Option Addr} {n c : Nat} {ts : List Tri3} (h : GotG w (.slice a n c) ts) : ts.length = n ∧ IsTris w a n c ts ∧ SmG ts := by
  obtain ⟨x, c', hv, hi, hp, hs⟩ := h
  simp only [Value.slice.injEq] at hv
  obtain ⟨rfl, rfl, rfl⟩ := hv
  exact ⟨rfl, hi, hs⟩
theorem joinM_more {g h : List Tri3} {p : Tri3} {rows rows' : List RowV} (hg : ∀ t ∈ g, t ∈ h) (hr : ∀ r ∈ rows, r ∈ rows') : ∀ r ∈ joinM g p rows, r ∈ joinM h p rows' := by
  intro r hj
  obtain ⟨q, hq, t, ht, e⟩ := joinM_mem.1 hj
  exact joinM_mem.2 ⟨q, hr q hq, t, hg t ht, e⟩
theorem contM_more {g h : List Tri3} (hg : ∀ t ∈ g, t ∈ h) : ∀ (l : List Tri3) (rows rows' R R' : List RowV), (∀ r ∈ rows, r ∈ rows') → contM g l rows = some R → contM h l rows' = some R' → ∀ r ∈ R, r ∈ R'
  | [], rows, rows', R, R', hr, e, e' => by
    unfold contM at e e'
    cases e
    cases e'
    exact hr
  | p :: l, rows, rows', R, R', hr, e, e' => by
    unfold contM at e e'
    split at e
    · split at e'
      · exact contM_more hg l _ _ R R' (joinM_more hg hr) e e'
      · cases e'
    · cases e
/-- With more triples no row is lost. -/
theorem sol_more {g h l : List Tri3} (hg : ∀ t ∈ g, t ∈ h) (e : solOk g l = true) (e' : solOk h l = true) : ∀ r ∈ solR g l, r ∈ solR h l := by
  obtain ⟨_, _, R, h1, h2, h3, h4⟩ := solR_cases e
  obtain ⟨_, _, R', k1, k2, k3, k4⟩ := solR_cases e'
  intro r hr
  rw [h2] at hr
  rw [k2]
  exact (addAllR_iff k3 k4 r).2 (contM_more hg l _ _ R R' (fun r hr => hr) h1 k1 r ((addAllR_iff h3 h4 r).1 hr))
def anyR (r : RowV) (ms : List RowV) : Bool := ms.any (fun s => decide (r = s))
theorem anyR_snoc (r s : RowV) (ms : List RowV) : anyR r (ms ++ [s]) = (anyR r ms || decide (r = s)) := by simp [anyR]
theorem anyR_in {r : RowV} {ms : List RowV} (h : r ∈ ms) : anyR r ms = true := by
  unfold anyR
  rw [List.any_eq_true]
  exact ⟨r, h, decide_eq_true rfl⟩
theorem anyR_step {r s : RowV} {ms : List RowV} {k : Nat} (h : ms[k]? = some s) : anyR r (ms.take (k + 1)) = (anyR r (ms.take k) || decide (r = s)) := by
  obtain ⟨hk, rfl⟩ := List.getElem?_eq_some_iff.1 h
  rw [List.take_succ_eq_append_getElem hk, anyR_snoc]
set_option maxRecDepth 100000 in
set_option maxHeartbeats 12800000 in
theorem walk (a : Option Addr) (len cap : Nat) (zs : List Int) (w : World) (hrow : Frame.IsRow .u8 w a len cap zs) :
    Calls Tryz.prog 5 #[.slice a len cap] w fun e w' => e = .returned (.bool true) ∧ Below w.heap.size w w' := by
  have hlen : len ≤ 9223372036854775807 := by
    rcases hrow with ⟨_, rfl, _⟩ | ⟨y, _, h1, h2, _⟩
    · omega
    · unfold maxLen at h2; omega
  by_cases hbig : (1048576 : Int) < len
  · go_enter Tryz.func5, Tryz.ntmps5
    go_wp2_with go_in
    go_ret
    exact ⟨rfl, Below.refl _ _⟩
  have HROW := Lib.hid hrow
  clear hrow
  go_enter Tryz.func5, Tryz.ntmps5
  go_wp2_with (go_at_call 9; go_in)
  refine (drawSolutions _ _ _ _ _ HROW.out).mono ?_
  rintro e w1 ⟨v, u, gs, ls, rfl, hG, hL, hl3, g1⟩
  obtain ⟨xg, cg, rfl⟩ := hG.shape
  obtain ⟨xl, cl, rfl⟩ := hL.shape
  have HR1 := Lib.hid (isRow_grown HROW.out g1)
  have B1 := below_of_grown g1
  have hng : gs.length ≤ 81 := by obtain ⟨_, _, _, _, _, h⟩ := hG; exact h.1
  have hnl : ls.length ≤ 3 := hl3.2
  have HL3' := Lib.hid hl3.2
  have HSG : Hid (SmG gs) := Lib.hid (by obtain ⟨_, _, _, _, _, h⟩ := hG; exact h)
  have HSL : Hid (SmG ls) := Lib.hid (by obtain ⟨_, _, _, _, _, h⟩ := hL; exact h)
  obtain ⟨ng, hn1⟩ : ∃ n, gs.length = n := ⟨_, rfl⟩
  obtain ⟨nl, hn2⟩ : ∃ n, ls.length = n := ⟨_, rfl⟩
  rw [hn1] at hG hng ⊢
  rw [hn2] at hL hnl ⊢
  have HG1 := Lib.hid hG
  have HL1 := Lib.hid hL
  clear hG hL hn1 hn2 hl3 g1 hbig hlen
  go_wp2_with fail
  refine (drawWith _ _ _ _ _ HR1.out).mono ?_
  rintro e w2 ⟨va, ts, s, p, o, rfl, _, hs, hp, ho, g2⟩
  have b2 := below_of_grown g2
  obtain ⟨W3, hW3⟩ : ∃ W, w2.alloc (.cells #[.string s, .string p, .string o] 42) = W := ⟨_, rfl⟩
  have X3 := Box.new w2 (.string s) (.string p) (.string o) 42
  have b3 : Below w2.heap.size w2 W3 := by rw [← hW3]; exact (Below.refl w2.heap.size w2).alloc (Nat.le_refl _) _
  rw [hW3] at X3
  have E3 := b2.trans (b3.mono b2.size)
  have HG3 := Lib.hid (HG1.out.next E3)
  have HL3 := Lib.hid (HL1.out.next E3)
  have B3 := Lib.hid (B1.trans (E3.mono B1.size))
  obtain ⟨r, hr⟩ : ∃ r, withT gs (s, p, o) = r := ⟨_, rfl⟩
  have D1 : Hid (∀ w, GotG w (.slice xg ng cg) gs → Calls Tryz.prog 26 #[.slice xg ng cg, .agg #[.string s, .string p, .string o]] w fun e w' => ∃ z, e = .returned (.tuple #[z, .bool r.isSome]) ∧ GotG w' z (r.getD []) ∧ Below w.heap.size w w') := Lib.hid (fun w h => by rw [← hr]; exact implWithG h hs hp ho)
  have D2 : Hid (∀ w, GotG w (.slice xg ng cg) gs → Calls Tryz.prog 27 #[.slice xg ng cg, .agg #[.string s, .string p, .string o]] w fun e w' => ∃ z, e = .returned (.tuple #[z, .bool r.isSome]) ∧ GotG w' z (r.getD []) ∧ Below w.heap.size w w') := Lib.hid (fun w h => by rw [← hr]; exact specWithG h hs hp ho)
  have HSUB : Hid (r.isSome = true → ∀ u ∈ gs, u ∈ r.getD []) := Lib.hid (fun h u hu => by
    cases r with
    | none => cases h
    | some g => exact (with_less hr).2.2.2.2.1 u hu)
  obtain ⟨c0, c1, c2⟩ := X3.cells
  have HX3 := Lib.hid X3
  clear hr g2 b2 b3 E3 B1 HR1 HG1 HL1 X3 hs hp ho
  generalize r.isSome = fi at D1 D2 HSUB
  generalize r.getD [] = hs at D1 D2 HSUB
  go_wp2_with fail
  refine (D1.out _ HG3.out).mono ?_
  rintro e w4 ⟨vh, rfl, hH, b4⟩
  obtain ⟨xh, ch, rfl⟩ := hH.shape
  have HSH : Hid (SmG hs) := Lib.hid (by obtain ⟨_, _, _, _, _, h⟩ := hH; exact h)
  obtain ⟨nh, hn3⟩ : ∃ n, hs.length = n := ⟨_, rfl⟩
  rw [hn3] at hH ⊢
  have HH4 := Lib.hid hH
  have HG4 := Lib.hid (HG3.out.next b4)
  have HL4 := Lib.hid (HL3.out.next b4)
  have HX4 := Lib.hid (HX3.out.next b4)
  have B4 := Lib.hid (B3.out.trans (b4.mono B3.out.size))
  clear hH hn3 b4 c0 c1 c2 HG3 HL3 HX3 B3 D1
  obtain ⟨c0, c1, c2⟩ := HX4.out.cells
  go_wp2_with fail
  refine (D2.out _ HG4.out).mono ?_
  rintro e w5 ⟨vx, rfl, _, b5⟩
  have HH5 := Lib.hid (HH4.out.next b5)
  have HG5 := Lib.hid (HG4.out.next b5)
  have HL5 := Lib.hid (HL4.out.next b5)
  have B5 := Lib.hid (B4.out.trans (b5.mono B4.out.size))
  have hnh : nh ≤ 81 := by obtain ⟨h1, _, h2⟩ := got_is HH5.out; have := h2.1; omega
  clear b5 c0 c1 c2 HG4 HL4 HX4 HH4 B4 D2
  have CA := Lib.hid (fun W (h : Below w5.heap.size w5 W) => implSolutions xg xl ng cg nl cl gs ls W (got_is (HG5.out.next h)).2.1 (got_is (HL5.out.next h)).2.1 HSG.out.t HSL.out.t)
  have CB := Lib.hid (fun W (h : Below w5.heap.size w5 W) => implSolutions xh xl nh ch nl cl hs ls W (got_is (HH5.out.next h)).2.1 (got_is (HL5.out.next h)).2.1 HSH.out.t HSL.out.t)
  have HSR := Lib.hid (solR_small (gs := gs) (ls := ls) HSG.out.t HSL.out.t)
  have HSM := Lib.hid (solR_small (gs := hs) (ls := ls) HSH.out.t HSL.out.t)
  go_wp2_with fail
  refine (CA.out _ (by first | exact Below.refl _ _ | exact Below.drew (Below.refl _ _))).mono ?_
  rintro e w6 ⟨v6, rfl, o6, b6⟩
  obtain ⟨px, pc, rfl, i6⟩ := o6.is (smP_max HSR.out)
  have E6 : Hid (Below w5.heap.size w5 w6) := Lib.hid (by first | exact b6 | exact (Below.drew (Below.refl _ _)).trans b6)
  obtain ⟨pn, hpn⟩ : ∃ n, (solR gs ls).length = n := ⟨_, rfl⟩
  rw [hpn] at i6 ⊢
  have hpn3 : pn ≤ 300 := by rw [← hpn]; exact solR_len
  have HP6 := Lib.hid i6
  have HPN := Lib.hid hpn
  clear i6 o6 b6 hpn CA
  go_wp2_with fail
  refine (CB.out _ (by first | exact E6.out | exact E6.out.drew)).mono ?_
  rintro e w7 ⟨v7, rfl, o7, b7⟩
  obtain ⟨mx, mc, rfl, i7⟩ := o7.is (smP_max HSM.out)
  have b7' : Below w6.heap.size w6 w7 := by first | exact b7 | exact (Below.drew (Below.refl _ _)).trans b7
  obtain ⟨mn, hmn⟩ : ∃ n, (solR hs ls).length = n := ⟨_, rfl⟩
  rw [hmn] at i7 ⊢
  have hmn3 : mn ≤ 300 := by rw [← hmn]; exact solR_len
  have HM7 := Lib.hid i7
  have HP7 := Lib.hid (HP6.out.next b7')
  have HMN := Lib.hid hmn
  have B7 := Lib.hid (B5.out.trans ((E6.out.trans (b7'.mono E6.out.size)).mono B5.out.size))
  clear i7 o7 b7 b7' hmn CB E6 HP6 HH5 HG5 HL5
  have HRL : Hid (∀ r ∈ solR gs ls, r.length ≤ 1048576) := Lib.hid (fun r hr => by
    have h1 := rows_le (gs := gs) HL3'.out r hr
    omega)
  have HML : Hid (∀ r ∈ solR hs ls, r.length ≤ 1048576) := Lib.hid (fun r hr => by
    have h1 := rows_le (gs := hs) HL3'.out r hr
    omega)
  have HMORE : Hid (fi = true → solOk gs ls = true → solOk hs ls = true → ∀ r ∈ solR gs ls, r ∈ solR hs ls) := Lib.hid (fun h1 h2 h3 => sol_more (HSUB.out h1) h2 h3)
  generalize solR gs ls = rs at HP7 HPN HRL HMORE
  generalize solR hs ls = ms at HM7 HMN HML HMORE
  generalize solOk gs ls = ok1 at HMORE
  generalize solOk hs ls = ok2 at HMORE
  cases fi
  · go_wp2_with fail
    go_ret
    exact ⟨rfl, B7.out⟩
  cases ok1
  · go_wp2_with fail
    go_ret
    exact ⟨rfl, B7.out⟩
  cases ok2
  · go_wp2_with fail
    go_ret
    exact ⟨rfl, B7.out⟩
  have HIN : Hid (∀ r ∈ rs, r ∈ ms) := Lib.hid (HMORE.out rfl rfl rfl)
  clear HMORE HSUB HSR HSM
  go_wp2_with fail
  go_loopw [15] (fun i wr => ∃ j : Nat, j ≤ pn ∧ i = .int .i64 j ∧ Hid (Below w7.heap.size w7 wr)) (fun i _ => pn - (intOf i).toNat)
  case atStart => exact ⟨0, Nat.zero_le _, rfl, Lib.hid (Below.refl _ _)⟩
  case round =>
    obtain ⟨j, hj, rfl, hfr⟩ := hrel
    have hj6 : (0 : Int) ≤ (j : Int) := by omega
    by_cases hlt : j < pn
    · have hj7 : (j : Int) < (pn : Int) := by omega
      obtain ⟨b, off, rfl, hb, _, _, hl, hc⟩ := HP7.out.cells (by omega)
      have ht : rs[j]? = some (rs[j]'(by omega)) := List.getElem?_eq_getElem (by omega)
      obtain ⟨ra, rn, rc, c0, hz⟩ := hc j _ ht
      have hrl := HRL.out _ (List.mem_of_getElem? ht)
      have HRM := Lib.hid (anyR_in (HIN.out _ (List.mem_of_getElem? ht)))
      generalize rs[j]'(by omega) = r at ht hz hrl HRM
      have hrn : rn ≤ 1048576 := by have := hz.len; omega
      have HZ := Lib.hid hz
      have HC0 := Lib.hid c0
      clear ht hc hl hz c0 hrl
      go_wp2_with fail
      go_loopw [16, 17] (fun th i wr => ∃ k : Nat, k ≤ mn ∧ i = .int .i64 k ∧ Hid (th = .bool (anyR r (ms.take k))) ∧ Hid (Below w7.heap.size w7 wr)) (fun _ i _ => mn - (intOf i).toNat)
      case atStart => exact ⟨0, Nat.zero_le _, rfl, Lib.hid rfl, hfr⟩
      case round =>
        clear hfr
        obtain ⟨k, hk, rfl, hth, hfr⟩ := hrel
        have hk6 : (0 : Int) ≤ (k : Int) := by omega
        by_cases hlt2 : k < mn
        · have hk7 : (k : Int) < (mn : Int) := by omega
          obtain ⟨b2, off2, rfl, hb2, _, _, hl2, hc2⟩ := HM7.out.cells (by omega)
          have ht : ms[k]? = some (ms[k]'(by omega)) := List.getElem?_eq_getElem (by omega)
          obtain ⟨sa, sn, sc, d0, hy⟩ := hc2 k _ ht
          have hsl := HML.out _ (List.mem_of_getElem? ht)
          have HST := Lib.hid (anyR_step (r := r) ht)
          generalize ms[k]'(by omega) = s' at ht hy hsl HST
          have hsn : sn ≤ 1048576 := by have := hy.len; omega
          have CD := Lib.hid (fun W (h : Below w7.heap.size w7 W) => lawRow ra sa rn rc sn sc r s' W (HZ.out.next h) (hy.next h) hrn hsn)
          have ALL : Hid (∀ W, Below w7.heap.size w7 W → W.cell? ⟨b, off + j, none⟩ = some (.slice ra rn rc) ∧ W.cell? ⟨b2, off2 + k, none⟩ = some (.slice sa sn sc)) := Lib.hid (fun W h => ⟨(h.cell (p := ⟨b, off + j, none⟩) hb).trans HC0.out, (h.cell (p := ⟨b2, off2 + k, none⟩) hb2).trans d0⟩)
          have HB : Hid (∀ n, Below w7.heap.size w7 (wr.drewN n)) := Lib.hid (fun n => below_drewN hfr.out n)
          clear ht hc2 hl2 hy hsl d0
          cases hq : anyR r (ms.take k)
          · have hth' := hth.out
            rw [hq] at hth' HST
            rw [Bool.false_or] at HST
            subst hth'
            generalize decide (r = s') = q at CD HST
            have E0 := Lib.hid (Below.drew hfr.out)
            obtain ⟨y0, y1⟩ := ALL.out _ E0.out
            clear hth hq hfr HB
            go_wp2_with fail
            go_region_held3 (fun w' => w'.cell? ⟨b, off + j, none⟩ = some (.slice ra rn rc) ∧ w'.cell? ⟨b2, off2 + k, none⟩ = some (.slice sa sn sc))
              (first | with_reducible exact ALL.out _ E2.out | with_reducible exact ALL.out _ E0.out)
              (first
                | (go_at_call 23; refine (CD.out _ E0.out).mono ?_; rintro e wa ⟨rfl, ha⟩; have E2 := Lib.hid (E0.out.trans (ha.mono E0.out.size))))
            clear ha E0 y0 y1 CD ALL
            go_wp2_with fail
            go_roundw
            case rel => exact ⟨k + 1, by omega, by go_num, Lib.hid (by rw [HST.out]), E2⟩
            case measure => simp [intOf]; omega
          · have hth' := hth.out
            rw [hq] at hth' HST
            rw [Bool.true_or] at HST
            subst hth'
            clear hth hq hfr CD ALL
            go_wp2_with fail
            go_quiet (fail)
            go_wp2_with fail
            go_roundw
            case rel => exact ⟨k + 1, by omega, by go_num, Lib.hid (by rw [HST.out]), Lib.hid (HB.out _)⟩
            case measure => simp [intOf]; omega
        · have hth' := hth.out
          rw [List.take_of_length_le (by have := HMN.out; omega), HRM.out] at hth'
          subst hth'
          clear hth hk6
          go_wp2_with fail
          go_roundw
          case rel => exact ⟨j + 1, by omega, by go_num, hfr⟩
          case measure => simp [intOf]; omega
    · go_wp2_with fail
      go_ret
      exact ⟨rfl, B7.out.trans (hfr.out.mono B7.out.size)⟩
end fnMoreRows
end Go.Proofs.YtmiiaebelncdhaaGreat
