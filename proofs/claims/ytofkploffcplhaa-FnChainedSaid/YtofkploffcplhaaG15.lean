/- What a drawn graph is: a slice of the call's own, of a bounded length, of texts of a bounded length. -/
import Derived.Test.YtofkploffcplhaaG09
import Derived.Test.YtofkploffcplhaaG14
import Derived.Test.YtofkploffcplhaaG08
import Derived.Test.YtofkploffcplhaaG13
import Derived.Deep.RegionWith
import Derived.Test.YtofkploffcplhaaG12
import Derived.Test.YtofkploffcplhaaG10
import Derived.Test.YtofkploffcplhaaG01
import Derived.Deep.QuietTactic
import Derived.BigQuiet
import Derived.Laws.AppendOwnNone
import Derived.Deep.RegionHeld3
namespace Go.Proofs.Ytofkploffcplhaa
open Go.RowKit Go.WideShapes
theorem SmG.with_ {ts : List Tri3} {t : Tri3} (h : SmG ts) (ht : t.1.size ≤ 20 ∧ t.2.1.size ≤ 20 ∧ t.2.2.size ≤ 20) : SmG ((withT ts t).getD []) ∧ ((withT ts t).getD []).length ≤ 80 := by
  cases e : withT ts t with
  | none => exact ⟨⟨by simp, by simp⟩, by simp⟩
  | some g =>
    obtain ⟨_, _, rfl, hg⟩ := withT_some e
    have hl := graphOk_len hg
    refine ⟨⟨by simp only [Option.getD_some]; omega, fun u hu => ?_⟩, hl⟩
    rcases putT_mem.1 hu with rfl | hu
    · exact ht
    · exact h.2 u hu
theorem rd_far {B g : Nat} {w w' : World} (h : Rd B w g) (hb : Below w.heap.size w w') : Rd B w' g := h.grown (grown_of_below hb) (by simp)
set_option maxRecDepth 100000 in
set_option maxHeartbeats 1600000 in
theorem rdGraph (B g : Nat) (w : World) (h : Rd B w g) (n : Nat) (hn : n ≤ 1000) :
    Calls Try.prog 53 #[.pointer (some ⟨g, 0, none⟩), .int .i64 n] w fun e w' => ∃ (v : Value) (ts : List Tri3), e = .returned v ∧ SmG ts ∧ OwnT w.heap.size w' v ts ∧ Rd B w' g ∧ w.grownBy w' (some g) := by
  obtain ⟨i0, hi, hz0, hz1, hzB⟩ := info_parts infoTri
  have hgw := h.2.1
  have hBg := h.1
  have R0 := h.alloc (.cells #[] 55)
  have G0 := World.grownBy_alloc w (.cells #[] 55) (some g)
  have O0 : OwnT w.heap.size (w.alloc (.cells #[] 55)) (.slice (some ⟨w.heap.size, 0, none⟩) 0 0) [] := World.ownsRow_lit (size := 3) (e := 55) w #[] 0 (Nat.le_refl _) (by decide) rfl
  have RB := rdBelow B g _ R0 ((n : Int) + 1) (by omega) (by omega)
  have HRB := Lib.hid RB
  have HO := Lib.hid O0
  clear O0 RB R0
  go_enter Try.func53, Try.ntmps53
  go_wp2_with fail
  refine HRB.out.mono ?_
  rintro e w1 ⟨m, hm0, hm1, rfl, r1, g1⟩
  have G1 := G0.trans g1
  have O1 := World.ownsRow.kept HO.out g1 (.inr (by simp [Value.ownBlock]; omega))
  obtain ⟨m, rfl⟩ := Int.eq_ofNat_of_zero_le hm0
  have hm2 : m ≤ n := by omega
  have HR1 := Lib.hid r1
  have HO1 := Lib.hid O1
  clear g1 G0 HO O1 r1 HRB hm0 hm1
  go_wp2_with fail
  go_loopw [5, 6] (fun v' i wr => ∃ (j : Nat) (v : Value) (ts : List Tri3), j ≤ n ∧ i = .int .i64 j ∧ v = v' ∧ Hid (SmG ts ∧ ts.length ≤ 80) ∧ Hid (OwnT w.heap.size wr v ts) ∧ Hid (Rd B wr g) ∧ w.grownBy wr (some g)) (fun _ i _ => (intOf i).toNat)
  case atStart => exact ⟨m, _, [], hm2, rfl, rfl, Lib.hid ⟨⟨by simp, by simp⟩, by simp⟩, HO1, HR1, G1⟩
  case round =>
    obtain ⟨j, v, ts, hj, rfl, rfl, hsm, hown, hrd, hg⟩ := hrel
    clear HO1 HR1 G1 hm2
    obtain ⟨x, y, rfl, ii, pl⟩ := OwnT.plain hown.out hsm.out.1.maxLen
    have hlt := fun j hj => (World.ownsRow.lt hown.out j hj).1
    by_cases hj0 : 0 < j
    · have hj1 : (0 : Int) < (j : Int) := by omega
      have HT := Lib.hid (rdTriple B g wr hrd.out)
      have HI := Lib.hid ii
      have HP := Lib.hid pl
      clear ii pl
      obtain ⟨L, hL⟩ : ∃ L, ts.length = L := ⟨_, rfl⟩
      rw [hL] at HI hlt ⊢
      have HL := Lib.hid hL
      have hL80 : L ≤ 80 := by have := hsm.out.2; omega
      clear hL
      go_wp2_with fail
      refine HT.out.mono ?_
      rintro e w2 ⟨s, p, o, hs, hp, ho, rfl, r2, g2⟩
      have G2 := hg.trans g2
      have O2 : OwnT w.heap.size w2 (.slice x L y) ts := by
        have := World.ownsRow.kept hown.out g2 (by
          rw [HL.out]
          rcases hv : (Value.slice x L y).ownBlock with _ | q
          · exact .inl rfl
          · refine .inr fun e => ?_
            have := hlt q hv
            cases e
            omega)
        unfold OwnT at this ⊢
        rw [HL.out] at this ⊢
        exact this
      obtain ⟨x2, y2, hv2, i2, p2⟩ := OwnT.plain O2 hsm.out.1.maxLen
      rw [HL.out] at hv2 i2
      simp only [Value.slice.injEq, true_and] at hv2
      obtain ⟨rfl, rfl⟩ := hv2
      have C := specWith x L y ts s p o w2 i2 p2 hsm.out.1.sm (by omega) (by omega) (by omega)
      have HW := hsm.out.1.with_ (t := (s, p, o)) ⟨hs.2, hp, ho⟩
      obtain ⟨r, hr⟩ : ∃ r, withT ts (s, p, o) = r := ⟨_, rfl⟩
      rw [hr] at C HW
      have HC := Lib.hid C
      have HWW := Lib.hid HW
      have HR2 := Lib.hid r2
      have HO2 := Lib.hid O2
      clear hrd hown g2 r2 i2 p2 C hr hs hp ho O2 HT HI HP HW hg
      cases r with
      | none =>
        go_wp2_with fail
        refine HC.out.mono ?_
        rintro e w3 ⟨v3, rfl, o3, hb3⟩
        have G3 := G2.trans (grown_any (grown_of_below hb3) (some g))
        have R3 := Lib.hid (rd_far HR2.out hb3)
        have O3 := Lib.hid (own_next HO2.out (grown_of_below hb3))
        clear o3 hb3 HC HWW HR2 HO2 G2
        go_wp2_with fail
        go_roundw
        case rel => exact ⟨j - 1, .slice x L y, ts, by omega, by rw [show ((j - 1 : Nat) : Int) = (j : Int) - 1 from by omega], rfl, hsm, O3, R3, G3⟩
        case measure => simp [intOf]; omega
      | some us =>
        go_wp2_with fail
        refine HC.out.mono ?_
        rintro e w3 ⟨v3, rfl, o3, hb3⟩
        have G3 := G2.trans (grown_any (grown_of_below hb3) (some g))
        have R3 := Lib.hid (rd_far HR2.out hb3)
        have O3 := Lib.hid (own_base o3 G2.size)
        clear o3 hb3 HC HR2 HO2 G2
        go_wp2_with fail
        go_roundw
        case rel => exact ⟨j - 1, v3, us, by omega, by rw [show ((j - 1 : Nat) : Int) = (j : Int) - 1 from by omega], rfl, HWW, O3, R3, G3⟩
        case measure => simp [intOf]; omega
    · obtain rfl : j = 0 := by omega
      have HO := Lib.hid (rdOnce B g wr hrd.out 40 (by omega) (by omega))
      obtain ⟨L, hL⟩ : ∃ L, ts.length = L := ⟨_, rfl⟩
      rw [hL] at ii hlt ⊢
      have HL := Lib.hid hL
      have hL80 : L ≤ 80 := by have := hsm.out.2; omega
      clear hL ii pl
      go_wp2_with fail
      refine HO.out.mono ?_
      rintro e w2 ⟨bb, rfl, r2, g2⟩
      have G2 := hg.trans g2
      have O2 : OwnT w.heap.size w2 (.slice x L y) ts := by
        have := World.ownsRow.kept hown.out g2 (by
          rw [HL.out]
          rcases hv : (Value.slice x L y).ownBlock with _ | q
          · exact .inl rfl
          · refine .inr fun e => ?_
            have := hlt q hv
            cases e
            omega)
        unfold OwnT at this ⊢
        rw [HL.out] at this ⊢
        exact this
      have HR2 := Lib.hid r2
      have HO2 := Lib.hid O2
      clear hrd hown g2 r2 HO hg
      cases bb
      · go_wp2_with fail
        go_ret
        exact ⟨_, ts, rfl, hsm.out.1, HO2.out, HR2.out, G2⟩
      · by_cases hL0 : 0 < L
        · have hL1 : (0 : Int) < (L : Int) := by omega
          obtain ⟨x2, y2, hv2, i2⟩ := HO2.out.is hsm.out.1.maxLen
          rw [HL.out] at hv2 i2
          simp only [Value.slice.injEq, true_and] at hv2
          obtain ⟨rfl, rfl⟩ := hv2
          obtain ⟨b1, off, rfl, hb1, hl', hm, hts, hcs⟩ := i2.cells hL0
          have ht : ts[0]? = some (ts[0]'(by omega)) := List.getElem?_eq_getElem (by omega)
          obtain ⟨c0, c1, c2, m0, m1, m2⟩ := hcs 0 _ ht
          have hu := hsm.out.1.2 _ (List.mem_of_getElem? ht)
          generalize ts[0]'(by omega) = u at ht c0 c1 c2 m0 m1 m2 hu
          simp only [Nat.zero_mul, Nat.add_zero] at c0 c1 c2
          have HS : Hid (SmG (ts ++ [u])) := Lib.hid ⟨by rw [List.length_append, HL.out]; simp; omega, fun t ht => by
            rcases List.mem_append.1 ht with h | h
            · exact hsm.out.1.2 t h
            · obtain rfl := List.mem_singleton.1 h
              exact hu⟩
          have HC : ∀ (j : Nat) (z : Value), [Value.string u.1, .string u.2.1, .string u.2.2][j]? = some z → (w2.alloc (.cells #[.string u.1, .string u.2.1, .string u.2.2] 55)).cell? ((⟨w2.heap.size, 0, none⟩ : Addr).add j) = some z := three_cell
          have HH := Lib.hid HC
          have OA := Lib.hid (World.ownsRow.alloc HO2.out (.cells #[.string u.1, .string u.2.1, .string u.2.2] 55))
          have RA := Lib.hid (HR2.out.alloc (.cells #[.string u.1, .string u.2.1, .string u.2.2] 55))
          have GA := G2.trans (World.grownBy_alloc w2 (.cells #[.string u.1, .string u.2.1, .string u.2.2] 55) (some g))
          have hz2 := G2.size
          clear ht hcs hts hm m0 m1 m2 hu HC HO2 HR2 G2 hsm i2
          go_wp2_with (at_builtin; refine wpList_append_own _ rfl _ _ 27 rfl w.heap.size 55 i0 (.agg #[.string ⟨#[]⟩, .string ⟨#[]⟩, .string ⟨#[]⟩]) 3 48 Try.underlying27 hi hz0 hz1 hzB rfl (by decide) _ _ _ rfl OA.out ⟨w2.heap.size, 0, none⟩ 1 _ [.string u.1, .string u.2.1, .string u.2.2] rfl rfl HH.out (by intro z hz; simp at hz; rcases hz with rfl | rfl | rfl <;> rfl) ?h63 ?h48 ?hbs ?_)
          case h63 => rw [HL.out]; unfold maxLen; omega
          case h48 => rw [HL.out]; omega
          case hbs => simp only [World.size_alloc]; omega
          intro v3 w3 hown3 hg3 _
          have O3 : OwnT w.heap.size w3 v3 (ts ++ [u]) := own3_snoc (t := u) hown3
          have R3 := RA.out.grown hg3 (fun q e => by have := hlt q (by simpa [HL.out] using e); omega)
          have G3 := grown_off GA hg3 (fun q e => by have := hlt q (by simpa [HL.out] using e); omega)
          clear hown3 hg3 OA RA HH GA c0 c1 c2
          go_wp2_with fail
          go_ret
          exact ⟨v3, _, rfl, HS.out, O3, R3, G3⟩
        · obtain rfl : L = 0 := by omega
          go_wp2_with fail
          go_ret
          exact ⟨_, ts, rfl, hsm.out.1, HO2.out, HR2.out, G2⟩
open Go.RowKit Go.WideShapes
set_option maxRecDepth 100000 in
set_option maxHeartbeats 1600000 in
theorem lawHas (a : Option Addr) (len cap : Nat) (ts : List Tri3) (s p o : ByteArray) (w : World) (h : IsTris w a len cap ts) (hl : len ≤ 1048576) :
    Calls Try.prog 35 #[.slice a len cap, .agg #[.string s, .string p, .string o]] w fun e w' => e = .returned (.bool (decide ((s, p, o) ∈ ts))) ∧ Below w.heap.size w w' := by
  have H := Lib.hid h
  have HT := Lib.hid h.len
  have B0 := (Below.refl w.heap.size w).alloc (Nat.le_refl _) (.cells #[.string s, .string p, .string o] 55)
  have X0 := Box.new w (.string s) (.string p) (.string o) 55
  clear h
  go_enter Try.func35, Try.ntmps35
  go_wp2_with fail
  go_loopw [5] (fun i wr => ∃ k : Nat, k ≤ len ∧ i = .int .i64 k ∧ Hid ((s, p, o) ∉ ts.take k) ∧ Hid (Box wr w.heap.size (.string s) (.string p) (.string o) 55) ∧ Below w.heap.size w wr) (fun i _ => len - (intOf i).toNat)
  case atStart => exact ⟨0, Nat.zero_le _, rfl, Lib.hid (by simp), Lib.hid X0, B0⟩
  case round =>
    obtain ⟨k, hk, rfl, hnot, hbox, hnx⟩ := hrel
    clear X0 B0
    have hk6 : (0 : Int) ≤ (k : Int) := by omega
    have hk8 : k ≤ 1048576 := by omega
    by_cases hlt : k < len
    · have hk7 : (k : Int) < (len : Int) := by omega
      obtain ⟨b, off, rfl, hb, hl', hm, hts, hcs⟩ := H.out.cells (by omega)
      have ht : ts[k]? = some (ts[k]'(by omega)) := List.getElem?_eq_getElem (by omega)
      have HS : Hid (ts.take (k + 1) = ts.take k ++ [ts[k]'(by omega)]) := Lib.hid (List.take_succ_eq_append_getElem (by omega))
      obtain ⟨d0, d1, d2, m0, m1, m2⟩ := hcs k _ ht
      rw [← hnx.cell (p := ⟨b, _, none⟩) hb] at d0 d1 d2
      generalize ts[k]'(by omega) = u at ht d0 d1 d2 m0 m1 m2 HS
      obtain ⟨c0, c1, c2⟩ := hbox.out.cells
      by_cases he : u = (s, p, o)
      · subst he
        have HR : Hid (decide ((s, p, o) ∈ ts) = true) := Lib.hid (decide_eq_true (List.mem_of_getElem? ht))
        have EQ := tri_is s p o
        simp only at d0 d1 d2
        clear ht hts hcs hm m0 m1 m2 hl' hnot HS
        go_wp2_with fail
        go_quiet (fail)
        clear EQ
        go_wp2_with fail
        go_ret
        exact ⟨by rw [HR.out]; rfl, below_drewN hnx nq⟩
      · have EQ := tri_isnt he
        simp only at EQ
        have HN : Hid ((s, p, o) ∉ ts.take (k + 1)) := Lib.hid (by
          rw [HS.out, List.mem_append]
          rintro (h | h)
          · exact hnot.out h
          · exact he (List.mem_singleton.1 h).symm)
        have X1 : Hid (∀ n, Box (wr.drewN n) w.heap.size (.string s) (.string p) (.string o) 55) := Lib.hid (fun n => hbox.out)
        have HB : Hid (∀ n, Below w.heap.size w (wr.drewN n)) := Lib.hid (fun n => below_drewN hnx n)
        clear ht hts hcs hm m0 m1 m2 hl' hnot HS he
        go_wp2_with fail
        go_quiet (fail)
        clear EQ
        go_wp2_with fail
        go_roundw
        case rel => exact ⟨k + 1, by omega, by go_num, HN, Lib.hid (X1.out _), HB.out _⟩
        case measure => simp [intOf]; omega
    · obtain rfl : k = len := by omega
      have HR : Hid (decide ((s, p, o) ∈ ts) = false) := Lib.hid (decide_eq_false (by
        have := hnot.out
        rwa [List.take_of_length_le (by rw [HT.out]; exact Nat.le_refl _)] at this))
      go_wp2_with fail
      go_ret
      exact ⟨by rw [HR.out]; rfl, hnx⟩
instance triList (ts us : List Tri3) : Decidable (ts = us) := decidable_of_iff (ts.length = us.length ∧ ∀ i, i < ts.length → ts[i]? = us[i]?) ⟨fun ⟨h, g⟩ => List.ext_getElem? fun i => by
  rcases Nat.lt_or_ge i ts.length with c | c
  · exact g i c
  · rw [List.getElem?_eq_none c, List.getElem?_eq_none (by omega)], fun h => by subst h; exact ⟨rfl, fun _ _ => rfl⟩⟩
set_option maxRecDepth 100000 in
set_option maxHeartbeats 1600000 in
theorem lawSame (a b : Option Addr) (la ca lb cb : Nat) (ts us : List Tri3) (w : World) (h : IsTris w a la ca ts) (k : IsTris w b lb cb us) (hl : la ≤ 1048576) (kl : lb ≤ 1048576) :
    Calls Try.prog 33 #[.slice a la ca, .slice b lb cb] w fun e w' => e = .returned (.bool (decide (ts = us))) ∧ Below w.heap.size w w' := by
  have H := Lib.hid h
  have K := Lib.hid k
  have HT := Lib.hid h.len
  have KT := Lib.hid k.len
  clear h k
  by_cases hne : la = lb
  rotate_left
  · have hb : ((la : Int) != (lb : Int)) = true := by rw [bne_iff_ne]; omega
    have HR : Hid (decide (ts = us) = false) := Lib.hid (decide_eq_false (fun e => hne (by rw [← HT.out, ← KT.out, e])))
    clear hne
    go_enter Try.func33, Try.ntmps33
    go_wp2_with fail
    go_ret
    exact ⟨by rw [HR.out]; rfl, Below.refl _ _⟩
  subst hne
  go_enter Try.func33, Try.ntmps33
  go_wp2_with fail
  go_loopw [5] (fun i wr => ∃ j : Nat, j ≤ la ∧ i = .int .i64 j ∧ Hid (ts.take j = us.take j) ∧ Below w.heap.size w wr) (fun i _ => la - (intOf i).toNat)
  case atStart => exact ⟨0, Nat.zero_le _, rfl, Lib.hid rfl, Below.refl _ _⟩
  case round =>
    obtain ⟨j, hj, rfl, hyes, hnx⟩ := hrel
    have hj6 : (0 : Int) ≤ (j : Int) := by omega
    by_cases hlt : j < la
    · have hj7 : (j : Int) < (la : Int) := by omega
      obtain ⟨b1, off, rfl, hb, hl', hm, hts, hcs⟩ := H.out.cells (by omega)
      obtain ⟨b2, off2, rfl, hb2, hl2', hm2, hts2, hcs2⟩ := K.out.cells (by omega)
      have ht : ts[j]? = some (ts[j]'(by omega)) := List.getElem?_eq_getElem (by omega)
      have hu : us[j]? = some (us[j]'(by omega)) := List.getElem?_eq_getElem (by omega)
      have HS : Hid (ts.take (j + 1) = ts.take j ++ [ts[j]'(by omega)]) := Lib.hid (List.take_succ_eq_append_getElem (by omega))
      have KS : Hid (us.take (j + 1) = us.take j ++ [us[j]'(by omega)]) := Lib.hid (List.take_succ_eq_append_getElem (by omega))
      obtain ⟨c0, c1, c2, m0, m1, m2⟩ := hcs j _ ht
      obtain ⟨d0, d1, d2, n0, n1, n2⟩ := hcs2 j _ hu
      rw [← hnx.cell (p := ⟨b1, _, none⟩) hb] at c0 c1 c2
      rw [← hnx.cell (p := ⟨b2, _, none⟩) hb2] at d0 d1 d2
      generalize ts[j]'(by omega) = t at ht c0 c1 c2 m0 m1 m2 HS
      generalize us[j]'(by omega) = u at hu d0 d1 d2 n0 n1 n2 KS
      have HB : Hid (∀ n, Below w.heap.size w (wr.drewN n)) := Lib.hid (fun n => below_drewN hnx n)
      by_cases he : t = u
      · subst he
        have EQ := tri_same t.1 t.2.1 t.2.2
        have HY : Hid (ts.take (j + 1) = us.take (j + 1)) := Lib.hid (by rw [HS.out, KS.out, hyes.out])
        clear ht hu hts hts2 hcs hcs2 hm hm2 m0 m1 m2 n0 n1 n2 hl' hl2' HS KS hyes hnx
        go_wp2_with fail
        go_quiet (fail)
        clear EQ
        go_wp2_with fail
        go_roundw
        case rel => exact ⟨j + 1, by omega, by go_num, HY, HB.out _⟩
        case measure => simp [intOf]; omega
      · have EQ : ∀ w, (binOp .neq 55 (.agg #[.string t.1, .string t.2.1, .string t.2.2]) (.agg #[.string u.1, .string u.2.1, .string u.2.2])).run Try.prog w = .ok (.bool true) w := fun w => by rw [tri_ne, tri_not he]; rfl
        have HR : Hid (decide (ts = us) = false) := Lib.hid (decide_eq_false (fun e => by
          rw [e, hu] at ht
          exact he (Option.some.inj ht).symm))
        clear ht hu hts hts2 hcs hcs2 hm hm2 m0 m1 m2 n0 n1 n2 hl' hl2' HS KS hyes hnx he
        go_wp2_with fail
        go_quiet (fail)
        clear EQ
        go_wp2_with fail
        go_ret
        exact ⟨by rw [HR.out]; rfl, HB.out _⟩
    · obtain rfl : j = la := by omega
      have HR : Hid (decide (ts = us) = true) := Lib.hid (decide_eq_true (by
        have := hyes.out
        rwa [List.take_of_length_le (by rw [HT.out]; exact Nat.le_refl _), List.take_of_length_le (by rw [KT.out]; exact Nat.le_refl _)] at this))
      go_wp2_with fail
      go_ret
      exact ⟨by rw [HR.out]; rfl, hnx⟩
def inAll (ts us : List Tri3) : Bool := ts.all (fun t => decide (t ∈ us))
open Go.RowKit Go.WideShapes
/-- A slice of triples of a bounded length, short texts each, at a block's own place. -/
def GotG (w : World) (v : Value) (ts : List Tri3) : Prop := ∃ x cap, v = .slice x ts.length cap ∧ IsTris w x ts.length cap ts ∧ Plain x ∧ SmG ts
theorem GotG.next {w w' : World} {v : Value} {ts : List Tri3} (h : GotG w v ts) (hb : Below w.heap.size w w') : GotG w' v ts := by
  obtain ⟨x, cap, hv, hi, hp, hs⟩ := h
  exact ⟨x, cap, hv, hi.next hb, hp, hs⟩
theorem got_of {B : Nat} {w : World} {v : Value} {ts : List Tri3} (h : OwnT B w v ts) (hs : SmG ts) : GotG w v ts := by
  obtain ⟨x, cap, hv, hi, hp⟩ := OwnT.plain h hs.maxLen
  exact ⟨x, cap, hv, hi, hp, hs⟩
theorem SmG.less {ts : List Tri3} {t : Tri3} (h : SmG ts) : SmG ((withoutT ts t).getD []) := by
  cases e : withoutT ts t with
  | none => exact ⟨by simp, by simp⟩
  | some g =>
    obtain ⟨_, _, rfl, hg⟩ := withoutT_some e
    have hl := graphOk_len hg
    exact ⟨by simp only [Option.getD_some]; omega, fun u hu => h.2 u (lessT_mem.1 hu).2⟩
def GotRes (r : Option (List Tri3)) (w : World) (e : Ending) (w' : World) : Prop := ∃ z, e = .returned (.tuple #[z, .bool r.isSome]) ∧ GotG w' z (r.getD []) ∧ Below w.heap.size w w'
theorem gotRes {r : Option (List Tri3)} {w w' : World} {e : Ending} (hs : SmG (r.getD [])) (h : ResPost r w e w') : GotRes r w e w' := by
  obtain ⟨v, he, ho, hb⟩ := h
  exact ⟨v, he, got_of ho hs, hb⟩
theorem sameG {v u : Value} {ts us : List Tri3} {w : World} (h : GotG w v ts) (k : GotG w u us) : Calls Try.prog 33 #[v, u] w fun e w' => e = .returned (.bool (decide (ts = us))) ∧ Below w.heap.size w w' := by
  obtain ⟨x, c, rfl, hi, hp, hs⟩ := h
  obtain ⟨y, d, rfl, ki, kp, ks⟩ := k
  have := hs.1
  have := ks.1
  exact lawSame x y _ c _ d ts us w hi ki (by omega) (by omega)
theorem hasG {v : Value} {ts : List Tri3} {w : World} (h : GotG w v ts) (s p o : ByteArray) : Calls Try.prog 35 #[v, .agg #[.string s, .string p, .string o]] w fun e w' => e = .returned (.bool (decide ((s, p, o) ∈ ts))) ∧ Below w.heap.size w w' := by
  obtain ⟨x, c, rfl, hi, hp, hs⟩ := h
  have := hs.1
  exact lawHas x _ c ts s p o w hi (by omega)
theorem graphOkG {v : Value} {ts : List Tri3} {w : World} (h : GotG w v ts) : Calls Try.prog 39 #[v] w fun e w' => e = .returned (.bool (graphOk ts)) ∧ Below w.heap.size w w' := by
  obtain ⟨x, c, rfl, hi, hp, hs⟩ := h
  exact implGraphOk x _ c ts w hi hs.sm
theorem inAll_of {ts us : List Tri3} (h : ∀ t ∈ ts, t ∈ us) : inAll ts us = true := by
  unfold inAll
  rw [List.all_eq_true]
  exact fun t ht => decide_eq_true (h t ht)
open Go.RowKit Go.WideShapes
end Go.Proofs.Ytofkploffcplhaa
/- The specification's look for a triple. -/
namespace Go.Proofs.Ytofkploffcplhaa
open Go.RowKit Go.WideShapes
set_option maxRecDepth 100000 in
set_option maxHeartbeats 1600000 in
theorem specHas2 (a : Option Addr) (len cap : Nat) (ts : List Tri3) (s p o : ByteArray) (w : World) (h : IsTris w a len cap ts) (hl : len ≤ 1048576) :
    Calls Try.prog 37 #[.slice a len cap, .agg #[.string s, .string p, .string o]] w fun e w' => e = .returned (.bool (decide ((s, p, o) ∈ ts))) ∧ Below w.heap.size w w' := by
  have H := Lib.hid h
  have HT := Lib.hid h.len
  have B0 := (Below.refl w.heap.size w).alloc (Nat.le_refl _) (.cells #[.string s, .string p, .string o] 55)
  have X0 := Box.new w (.string s) (.string p) (.string o) 55
  clear h
  go_enter Try.func37, Try.ntmps37
  go_wp2_with fail
  go_loopw [5] (fun i wr => ∃ k : Nat, k ≤ len ∧ i = .int .i64 k ∧ Hid ((s, p, o) ∉ ts.take k) ∧ Hid (Box wr w.heap.size (.string s) (.string p) (.string o) 55) ∧ Below w.heap.size w wr) (fun i _ => len - (intOf i).toNat)
  case atStart => exact ⟨0, Nat.zero_le _, rfl, Lib.hid (by simp), Lib.hid X0, B0⟩
  case round =>
    obtain ⟨k, hk, rfl, hnot, hbox, hnx⟩ := hrel
    clear X0 B0
    have hk6 : (0 : Int) ≤ (k : Int) := by omega
    have hk8 : k ≤ 1048576 := by omega
    by_cases hlt : k < len
    · have hk7 : (k : Int) < (len : Int) := by omega
      obtain ⟨b, off, rfl, hb, hl', hm, hts, hcs⟩ := H.out.cells (by omega)
      have ht : ts[k]? = some (ts[k]'(by omega)) := List.getElem?_eq_getElem (by omega)
      have HS : Hid (ts.take (k + 1) = ts.take k ++ [ts[k]'(by omega)]) := Lib.hid (List.take_succ_eq_append_getElem (by omega))
      obtain ⟨d0, d1, d2, m0, m1, m2⟩ := hcs k _ ht
      rw [← hnx.cell (p := ⟨b, _, none⟩) hb] at d0 d1 d2
      generalize ts[k]'(by omega) = u at ht d0 d1 d2 m0 m1 m2 HS
      obtain ⟨c0, c1, c2⟩ := hbox.out.cells
      by_cases he : u = (s, p, o)
      · subst he
        have HR : Hid (decide ((s, p, o) ∈ ts) = true) := Lib.hid (decide_eq_true (List.mem_of_getElem? ht))
        have EQ := tri_is s p o
        simp only at d0 d1 d2
        clear ht hts hcs hm m0 m1 m2 hl' hnot HS
        go_wp2_with fail
        go_quiet (fail)
        clear EQ
        go_wp2_with fail
        go_ret
        exact ⟨by rw [HR.out]; rfl, below_drewN hnx nq⟩
      · have EQ := tri_isnt he
        simp only at EQ
        have HN : Hid ((s, p, o) ∉ ts.take (k + 1)) := Lib.hid (by
          rw [HS.out, List.mem_append]
          rintro (h | h)
          · exact hnot.out h
          · exact he (List.mem_singleton.1 h).symm)
        have X1 : Hid (∀ n, Box (wr.drewN n) w.heap.size (.string s) (.string p) (.string o) 55) := Lib.hid (fun n => hbox.out)
        have HB : Hid (∀ n, Below w.heap.size w (wr.drewN n)) := Lib.hid (fun n => below_drewN hnx n)
        clear ht hts hcs hm m0 m1 m2 hl' hnot HS he
        go_wp2_with fail
        go_quiet (fail)
        clear EQ
        go_wp2_with fail
        go_roundw
        case rel => exact ⟨k + 1, by omega, by go_num, HN, Lib.hid (X1.out _), HB.out _⟩
        case measure => simp [intOf]; omega
    · obtain rfl : k = len := by omega
      have HR : Hid (decide ((s, p, o) ∈ ts) = false) := Lib.hid (decide_eq_false (by
        have := hnot.out
        rwa [List.take_of_length_le (by rw [HT.out]; exact Nat.le_refl _)] at this))
      go_wp2_with fail
      go_ret
      exact ⟨by rw [HR.out]; rfl, hnx⟩
end Go.Proofs.Ytofkploffcplhaa
/- SpecL, the rest. -/
namespace Go.Proofs.Ytofkploffcplhaa
open Go.RowKit Go.WideShapes
theorem lessT_snoc (g : List Tri3) (t u : Tri3) : lessT (g ++ [u]) t = if u = t then lessT g t else lessT g t ++ [u] := by
  unfold lessT
  rw [List.filter_append]
  by_cases h : u = t <;> simp [h]
set_option maxRecDepth 100000 in
set_option maxHeartbeats 1600000 in
theorem specLess (a : Option Addr) (len cap : Nat) (ts : List Tri3) (s p o : ByteArray) (w : World) (h : IsTris w a len cap ts) (hl : len ≤ 1048576) :
    Calls Try.prog 73 #[.slice a len cap, .agg #[.string s, .string p, .string o]] w fun e w' => ∃ v, e = .returned v ∧ OwnT w.heap.size w' v (lessT ts (s, p, o)) ∧ Below w.heap.size w w' := by
  obtain ⟨i0, hi, hz0, hz1, hz2⟩ := info_parts infoTri
  have H := Lib.hid h
  have HT := Lib.hid h.len
  have B0 := ((Below.refl w.heap.size w).alloc (Nat.le_refl _) (.cells #[.string s, .string p, .string o] 55)).alloc (by simp) (.cells #[] 55)
  have X0 := (Box.new w (.string s) (.string p) (.string o) 55).alloc (.cells #[] 55)
  have O0 : OwnT (w.heap.size + 1) ((w.alloc (.cells #[.string s, .string p, .string o] 55)).alloc (.cells #[] 55)) (.slice (some ⟨w.heap.size + 1, 0, none⟩) 0 0) [] := by
    have := World.ownsRow_lit (size := 3) (e := 55) (w.alloc (.cells #[.string s, .string p, .string o] 55)) #[] 0 (Nat.le_refl _) (by decide) rfl
    rw [World.size_alloc] at this
    exact this
  clear h
  go_enter Try.func73, Try.ntmps73
  go_wp2_with fail
  go_loopw [5, 6] (fun v' i wr => ∃ (k : Nat) (v : Value), k ≤ len ∧ i = .int .i64 k ∧ v = v' ∧ Hid (OwnT (w.heap.size + 1) wr v (lessT (ts.take k) (s, p, o))) ∧ Hid (Box wr w.heap.size (.string s) (.string p) (.string o) 55) ∧ Below w.heap.size w wr) (fun _ i _ => len - (intOf i).toNat)
  case atStart => exact ⟨0, _, Nat.zero_le _, rfl, rfl, Lib.hid (by simpa [lessT] using O0), Lib.hid X0, B0⟩
  case round =>
    obtain ⟨k, v, hk, rfl, rfl, hown, hbox, hnx⟩ := hrel
    clear X0 B0 O0
    have hk6 : (0 : Int) ≤ (k : Int) := by omega
    have hk8 : k ≤ 1048576 := by omega
    by_cases hlt : k < len
    · have hk7 : (k : Int) < (len : Int) := by omega
      obtain ⟨b, off, rfl, hb, hl', hm, hts, hcs⟩ := H.out.cells (by omega)
      have ht : ts[k]? = some (ts[k]'(by omega)) := List.getElem?_eq_getElem (by omega)
      have HS : Hid (ts.take (k + 1) = ts.take k ++ [ts[k]'(by omega)]) := Lib.hid (List.take_succ_eq_append_getElem (by omega))
      obtain ⟨d0, d1, d2, m0, m1, m2⟩ := hcs k _ ht
      rw [← hnx.cell (p := ⟨b, _, none⟩) hb] at d0 d1 d2
      generalize ts[k]'(by omega) = u at ht d0 d1 d2 m0 m1 m2 HS
      obtain ⟨c0, c1, c2⟩ := hbox.out.cells
      have hll : (lessT (ts.take k) (s, p, o)).length ≤ k := Nat.le_trans (lessT_len _ _) (by rw [List.length_take]; omega)
      by_cases he : u = (s, p, o)
      · subst he
        have EQ := tri_same s p o
        have HN : Hid (lessT (ts.take (k + 1)) (s, p, o) = lessT (ts.take k) (s, p, o)) := Lib.hid (by rw [HS.out, lessT_snoc, if_pos rfl])
        have HB : Hid (∀ n, Below w.heap.size w (wr.drewN n)) := Lib.hid (fun n => below_drewN hnx n)
        have X1 : Hid (∀ n, Box (wr.drewN n) w.heap.size (.string s) (.string p) (.string o) 55) := Lib.hid (fun n => hbox.out)
        have O1 : Hid (∀ n, OwnT (w.heap.size + 1) (wr.drewN n) v (lessT (ts.take (k + 1)) (s, p, o))) := Lib.hid (fun n => by rw [HN.out]; exact hown.out)
        simp only at d0 d1 d2
        clear ht hts hcs hm m0 m1 m2 hl' HS hown HN hll
        go_wp2_with fail
        go_quiet (fail)
        clear EQ
        go_wp2_with fail
        go_roundw
        case rel => exact ⟨k + 1, _, by omega, by go_num, rfl, Lib.hid (O1.out _), Lib.hid (X1.out _), HB.out _⟩
        case measure => simp [intOf]; omega
      · have EQ : ∀ w, (binOp .neq 55 (.agg #[.string u.1, .string u.2.1, .string u.2.2]) (.agg #[.string s, .string p, .string o])).run Try.prog w = .ok (.bool true) w := fun w => by rw [tri_ne, tri_not he]; rfl
        have HN : Hid (lessT (ts.take (k + 1)) (s, p, o) = lessT (ts.take k) (s, p, o) ++ [u]) := Lib.hid (by rw [HS.out, lessT_snoc, if_neg he])
        have BQ : Hid (∀ n, Below w.heap.size w (wr.drewN n)) := Lib.hid (fun n => below_drewN hnx n)
        have XQ : Hid (∀ n, Box (wr.drewN n) w.heap.size (.string s) (.string p) (.string o) 55) := Lib.hid (fun n => hbox.out)
        have OQ : Hid (∀ n, OwnT (w.heap.size + 1) (wr.drewN n) v (lessT (ts.take k) (s, p, o))) := Lib.hid (fun n => hown.out)
        have DQ := Lib.hid (And.intro d0 (And.intro d1 d2))
        obtain ⟨pl, hpl⟩ : ∃ l, lessT (ts.take k) (s, p, o) = l := ⟨_, rfl⟩
        rw [hpl] at HN OQ hll
        clear ht hts hcs hm m0 m1 m2 hl' HS hown he hbox hnx hpl
        go_wp2_with fail
        go_quiet (fail)
        clear EQ c0 c1 c2 d0 d1 d2
        have BE := BQ.out nq
        have XE := XQ.out nq
        have OE := OQ.out nq
        have DE : (wr.drewN nq).cell? ⟨b, off + k * 3, none⟩ = some (.string u.1) ∧ (wr.drewN nq).cell? ⟨b, off + k * 3 + 1, none⟩ = some (.string u.2.1) ∧ (wr.drewN nq).cell? ⟨b, off + k * 3 + 2, none⟩ = some (.string u.2.2) := DQ.out
        clear BQ XQ OQ DQ
        generalize wr.drewN nq = we at BE XE OE DE ⊢
        obtain ⟨d0, d1, d2⟩ := DE
        have hcl : w.heap.size < we.heap.size := XE.lt
        have hne := fun j hj => (World.ownsRow.lt OE j hj).1
        have HC : ∀ (j : Nat) (x : Value), [Value.string u.1, .string u.2.1, .string u.2.2][j]? = some x → (we.alloc (.cells #[.string u.1, .string u.2.1, .string u.2.2] 55)).cell? ((⟨we.heap.size, 0, none⟩ : Addr).add j) = some x := three_cell
        have HH := Lib.hid HC
        have BA := BE.alloc BE.size (.cells #[.string u.1, .string u.2.1, .string u.2.2] 55)
        have XA := XE.alloc (.cells #[.string u.1, .string u.2.1, .string u.2.2] 55)
        have OA := Lib.hid (World.ownsRow.alloc OE (.cells #[.string u.1, .string u.2.1, .string u.2.2] 55))
        clear HC BE XE OE
        go_wp2_with (at_builtin; refine wpList_append_own _ rfl _ _ 27 rfl (w.heap.size + 1) 55 i0 (.agg #[.string ⟨#[]⟩, .string ⟨#[]⟩, .string ⟨#[]⟩]) 3 48 Try.underlying27 hi hz0 hz1 hz2 rfl (by decide) _ _ _ rfl OA.out ⟨we.heap.size, 0, none⟩ 1 _ [.string u.1, .string u.2.1, .string u.2.2] rfl rfl HH.out (by first | exact flat_one _ | (intro x hx; simp at hx; rcases hx with rfl | rfl | rfl <;> rfl)) ?h63a ?h48a ?hbsa ?_)
        case h63a => unfold maxLen; omega
        case h48a => omega
        case hbsa => simp only [World.size_alloc]; omega
        intro v2 w2 hown2 hg2 _
        have O2 : OwnT (w.heap.size + 1) w2 v2 (lessT (ts.take (k + 1)) (s, p, o)) := by rw [HN.out]; exact own3_snoc (t := u) hown2
        have B2 : Below w.heap.size w w2 := BA.grown hg2 BA.size (fun j hj => by have := hne j hj; omega)
        have X2 := XA.grown hg2 (by intro e; have := hne _ e.symm; omega)
        have HO2 := Lib.hid O2
        have HX2 := Lib.hid X2
        clear hown2 hg2 OA HH BA XA O2 X2 d0 d1 d2
        go_wp2_with fail
        go_roundw
        case rel => exact ⟨k + 1, _, by omega, by go_num, rfl, HO2, HX2, B2⟩
        case measure => simp [intOf]; omega
    · obtain rfl : k = len := by omega
      have HO : Hid (OwnT (w.heap.size + 1) wr v (lessT ts (s, p, o))) := Lib.hid (by
        have := hown.out
        rwa [List.take_of_length_le (by rw [HT.out]; exact Nat.le_refl _)] at this)
      clear hown
      go_wp2_with fail
      go_ret
      exact ⟨v, rfl, own_base HO.out (by omega), hnx⟩
open Go.RowKit Go.WideShapes
set_option maxRecDepth 100000 in
set_option maxHeartbeats 1600000 in
theorem specUnionL (a b : Option Addr) (la ca lb cb : Nat) (ts us : List Tri3) (w : World) (h : IsTris w a la ca ts) (hp : Plain a) (k : IsTris w b lb cb us) (hla : la ≤ 80) (hlb : lb ≤ 80) :
    Calls Try.prog 48 #[.slice a la ca, .slice b lb cb] w fun e w' => ∃ v, e = .returned v ∧ OwnT w.heap.size w' v (unionT ts us) ∧ Below w.heap.size w w' := by
  obtain ⟨i0, hi, hz0, hz1, hz2⟩ := info_parts infoTri
  have HS : Hid (∀ us' : List Tri3, (∀ u ∈ us', u ∈ us) → ∀ t ∈ unionT ts us', t.1.size ≤ maxLen ∧ t.2.1.size ≤ maxLen ∧ t.2.2.size ≤ maxLen) := Lib.hid (fun us' hu t ht => by
    rcases unionT_mem.1 ht with g | g
    · exact h.small t g
    · exact k.small t (hu t g))
  have HL := Lib.hid h.len
  have KL := Lib.hid k.len
  have K := Lib.hid k
  have O0 : OwnT w.heap.size (w.alloc (.cells #[] 55)) (.slice (some ⟨w.heap.size, 0, none⟩) 0 0) [] := World.ownsRow_lit (size := 3) (e := 55) w #[] 0 (Nat.le_refl _) (by decide) rfl
  have BA := (Below.refl w.heap.size w).alloc (Nat.le_refl _) (.cells #[] 55)
  have hA := h.next BA
  have HO := Lib.hid O0
  clear k O0 h
  have main : ∀ (v : Value) (w1 : World), OwnT w.heap.size w1 v ts → Below w.heap.size w w1 → True := fun _ _ _ _ => trivial
  clear main
  rcases hp with rfl | ⟨bb, off, rfl⟩
  · rcases hA with ⟨_, rfl, rfl, rfl⟩ | ⟨x, hx, _⟩
    rotate_left
    · cases hx
    go_enter Try.func48, Try.ntmps48
    go_wp2_with (at_builtin; refine wpList_append_own_none rfl _ _ 27 rfl w.heap.size 55 i0 3 Try.underlying27 hi _ _ _ rfl HO.out rfl ?_)
    go_wp2_with fail
    have O1 := HO.out
    have B1 := BA
    go_loopw [5, 6] (fun v' i wr => ∃ (j : Nat) (v : Value), j ≤ lb ∧ i = .int .i64 j ∧ v = v' ∧ Hid (OwnT w.heap.size wr v (unionT ([] : List Tri3) (us.take j))) ∧ Below w.heap.size w wr) (fun _ i _ => lb - (intOf i).toNat)
    case atStart => exact ⟨0, _, Nat.zero_le _, rfl, rfl, Lib.hid (by simpa [unionT] using O1), B1⟩
    case round =>
      obtain ⟨j, v, hj, rfl, rfl, hown, hnx⟩ := hrel
      clear O1 B1 BA
      have hj6 : (0 : Int) ≤ (j : Int) := by omega
      by_cases hlt : j < lb
      · have hj7 : (j : Int) < (lb : Int) := by omega
        obtain ⟨b', off', rfl, hb, hl', hm, hts, hcs⟩ := K.out.cells (by omega)
        have ht : us[j]? = some (us[j]'(by omega)) := List.getElem?_eq_getElem (by omega)
        have HT : Hid (us.take (j + 1) = us.take j ++ [us[j]'(by omega)]) := Lib.hid (List.take_succ_eq_append_getElem (by omega))
        obtain ⟨d0, d1, d2, m0, m1, m2⟩ := hcs j _ ht
        rw [← hnx.cell (p := ⟨b', _, none⟩) hb] at d0 d1 d2
        generalize us[j]'(by omega) = u at ht d0 d1 d2 m0 m1 m2 HT
        obtain ⟨u0, u1, u2⟩ := u
        simp only at d0 d1 d2
        have HN : Hid (unionT ([] : List Tri3) (us.take (j + 1)) = putT (unionT ([] : List Tri3) (us.take j)) (u0, u1, u2)) := Lib.hid (by rw [HT.out, unionT_snoc])
        obtain ⟨xv, yv, rfl, iv, pv⟩ := OwnT.plain hown.out (HS.out _ (fun u hu => List.mem_of_mem_take hu))
        have hul := unionT_len (us.take j) ([] : List Tri3)
        rw [List.length_take, List.length_nil] at hul
        have C := specPutAny xv _ yv _ u0 u1 u2 wr iv pv (by omega)
        obtain ⟨uj, huj⟩ : ∃ l, unionT ([] : List Tri3) (us.take j) = l := ⟨_, rfl⟩
        rw [huj] at C HN ⊢
        have HC := Lib.hid C
        clear C iv pv hown hul huj ht HT hts hcs hm m0 m1 m2 hl'
        go_wp2_with fail
        refine HC.out.mono ?_
        rintro e w2 ⟨v2, rfl, ho2, hb2⟩
        have O2 := Lib.hid (own_base ho2 hnx.size)
        rw [← HN.out] at O2
        have B2 := hnx.trans (hb2.mono hnx.size)
        clear ho2 hb2 HC HN d0 d1 d2
        go_wp2_with fail
        go_roundw
        case rel => exact ⟨j + 1, _, by omega, by go_num, rfl, O2, B2⟩
        case measure => simp [intOf]; omega
      · obtain rfl : j = lb := by omega
        have HO2 : Hid (OwnT w.heap.size wr v (unionT ([] : List Tri3) us)) := Lib.hid (by
          have := hown.out
          rwa [List.take_of_length_le (by rw [KL.out]; exact Nat.le_refl _)] at this)
        clear hown
        go_wp2_with fail
        go_ret
        exact ⟨v, rfl, HO2.out, hnx⟩
  · have F1 := hA.front la
    rw [List.take_of_length_le (by rw [HL.out]; exact Nat.le_refl _)] at F1
    have HF1 := Lib.hid F1
    clear F1 hA
    go_enter Try.func48, Try.ntmps48
    go_wp2_with (at_builtin; refine wpList_append_own _ rfl _ _ 27 rfl w.heap.size 55 i0 (.agg #[.string ⟨#[]⟩, .string ⟨#[]⟩, .string ⟨#[]⟩]) 3 48 Try.underlying27 hi hz0 hz1 hz2 rfl (by decide) _ _ _ rfl HO.out ⟨bb, off, none⟩ la _ (flat ts) rfl (by rw [flat_len, HL.out]) HF1.out (by first | exact flat_one _ | (intro x hx; simp at hx; rcases hx with rfl | rfl | rfl <;> rfl)) ?h63a ?h48a ?hbsa ?_)
    case h63a => rw [List.length_nil]; unfold maxLen; omega
    case h48a => rw [List.length_nil]; omega
    case hbsa => simp only [World.size_alloc]; omega
    intro v1 w1 hown1 hg1 _
    have O1 : OwnT w.heap.size w1 v1 ts := by unfold OwnT; rw [HL.out]; simpa [show flat ([] : List Tri3) = [] from rfl] using hown1
    have B1 : Below w.heap.size w w1 := BA.grown hg1 BA.size (fun j hj => by simp [Value.ownBlock] at hj; omega)
    clear hown1 hg1 HO HF1
    go_wp2_with fail
    go_loopw [5, 6] (fun v' i wr => ∃ (j : Nat) (v : Value), j ≤ lb ∧ i = .int .i64 j ∧ v = v' ∧ Hid (OwnT w.heap.size wr v (unionT ts (us.take j))) ∧ Below w.heap.size w wr) (fun _ i _ => lb - (intOf i).toNat)
    case atStart => exact ⟨0, _, Nat.zero_le _, rfl, rfl, Lib.hid (by simpa [unionT] using O1), B1⟩
    case round =>
      obtain ⟨j, v, hj, rfl, rfl, hown, hnx⟩ := hrel
      clear O1 B1 BA
      have hj6 : (0 : Int) ≤ (j : Int) := by omega
      by_cases hlt : j < lb
      · have hj7 : (j : Int) < (lb : Int) := by omega
        obtain ⟨b', off', rfl, hb, hl', hm, hts, hcs⟩ := K.out.cells (by omega)
        have ht : us[j]? = some (us[j]'(by omega)) := List.getElem?_eq_getElem (by omega)
        have HT : Hid (us.take (j + 1) = us.take j ++ [us[j]'(by omega)]) := Lib.hid (List.take_succ_eq_append_getElem (by omega))
        obtain ⟨d0, d1, d2, m0, m1, m2⟩ := hcs j _ ht
        rw [← hnx.cell (p := ⟨b', _, none⟩) hb] at d0 d1 d2
        generalize us[j]'(by omega) = u at ht d0 d1 d2 m0 m1 m2 HT
        obtain ⟨u0, u1, u2⟩ := u
        simp only at d0 d1 d2
        have HN : Hid (unionT ts (us.take (j + 1)) = putT (unionT ts (us.take j)) (u0, u1, u2)) := Lib.hid (by rw [HT.out, unionT_snoc])
        obtain ⟨xv, yv, rfl, iv, pv⟩ := OwnT.plain hown.out (HS.out _ (fun u hu => List.mem_of_mem_take hu))
        have hul := unionT_len (us.take j) ts
        rw [HL.out, List.length_take] at hul
        have C := specPutAny xv _ yv _ u0 u1 u2 wr iv pv (by omega)
        obtain ⟨uj, huj⟩ : ∃ l, unionT ts (us.take j) = l := ⟨_, rfl⟩
        rw [huj] at C HN ⊢
        have HC := Lib.hid C
        clear C iv pv hown hul huj ht HT hts hcs hm m0 m1 m2 hl'
        go_wp2_with fail
        refine HC.out.mono ?_
        rintro e w2 ⟨v2, rfl, ho2, hb2⟩
        have O2 := Lib.hid (own_base ho2 hnx.size)
        rw [← HN.out] at O2
        have B2 := hnx.trans (hb2.mono hnx.size)
        clear ho2 hb2 HC HN d0 d1 d2
        go_wp2_with fail
        go_roundw
        case rel => exact ⟨j + 1, _, by omega, by go_num, rfl, O2, B2⟩
        case measure => simp [intOf]; omega
      · obtain rfl : j = lb := by omega
        have HO2 : Hid (OwnT w.heap.size wr v (unionT ts us)) := Lib.hid (by
          have := hown.out
          rwa [List.take_of_length_le (by rw [KL.out]; exact Nat.le_refl _)] at this)
        clear hown
        go_wp2_with fail
        go_ret
        exact ⟨v, rfl, HO2.out, hnx⟩
set_option maxRecDepth 100000 in
set_option maxHeartbeats 1600000 in
theorem specWithout (a : Option Addr) (len cap : Nat) (ts : List Tri3) (s p o : ByteArray) (w : World) (h : IsTris w a len cap ts) (_hpl : Plain a) (hsm : Sm ts) (_hs : s.size ≤ 2097152) (_hp : p.size ≤ 2097152) (_ho : o.size ≤ 2097152) :
    Calls Try.prog 58 #[.slice a len cap, .agg #[.string s, .string p, .string o]] w (ResPost (withoutT ts (s, p, o)) w) := by
  have A1 := specGraphOk a len cap ts (w.alloc (.cells #[.string s, .string p, .string o] 55)) (h.next ((Below.refl w.heap.size w).alloc (Nat.le_refl _) _)) hsm
  have B0 := (Below.refl w.heap.size w).alloc (Nat.le_refl _) (.cells #[.string s, .string p, .string o] 55)
  have X0 := Box.new w (.string s) (.string p) (.string o) 55
  have h0 := h.next B0
  cases hg : graphOk ts
  · rw [hg] at A1
    have HR : Hid (withoutT ts (s, p, o) = none) := Lib.hid (by unfold withoutT; rw [hg]; simp)
    have C1 := Lib.hid A1
    clear A1 hg h h0 hsm X0
    go_enter Try.func58, Try.ntmps58
    go_wp2_with fail
    refine C1.out.mono ?_
    rintro e w1 ⟨rfl, hb1⟩
    go_wp2_with fail
    go_ret2
    rw [HR.out]
    exact ResPost.no (B0.trans (hb1.mono B0.size))
  rw [hg] at A1
  have hl := h.len
  have hl80 := graphOk_len hg
  have hlen : len ≤ 1048576 := by omega
  have C1 := Lib.hid A1
  have HY : Hid ((s, p, o) ∈ ts → withoutT ts (s, p, o) = some (lessT ts (s, p, o))) := Lib.hid (fun c => by unfold withoutT; rw [if_pos ⟨hg, c⟩])
  have HN : Hid ((s, p, o) ∉ ts → withoutT ts (s, p, o) = none) := Lib.hid (fun c => by unfold withoutT; rw [if_neg (fun h => c h.2)])
  have W1 : Hid (∀ w, IsTris w a len cap ts → Calls Try.prog 37 #[.slice a len cap, .agg #[.string s, .string p, .string o]] w fun e w' => e = .returned (.bool (decide ((s, p, o) ∈ ts))) ∧ Below w.heap.size w w') := Lib.hid (fun w h => specHas2 a len cap ts s p o w h hlen)
  have W2 : Hid (∀ w, IsTris w a len cap ts → Calls Try.prog 73 #[.slice a len cap, .agg #[.string s, .string p, .string o]] w fun e w' => ∃ v, e = .returned v ∧ OwnT w.heap.size w' v (lessT ts (s, p, o)) ∧ Below w.heap.size w w') := Lib.hid (fun w h => specLess a len cap ts s p o w h hlen)
  clear A1 hg h hsm hl hl80
  by_cases hin : (s, p, o) ∈ ts
  · have HR := Lib.hid (HY.out hin)
    rw [decide_eq_true hin] at W1
    clear HY HN hin
    go_enter Try.func58, Try.ntmps58
    go_wp2_with fail
    refine C1.out.mono ?_
    rintro e w1 ⟨rfl, hb1⟩
    have X1 := X0.next hb1
    have h1 := h0.next hb1
    obtain ⟨c0, c1, c2⟩ := X1.cells
    have B1 := B0.trans (hb1.mono B0.size)
    clear X0 hb1 B0 h0
    go_wp2_with fail
    refine (W1.out _ h1).mono ?_
    rintro e w2 ⟨rfl, hb2⟩
    have X2 := X1.next hb2
    have h2 := h1.next hb2
    have B2 := B1.trans (hb2.mono B1.size)
    clear X1 hb2 B1 h1 c0 c1 c2
    obtain ⟨c0, c1, c2⟩ := X2.cells
    go_wp2_with fail
    refine (W2.out _ h2).mono ?_
    rintro e w3 ⟨v, rfl, ho3, hb3⟩
    have O3 := Lib.hid (own_base ho3 B2.size)
    have B3 := B2.trans (hb3.mono B2.size)
    clear ho3 hb3 h2 X2 c0 c1 c2 W1 W2
    go_wp2_with fail
    go_ret2
    rw [HR.out]
    exact ResPost.yes O3.out B3
  · have HR := Lib.hid (HN.out hin)
    rw [decide_eq_false hin] at W1
    clear HY HN hin W2
    go_enter Try.func58, Try.ntmps58
    go_wp2_with fail
    refine C1.out.mono ?_
    rintro e w1 ⟨rfl, hb1⟩
    have X1 := X0.next hb1
    have h1 := h0.next hb1
    obtain ⟨c0, c1, c2⟩ := X1.cells
    have B1 := B0.trans (hb1.mono B0.size)
    clear X0 hb1 B0 h0
    go_wp2_with fail
    refine (W1.out _ h1).mono ?_
    rintro e w2 ⟨rfl, hb2⟩
    go_wp2_with fail
    go_ret2
    rw [HR.out]
    exact ResPost.no (B1.trans (hb2.mono B1.size))
end Go.Proofs.Ytofkploffcplhaa
