/- What a drawn graph is: a slice of the call's own, of a bounded length, of texts of a bounded length. -/
import Derived.Test.YtofkploffcplhaaGreatG09
import Derived.Test.YtofkploffcplhaaGreatG14
import Derived.Test.YtofkploffcplhaaGreatG08
import Derived.Test.YtofkploffcplhaaGreatG13
import Derived.Deep.RegionWith
import Derived.RegionTactic
import Derived.Test.YtofkploffcplhaaGreatG12
import Derived.Test.YtofkploffcplhaaGreatG10
import Derived.Test.YtofkploffcplhaaGreatG01
import Derived.Deep.QuietTactic
import Derived.BigQuiet
import Derived.Laws.AppendOwnNone
import Derived.Deep.RegionHeld3
namespace Go.Proofs.YtofkploffcplhaaGreat
open Go.RowKit Go.WideShapes
theorem SmG.with_ {ts : List Tri3} {t : Tri3} (h : SmG ts) (ht : t.1.size ≤ 20 ∧ t.2.1.size ≤ 20 ∧ t.2.2.size ≤ 20) : SmG ((withT ts t).getD []) ∧ ((withT ts t).getD []).length ≤ 80 := by
  cases e : withT ts t with
  | none => exact ⟨⟨by simp, by simp⟩, by simp⟩
  | some g =>
    obtain ⟨_, _, rfl, hg⟩ := withT_some e
    have hl := graphOk_len hg
    refine ⟨⟨by simp only [Option.getD_some]; omega, fun u hu => ?_⟩, hl⟩
    rcases putT_mem.1 hu with rfl | hu
    · exact ht
    · exact h.2 u hu
theorem rd_far {B g : Nat} {w w' : World} (h : Rd B w g) (hb : Below w.heap.size w w') : Rd B w' g := h.grown (grown_of_below hb) (by simp)
set_option maxRecDepth 100000 in
set_option maxHeartbeats 1600000 in
theorem rdGraph (B g : Nat) (w : World) (h : Rd B w g) (n : Nat) (hn : n ≤ 1000) :
    Calls Tryz.prog 34 #[.pointer (some ⟨g, 0, none⟩), .int .i64 n] w fun e w' => ∃ (v : Value) (ts : List Tri3), e = .returned v ∧ SmG ts ∧ OwnT w.heap.size w' v ts ∧ Rd B w' g ∧ w.grownBy w' (some g) := by
  obtain ⟨i0, hi, hz0, hz1, hzB⟩ := info_parts infoTri
  have hgw := h.2.1
  have hBg := h.1
  have R0 := h.alloc (.cells #[] 38)
  have G0 := World.grownBy_alloc w (.cells #[] 38) (some g)
  have O0 : OwnT w.heap.size (w.alloc (.cells #[] 38)) (.slice (some ⟨w.heap.size, 0, none⟩) 0 0) [] := World.ownsRow_lit (size := 3) (e := 38) w #[] 0 (Nat.le_refl _) (by decide) rfl
  have RB := rdBelow B g _ R0 ((n : Int) + 1) (by omega) (by omega)
  have HRB := Lib.hid RB
  have HO := Lib.hid O0
  clear O0 RB R0
  go_enter Tryz.func34, Tryz.ntmps34
  go_wp2_with fail
  refine HRB.out.mono ?_
  rintro e w1 ⟨m, hm0, hm1, rfl, r1, g1⟩
  have G1 := G0.trans g1
  have O1 := World.ownsRow.kept HO.out g1 (.inr (by simp [Value.ownBlock]; omega))
  obtain ⟨m, rfl⟩ := Int.eq_ofNat_of_zero_le hm0
  have hm2 : m ≤ n := by omega
  have HR1 := Lib.hid r1
  have HO1 := Lib.hid O1
  clear g1 G0 HO O1 r1 HRB hm0 hm1
  go_wp2_with fail
  go_loopw [5, 6] (fun v' i wr => ∃ (j : Nat) (v : Value) (ts : List Tri3), j ≤ n ∧ i = .int .i64 j ∧ v = v' ∧ Hid (SmG ts ∧ ts.length ≤ 80) ∧ Hid (OwnT w.heap.size wr v ts) ∧ Hid (Rd B wr g) ∧ w.grownBy wr (some g)) (fun _ i _ => (intOf i).toNat)
  case atStart => exact ⟨m, _, [], hm2, rfl, rfl, Lib.hid ⟨⟨by simp, by simp⟩, by simp⟩, HO1, HR1, G1⟩
  case round =>
    obtain ⟨j, v, ts, hj, rfl, rfl, hsm, hown, hrd, hg⟩ := hrel
    clear HO1 HR1 G1 hm2
    obtain ⟨x, y, rfl, ii, pl⟩ := OwnT.plain hown.out hsm.out.1.maxLen
    have hlt := fun j hj => (World.ownsRow.lt hown.out j hj).1
    by_cases hj0 : 0 < j
    · have hj1 : (0 : Int) < (j : Int) := by omega
      have HT := Lib.hid (rdTriple B g wr hrd.out)
      have HI := Lib.hid ii
      have HP := Lib.hid pl
      clear ii pl
      obtain ⟨L, hL⟩ : ∃ L, ts.length = L := ⟨_, rfl⟩
      rw [hL] at HI hlt ⊢
      have HL := Lib.hid hL
      have hL80 : L ≤ 80 := by have := hsm.out.2; omega
      clear hL
      go_wp2_with fail
      refine HT.out.mono ?_
      rintro e w2 ⟨s, p, o, hs, hp, ho, rfl, r2, g2⟩
      have G2 := hg.trans g2
      have O2 : OwnT w.heap.size w2 (.slice x L y) ts := by
        have := World.ownsRow.kept hown.out g2 (by
          rw [HL.out]
          rcases hv : (Value.slice x L y).ownBlock with _ | q
          · exact .inl rfl
          · refine .inr fun e => ?_
            have := hlt q hv
            cases e
            omega)
        unfold OwnT at this ⊢
        rw [HL.out] at this ⊢
        exact this
      obtain ⟨x2, y2, hv2, i2, p2⟩ := OwnT.plain O2 hsm.out.1.maxLen
      rw [HL.out] at hv2 i2
      simp only [Value.slice.injEq, true_and] at hv2
      obtain ⟨rfl, rfl⟩ := hv2
      have C := specWith x L y ts s p o w2 i2 p2 hsm.out.1.sm (by omega) (by omega) (by omega)
      have HW := hsm.out.1.with_ (t := (s, p, o)) ⟨hs.2, hp, ho⟩
      obtain ⟨r, hr⟩ : ∃ r, withT ts (s, p, o) = r := ⟨_, rfl⟩
      rw [hr] at C HW
      have HC := Lib.hid C
      have HWW := Lib.hid HW
      have HR2 := Lib.hid r2
      have HO2 := Lib.hid O2
      clear hrd hown g2 r2 i2 p2 C hr hs hp ho O2 HT HI HP HW hg
      cases r with
      | none =>
        go_wp2_with fail
        refine HC.out.mono ?_
        rintro e w3 ⟨v3, rfl, o3, hb3⟩
        have G3 := G2.trans (grown_any (grown_of_below hb3) (some g))
        have R3 := Lib.hid (rd_far HR2.out hb3)
        have O3 := Lib.hid (own_next HO2.out (grown_of_below hb3))
        clear o3 hb3 HC HWW HR2 HO2 G2
        go_wp2_with fail
        go_roundw
        case rel => exact ⟨j - 1, .slice x L y, ts, by omega, by rw [show ((j - 1 : Nat) : Int) = (j : Int) - 1 from by omega], rfl, hsm, O3, R3, G3⟩
        case measure => simp [intOf]; omega
      | some us =>
        go_wp2_with fail
        refine HC.out.mono ?_
        rintro e w3 ⟨v3, rfl, o3, hb3⟩
        have G3 := G2.trans (grown_any (grown_of_below hb3) (some g))
        have R3 := Lib.hid (rd_far HR2.out hb3)
        have O3 := Lib.hid (own_base o3 G2.size)
        clear o3 hb3 HC HR2 HO2 G2
        go_wp2_with fail
        go_roundw
        case rel => exact ⟨j - 1, v3, us, by omega, by rw [show ((j - 1 : Nat) : Int) = (j : Int) - 1 from by omega], rfl, HWW, O3, R3, G3⟩
        case measure => simp [intOf]; omega
    · obtain rfl : j = 0 := by omega
      have HO := Lib.hid (rdOnce B g wr hrd.out 40 (by omega) (by omega))
      obtain ⟨L, hL⟩ : ∃ L, ts.length = L := ⟨_, rfl⟩
      rw [hL] at ii hlt ⊢
      have HL := Lib.hid hL
      have hL80 : L ≤ 80 := by have := hsm.out.2; omega
      clear hL ii pl
      go_wp2_with fail
      refine HO.out.mono ?_
      rintro e w2 ⟨bb, rfl, r2, g2⟩
      have G2 := hg.trans g2
      have O2 : OwnT w.heap.size w2 (.slice x L y) ts := by
        have := World.ownsRow.kept hown.out g2 (by
          rw [HL.out]
          rcases hv : (Value.slice x L y).ownBlock with _ | q
          · exact .inl rfl
          · refine .inr fun e => ?_
            have := hlt q hv
            cases e
            omega)
        unfold OwnT at this ⊢
        rw [HL.out] at this ⊢
        exact this
      have HR2 := Lib.hid r2
      have HO2 := Lib.hid O2
      clear hrd hown g2 r2 HO hg
      cases bb
      · go_wp2_with fail
        go_ret
        exact ⟨_, ts, rfl, hsm.out.1, HO2.out, HR2.out, G2⟩
      · by_cases hL0 : 0 < L
        · have hL1 : (0 : Int) < (L : Int) := by omega
          obtain ⟨x2, y2, hv2, i2⟩ := HO2.out.is hsm.out.1.maxLen
          rw [HL.out] at hv2 i2
          simp only [Value.slice.injEq, true_and] at hv2
          obtain ⟨rfl, rfl⟩ := hv2
          obtain ⟨b1, off, rfl, hb1, hl', hm, hts, hcs⟩ := i2.cells hL0
          have ht : ts[0]? = some (ts[0]'(by omega)) := List.getElem?_eq_getElem (by omega)
          obtain ⟨c0, c1, c2, m0, m1, m2⟩ := hcs 0 _ ht
          have hu := hsm.out.1.2 _ (List.mem_of_getElem? ht)
          generalize ts[0]'(by omega) = u at ht c0 c1 c2 m0 m1 m2 hu
          simp only [Nat.zero_mul, Nat.add_zero] at c0 c1 c2
          have HS : Hid (SmG (ts ++ [u])) := Lib.hid ⟨by rw [List.length_append, HL.out]; simp; omega, fun t ht => by
            rcases List.mem_append.1 ht with h | h
            · exact hsm.out.1.2 t h
            · obtain rfl := List.mem_singleton.1 h
              exact hu⟩
          have HC : ∀ (j : Nat) (z : Value), [Value.string u.1, .string u.2.1, .string u.2.2][j]? = some z → (w2.alloc (.cells #[.string u.1, .string u.2.1, .string u.2.2] 38)).cell? ((⟨w2.heap.size, 0, none⟩ : Addr).add j) = some z := three_cell
          have HH := Lib.hid HC
          have OA := Lib.hid (World.ownsRow.alloc HO2.out (.cells #[.string u.1, .string u.2.1, .string u.2.2] 38))
          have RA := Lib.hid (HR2.out.alloc (.cells #[.string u.1, .string u.2.1, .string u.2.2] 38))
          have GA := G2.trans (World.grownBy_alloc w2 (.cells #[.string u.1, .string u.2.1, .string u.2.2] 38) (some g))
          have hz2 := G2.size
          clear ht hcs hts hm m0 m1 m2 hu HC HO2 HR2 G2 hsm i2
          go_wp2_with (at_builtin; refine wpList_append_own _ rfl _ _ 24 rfl w.heap.size 38 i0 (.agg #[.string ⟨#[]⟩, .string ⟨#[]⟩, .string ⟨#[]⟩]) 3 48 Tryz.underlying24 hi hz0 hz1 hzB rfl (by decide) _ _ _ rfl OA.out ⟨w2.heap.size, 0, none⟩ 1 _ [.string u.1, .string u.2.1, .string u.2.2] rfl rfl HH.out (by intro z hz; simp at hz; rcases hz with rfl | rfl | rfl <;> rfl) ?h63 ?h48 ?hbs ?_)
          case h63 => rw [HL.out]; unfold maxLen; omega
          case h48 => rw [HL.out]; omega
          case hbs => simp only [World.size_alloc]; omega
          intro v3 w3 hown3 hg3 _
          have O3 : OwnT w.heap.size w3 v3 (ts ++ [u]) := own3_snoc (t := u) hown3
          have R3 := RA.out.grown hg3 (fun q e => by have := hlt q (by simpa [HL.out] using e); omega)
          have G3 := grown_off GA hg3 (fun q e => by have := hlt q (by simpa [HL.out] using e); omega)
          clear hown3 hg3 OA RA HH GA c0 c1 c2
          go_wp2_with fail
          go_ret
          exact ⟨v3, _, rfl, HS.out, O3, R3, G3⟩
        · obtain rfl : L = 0 := by omega
          go_wp2_with fail
          go_ret
          exact ⟨_, ts, rfl, hsm.out.1, HO2.out, HR2.out, G2⟩
open Go.RowKit Go.WideShapes
set_option maxRecDepth 100000 in
set_option maxHeartbeats 1600000 in
theorem lawHas (a : Option Addr) (len cap : Nat) (ts : List Tri3) (s p o : ByteArray) (w : World) (h : IsTris w a len cap ts) (hl : len ≤ 1048576) :
    Calls Tryz.prog 15 #[.slice a len cap, .agg #[.string s, .string p, .string o]] w fun e w' => e = .returned (.bool (decide ((s, p, o) ∈ ts))) ∧ Below w.heap.size w w' := by
  have H := Lib.hid h
  have HT := Lib.hid h.len
  have B0 := (Below.refl w.heap.size w).alloc (Nat.le_refl _) (.cells #[.string s, .string p, .string o] 38)
  have X0 := Box.new w (.string s) (.string p) (.string o) 38
  clear h
  go_enter Tryz.func15, Tryz.ntmps15
  go_wp2_with fail
  go_loopw [5] (fun i wr => ∃ k : Nat, k ≤ len ∧ i = .int .i64 k ∧ Hid ((s, p, o) ∉ ts.take k) ∧ Hid (Box wr w.heap.size (.string s) (.string p) (.string o) 38) ∧ Below w.heap.size w wr) (fun i _ => len - (intOf i).toNat)
  case atStart => exact ⟨0, Nat.zero_le _, rfl, Lib.hid (by simp), Lib.hid X0, B0⟩
  case round =>
    obtain ⟨k, hk, rfl, hnot, hbox, hnx⟩ := hrel
    clear X0 B0
    have hk6 : (0 : Int) ≤ (k : Int) := by omega
    have hk8 : k ≤ 1048576 := by omega
    by_cases hlt : k < len
    · have hk7 : (k : Int) < (len : Int) := by omega
      obtain ⟨b, off, rfl, hb, hl', hm, hts, hcs⟩ := H.out.cells (by omega)
      have ht : ts[k]? = some (ts[k]'(by omega)) := List.getElem?_eq_getElem (by omega)
      have HS : Hid (ts.take (k + 1) = ts.take k ++ [ts[k]'(by omega)]) := Lib.hid (List.take_succ_eq_append_getElem (by omega))
      obtain ⟨d0, d1, d2, m0, m1, m2⟩ := hcs k _ ht
      rw [← hnx.cell (p := ⟨b, _, none⟩) hb] at d0 d1 d2
      generalize ts[k]'(by omega) = u at ht d0 d1 d2 m0 m1 m2 HS
      obtain ⟨c0, c1, c2⟩ := hbox.out.cells
      by_cases he : u = (s, p, o)
      · subst he
        have HR : Hid (decide ((s, p, o) ∈ ts) = true) := Lib.hid (decide_eq_true (List.mem_of_getElem? ht))
        have EQ := tri_is s p o
        simp only at d0 d1 d2
        clear ht hts hcs hm m0 m1 m2 hl' hnot HS
        go_wp2_with fail
        go_quiet (fail)
        clear EQ
        go_wp2_with fail
        go_ret
        exact ⟨by rw [HR.out]; rfl, below_drewN hnx nq⟩
      · have EQ := tri_isnt he
        simp only at EQ
        have HN : Hid ((s, p, o) ∉ ts.take (k + 1)) := Lib.hid (by
          rw [HS.out, List.mem_append]
          rintro (h | h)
          · exact hnot.out h
          · exact he (List.mem_singleton.1 h).symm)
        have X1 : Hid (∀ n, Box (wr.drewN n) w.heap.size (.string s) (.string p) (.string o) 38) := Lib.hid (fun n => hbox.out)
        have HB : Hid (∀ n, Below w.heap.size w (wr.drewN n)) := Lib.hid (fun n => below_drewN hnx n)
        clear ht hts hcs hm m0 m1 m2 hl' hnot HS he
        go_wp2_with fail
        go_quiet (fail)
        clear EQ
        go_wp2_with fail
        go_roundw
        case rel => exact ⟨k + 1, by omega, by go_num, HN, Lib.hid (X1.out _), HB.out _⟩
        case measure => simp [intOf]; omega
    · obtain rfl : k = len := by omega
      have HR : Hid (decide ((s, p, o) ∈ ts) = false) := Lib.hid (decide_eq_false (by
        have := hnot.out
        rwa [List.take_of_length_le (by rw [HT.out]; exact Nat.le_refl _)] at this))
      go_wp2_with fail
      go_ret
      exact ⟨by rw [HR.out]; rfl, hnx⟩
instance triList (ts us : List Tri3) : Decidable (ts = us) := decidable_of_iff (ts.length = us.length ∧ ∀ i, i < ts.length → ts[i]? = us[i]?) ⟨fun ⟨h, g⟩ => List.ext_getElem? fun i => by
  rcases Nat.lt_or_ge i ts.length with c | c
  · exact g i c
  · rw [List.getElem?_eq_none c, List.getElem?_eq_none (by omega)], fun h => by subst h; exact ⟨rfl, fun _ _ => rfl⟩⟩
set_option maxRecDepth 100000 in
set_option maxHeartbeats 1600000 in
theorem lawSame (a b : Option Addr) (la ca lb cb : Nat) (ts us : List Tri3) (w : World) (h : IsTris w a la ca ts) (k : IsTris w b lb cb us) (hl : la ≤ 1048576) (kl : lb ≤ 1048576) :
    Calls Tryz.prog 9 #[.slice a la ca, .slice b lb cb] w fun e w' => e = .returned (.bool (decide (ts = us))) ∧ Below w.heap.size w w' := by
  have H := Lib.hid h
  have K := Lib.hid k
  have HT := Lib.hid h.len
  have KT := Lib.hid k.len
  clear h k
  by_cases hne : la = lb
  rotate_left
  · have hb : ((la : Int) != (lb : Int)) = true := by rw [bne_iff_ne]; omega
    have HR : Hid (decide (ts = us) = false) := Lib.hid (decide_eq_false (fun e => hne (by rw [← HT.out, ← KT.out, e])))
    clear hne
    go_enter Tryz.func9, Tryz.ntmps9
    go_wp2_with fail
    go_ret
    exact ⟨by rw [HR.out]; rfl, Below.refl _ _⟩
  subst hne
  go_enter Tryz.func9, Tryz.ntmps9
  go_wp2_with fail
  go_loopw [5] (fun i wr => ∃ j : Nat, j ≤ la ∧ i = .int .i64 j ∧ Hid (ts.take j = us.take j) ∧ Below w.heap.size w wr) (fun i _ => la - (intOf i).toNat)
  case atStart => exact ⟨0, Nat.zero_le _, rfl, Lib.hid rfl, Below.refl _ _⟩
  case round =>
    obtain ⟨j, hj, rfl, hyes, hnx⟩ := hrel
    have hj6 : (0 : Int) ≤ (j : Int) := by omega
    by_cases hlt : j < la
    · have hj7 : (j : Int) < (la : Int) := by omega
      obtain ⟨b1, off, rfl, hb, hl', hm, hts, hcs⟩ := H.out.cells (by omega)
      obtain ⟨b2, off2, rfl, hb2, hl2', hm2, hts2, hcs2⟩ := K.out.cells (by omega)
      have ht : ts[j]? = some (ts[j]'(by omega)) := List.getElem?_eq_getElem (by omega)
      have hu : us[j]? = some (us[j]'(by omega)) := List.getElem?_eq_getElem (by omega)
      have HS : Hid (ts.take (j + 1) = ts.take j ++ [ts[j]'(by omega)]) := Lib.hid (List.take_succ_eq_append_getElem (by omega))
      have KS : Hid (us.take (j + 1) = us.take j ++ [us[j]'(by omega)]) := Lib.hid (List.take_succ_eq_append_getElem (by omega))
      obtain ⟨c0, c1, c2, m0, m1, m2⟩ := hcs j _ ht
      obtain ⟨d0, d1, d2, n0, n1, n2⟩ := hcs2 j _ hu
      rw [← hnx.cell (p := ⟨b1, _, none⟩) hb] at c0 c1 c2
      rw [← hnx.cell (p := ⟨b2, _, none⟩) hb2] at d0 d1 d2
      generalize ts[j]'(by omega) = t at ht c0 c1 c2 m0 m1 m2 HS
      generalize us[j]'(by omega) = u at hu d0 d1 d2 n0 n1 n2 KS
      have HB : Hid (∀ n, Below w.heap.size w (wr.drewN n)) := Lib.hid (fun n => below_drewN hnx n)
      by_cases he : t = u
      · subst he
        have EQ := tri_same t.1 t.2.1 t.2.2
        have HY : Hid (ts.take (j + 1) = us.take (j + 1)) := Lib.hid (by rw [HS.out, KS.out, hyes.out])
        clear ht hu hts hts2 hcs hcs2 hm hm2 m0 m1 m2 n0 n1 n2 hl' hl2' HS KS hyes hnx
        go_wp2_with fail
        go_quiet (fail)
        clear EQ
        go_wp2_with fail
        go_roundw
        case rel => exact ⟨j + 1, by omega, by go_num, HY, HB.out _⟩
        case measure => simp [intOf]; omega
      · have EQ : ∀ w, (binOp .neq 38 (.agg #[.string t.1, .string t.2.1, .string t.2.2]) (.agg #[.string u.1, .string u.2.1, .string u.2.2])).run Tryz.prog w = .ok (.bool true) w := fun w => by rw [tri_ne, tri_not he]; rfl
        have HR : Hid (decide (ts = us) = false) := Lib.hid (decide_eq_false (fun e => by
          rw [e, hu] at ht
          exact he (Option.some.inj ht).symm))
        clear ht hu hts hts2 hcs hcs2 hm hm2 m0 m1 m2 n0 n1 n2 hl' hl2' HS KS hyes hnx he
        go_wp2_with fail
        go_quiet (fail)
        clear EQ
        go_wp2_with fail
        go_ret
        exact ⟨by rw [HR.out]; rfl, HB.out _⟩
    · obtain rfl : j = la := by omega
      have HR : Hid (decide (ts = us) = true) := Lib.hid (decide_eq_true (by
        have := hyes.out
        rwa [List.take_of_length_le (by rw [HT.out]; exact Nat.le_refl _), List.take_of_length_le (by rw [KT.out]; exact Nat.le_refl _)] at this))
      go_wp2_with fail
      go_ret
      exact ⟨by rw [HR.out]; rfl, hnx⟩
def inAll (ts us : List Tri3) : Bool := ts.all (fun t => decide (t ∈ us))
set_option maxRecDepth 100000 in
set_option maxHeartbeats 1600000 in
theorem lawWithin (a b : Option Addr) (la ca lb cb : Nat) (ts us : List Tri3) (w : World) (h : IsTris w a la ca ts) (k : IsTris w b lb cb us) (hl : la ≤ 1048576) (kl : lb ≤ 1048576) :
    Calls Tryz.prog 16 #[.slice a la ca, .slice b lb cb] w fun e w' => e = .returned (.bool (inAll ts us)) ∧ Below w.heap.size w w' := by
  have H := Lib.hid h
  have K := Lib.hid k
  have HT := Lib.hid h.len
  clear h k
  go_enter Tryz.func16, Tryz.ntmps16
  go_wp2_with fail
  go_loopw [5] (fun i wr => ∃ j : Nat, j ≤ la ∧ i = .int .i64 j ∧ Hid (inAll (ts.take j) us = true) ∧ Below w.heap.size w wr) (fun i _ => la - (intOf i).toNat)
  case atStart => exact ⟨0, Nat.zero_le _, rfl, Lib.hid rfl, Below.refl _ _⟩
  case round =>
    obtain ⟨j, hj, rfl, hyes, hnx⟩ := hrel
    have hj6 : (0 : Int) ≤ (j : Int) := by omega
    by_cases hlt : j < la
    · have hj7 : (j : Int) < (la : Int) := by omega
      obtain ⟨b1, off, rfl, hb, hl', hm, hts, hcs⟩ := H.out.cells (by omega)
      have ht : ts[j]? = some (ts[j]'(by omega)) := List.getElem?_eq_getElem (by omega)
      have HS : Hid (ts.take (j + 1) = ts.take j ++ [ts[j]'(by omega)]) := Lib.hid (List.take_succ_eq_append_getElem (by omega))
      obtain ⟨c0, c1, c2, m0, m1, m2⟩ := hcs j _ ht
      rw [← hnx.cell (p := ⟨b1, _, none⟩) hb] at c0 c1 c2
      generalize ts[j]'(by omega) = t at ht c0 c1 c2 m0 m1 m2 HS
      obtain ⟨t0, t1, t2⟩ := t
      simp only at c0 c1 c2
      have C := lawHas b lb cb us t0 t1 t2 wr (K.out.next hnx) kl
      by_cases he : (t0, t1, t2) ∈ us
      · rw [decide_eq_true he] at C
        have HC := Lib.hid C
        have HY : Hid (inAll (ts.take (j + 1)) us = true) := Lib.hid (by
          have := hyes.out
          unfold inAll at this ⊢
          rw [HS.out, List.all_append, this]; simp [he])
        clear C ht hts hcs hm m0 m1 m2 hl' HS hyes he
        go_wp2_with fail
        refine HC.out.mono ?_
        rintro e w1 ⟨rfl, hb1⟩
        have B1 := hnx.trans (hb1.mono hnx.size)
        clear hb1 hnx c0 c1 c2 HC
        go_wp2_with fail
        go_roundw
        case rel => exact ⟨j + 1, by omega, by go_num, HY, B1⟩
        case measure => simp [intOf]; omega
      · rw [decide_eq_false he] at C
        have HC := Lib.hid C
        have HR : Hid (inAll ts us = false) := Lib.hid (by
          unfold inAll
          rw [List.all_eq_false]
          exact ⟨_, List.mem_of_getElem? ht, by simp [he]⟩)
        clear C ht hts hcs hm m0 m1 m2 hl' HS hyes he
        go_wp2_with fail
        refine HC.out.mono ?_
        rintro e w1 ⟨rfl, hb1⟩
        go_wp2_with fail
        go_ret
        exact ⟨by rw [HR.out]; rfl, hnx.trans (hb1.mono hnx.size)⟩
    · obtain rfl : j = la := by omega
      have HR : Hid (inAll ts us = true) := Lib.hid (by
        have := hyes.out
        rwa [List.take_of_length_le (by rw [HT.out]; exact Nat.le_refl _)] at this)
      go_wp2_with fail
      go_ret
      exact ⟨by rw [HR.out]; rfl, hnx⟩
open Go.RowKit Go.WideShapes
/-- A slice of triples of a bounded length, short texts each, at a block's own place. -/
def GotG (w : World) (v : Value) (ts : List Tri3) : Prop := ∃ x cap, v = .slice x ts.length cap ∧ IsTris w x ts.length cap ts ∧ Plain x ∧ SmG ts
theorem GotG.next {w w' : World} {v : Value} {ts : List Tri3} (h : GotG w v ts) (hb : Below w.heap.size w w') : GotG w' v ts := by
  obtain ⟨x, cap, hv, hi, hp, hs⟩ := h
  exact ⟨x, cap, hv, hi.next hb, hp, hs⟩
theorem got_of {B : Nat} {w : World} {v : Value} {ts : List Tri3} (h : OwnT B w v ts) (hs : SmG ts) : GotG w v ts := by
  obtain ⟨x, cap, hv, hi, hp⟩ := OwnT.plain h hs.maxLen
  exact ⟨x, cap, hv, hi, hp, hs⟩
theorem SmG.less {ts : List Tri3} {t : Tri3} (h : SmG ts) : SmG ((withoutT ts t).getD []) := by
  cases e : withoutT ts t with
  | none => exact ⟨by simp, by simp⟩
  | some g =>
    obtain ⟨_, _, rfl, hg⟩ := withoutT_some e
    have hl := graphOk_len hg
    exact ⟨by simp only [Option.getD_some]; omega, fun u hu => h.2 u (lessT_mem.1 hu).2⟩
def GotRes (r : Option (List Tri3)) (w : World) (e : Ending) (w' : World) : Prop := ∃ z, e = .returned (.tuple #[z, .bool r.isSome]) ∧ GotG w' z (r.getD []) ∧ Below w.heap.size w w'
theorem gotRes {r : Option (List Tri3)} {w w' : World} {e : Ending} (hs : SmG (r.getD [])) (h : ResPost r w e w') : GotRes r w e w' := by
  obtain ⟨v, he, ho, hb⟩ := h
  exact ⟨v, he, got_of ho hs, hb⟩
theorem sameG {v u : Value} {ts us : List Tri3} {w : World} (h : GotG w v ts) (k : GotG w u us) : Calls Tryz.prog 9 #[v, u] w fun e w' => e = .returned (.bool (decide (ts = us))) ∧ Below w.heap.size w w' := by
  obtain ⟨x, c, rfl, hi, hp, hs⟩ := h
  obtain ⟨y, d, rfl, ki, kp, ks⟩ := k
  have := hs.1
  have := ks.1
  exact lawSame x y _ c _ d ts us w hi ki (by omega) (by omega)
theorem withinG {v u : Value} {ts us : List Tri3} {w : World} (h : GotG w v ts) (k : GotG w u us) : Calls Tryz.prog 16 #[v, u] w fun e w' => e = .returned (.bool (inAll ts us)) ∧ Below w.heap.size w w' := by
  obtain ⟨x, c, rfl, hi, hp, hs⟩ := h
  obtain ⟨y, d, rfl, ki, kp, ks⟩ := k
  have := hs.1
  have := ks.1
  exact lawWithin x y _ c _ d ts us w hi ki (by omega) (by omega)
theorem hasG {v : Value} {ts : List Tri3} {w : World} (h : GotG w v ts) (s p o : ByteArray) : Calls Tryz.prog 15 #[v, .agg #[.string s, .string p, .string o]] w fun e w' => e = .returned (.bool (decide ((s, p, o) ∈ ts))) ∧ Below w.heap.size w w' := by
  obtain ⟨x, c, rfl, hi, hp, hs⟩ := h
  have := hs.1
  exact lawHas x _ c ts s p o w hi (by omega)
theorem graphOkG {v : Value} {ts : List Tri3} {w : World} (h : GotG w v ts) : Calls Tryz.prog 17 #[v] w fun e w' => e = .returned (.bool (graphOk ts)) ∧ Below w.heap.size w w' := by
  obtain ⟨x, c, rfl, hi, hp, hs⟩ := h
  exact implGraphOk x _ c ts w hi hs.sm
theorem inAll_of {ts us : List Tri3} (h : ∀ t ∈ ts, t ∈ us) : inAll ts us = true := by
  unfold inAll
  rw [List.all_eq_true]
  exact fun t ht => decide_eq_true (h t ht)
open Go.RowKit Go.WideShapes
end Go.Proofs.YtofkploffcplhaaGreat
/- What is drawn for With and Without. -/
namespace Go.Proofs.YtofkploffcplhaaGreat
open Go.RowKit Go.WideShapes
theorem own_off {B g : Nat} {w : World} {v : Value} {ts : List Tri3} (h : OwnT B w v ts) (hg : g < B) (i : Nat) (u : Value) : OwnT B (w.setCell ⟨g, i, none⟩ u) v ts := by
  refine World.ownsRow.kept h (row := some g) ⟨rfl, rfl, rfl, by simp [World.setCell], fun k _ hne => Below.heap_setCell _ _ _ _ (fun e => hne (by rw [e]))⟩ ?_
  rcases hv : v.ownBlock with _ | q
  · exact .inl rfl
  · refine .inr fun e => ?_
    have := (World.ownsRow.lt h q hv).1
    cases e
    omega
/-- One of the triples, and its cells. -/
theorem pick_of {B L : Nat} {w : World} {x : Option Addr} {y : Nat} {ts : List Tri3} (h : OwnT B w (.slice x L y) ts) (hs : SmG ts) (hL : ts.length = L) {m : Nat} (hm : m < L) :
    ∃ (b off : Nat) (u : Tri3), x = some ⟨b, off, none⟩ ∧ w.cell? ⟨b, off + m * 3, none⟩ = some (.string u.1) ∧ w.cell? ⟨b, off + m * 3 + 1, none⟩ = some (.string u.2.1) ∧ w.cell? ⟨b, off + m * 3 + 2, none⟩ = some (.string u.2.2) ∧ u.1.size ≤ 20 ∧ u.2.1.size ≤ 20 ∧ u.2.2.size ≤ 20 := by
  obtain ⟨x2, y2, hv, i2⟩ := h.is hs.maxLen
  rw [hL] at hv i2
  simp only [Value.slice.injEq, true_and] at hv
  obtain ⟨rfl, rfl⟩ := hv
  obtain ⟨b1, off, rfl, _, _, _, hts, hcs⟩ := i2.cells (by omega)
  have ht : ts[m]? = some (ts[m]'(by omega)) := List.getElem?_eq_getElem (by omega)
  obtain ⟨c0, c1, c2, _⟩ := hcs m _ ht
  exact ⟨b1, off, _, rfl, c0, c1, c2, hs.2 _ (List.mem_of_getElem? ht)⟩
end Go.Proofs.YtofkploffcplhaaGreat
/- The specification's look for a triple. -/
namespace Go.Proofs.YtofkploffcplhaaGreat
open Go.RowKit Go.WideShapes
set_option maxRecDepth 100000 in
set_option maxHeartbeats 1600000 in
theorem specHas2 (a : Option Addr) (len cap : Nat) (ts : List Tri3) (s p o : ByteArray) (w : World) (h : IsTris w a len cap ts) (hl : len ≤ 1048576) :
    Calls Tryz.prog 26 #[.slice a len cap, .agg #[.string s, .string p, .string o]] w fun e w' => e = .returned (.bool (decide ((s, p, o) ∈ ts))) ∧ Below w.heap.size w w' := by
  have H := Lib.hid h
  have HT := Lib.hid h.len
  have B0 := (Below.refl w.heap.size w).alloc (Nat.le_refl _) (.cells #[.string s, .string p, .string o] 38)
  have X0 := Box.new w (.string s) (.string p) (.string o) 38
  clear h
  go_enter Tryz.func26, Tryz.ntmps26
  go_wp2_with fail
  go_loopw [5] (fun i wr => ∃ k : Nat, k ≤ len ∧ i = .int .i64 k ∧ Hid ((s, p, o) ∉ ts.take k) ∧ Hid (Box wr w.heap.size (.string s) (.string p) (.string o) 38) ∧ Below w.heap.size w wr) (fun i _ => len - (intOf i).toNat)
  case atStart => exact ⟨0, Nat.zero_le _, rfl, Lib.hid (by simp), Lib.hid X0, B0⟩
  case round =>
    obtain ⟨k, hk, rfl, hnot, hbox, hnx⟩ := hrel
    clear X0 B0
    have hk6 : (0 : Int) ≤ (k : Int) := by omega
    have hk8 : k ≤ 1048576 := by omega
    by_cases hlt : k < len
    · have hk7 : (k : Int) < (len : Int) := by omega
      obtain ⟨b, off, rfl, hb, hl', hm, hts, hcs⟩ := H.out.cells (by omega)
      have ht : ts[k]? = some (ts[k]'(by omega)) := List.getElem?_eq_getElem (by omega)
      have HS : Hid (ts.take (k + 1) = ts.take k ++ [ts[k]'(by omega)]) := Lib.hid (List.take_succ_eq_append_getElem (by omega))
      obtain ⟨d0, d1, d2, m0, m1, m2⟩ := hcs k _ ht
      rw [← hnx.cell (p := ⟨b, _, none⟩) hb] at d0 d1 d2
      generalize ts[k]'(by omega) = u at ht d0 d1 d2 m0 m1 m2 HS
      obtain ⟨c0, c1, c2⟩ := hbox.out.cells
      by_cases he : u = (s, p, o)
      · subst he
        have HR : Hid (decide ((s, p, o) ∈ ts) = true) := Lib.hid (decide_eq_true (List.mem_of_getElem? ht))
        have EQ := tri_is s p o
        simp only at d0 d1 d2
        clear ht hts hcs hm m0 m1 m2 hl' hnot HS
        go_wp2_with fail
        go_quiet (fail)
        clear EQ
        go_wp2_with fail
        go_ret
        exact ⟨by rw [HR.out]; rfl, below_drewN hnx nq⟩
      · have EQ := tri_isnt he
        simp only at EQ
        have HN : Hid ((s, p, o) ∉ ts.take (k + 1)) := Lib.hid (by
          rw [HS.out, List.mem_append]
          rintro (h | h)
          · exact hnot.out h
          · exact he (List.mem_singleton.1 h).symm)
        have X1 : Hid (∀ n, Box (wr.drewN n) w.heap.size (.string s) (.string p) (.string o) 38) := Lib.hid (fun n => hbox.out)
        have HB : Hid (∀ n, Below w.heap.size w (wr.drewN n)) := Lib.hid (fun n => below_drewN hnx n)
        clear ht hts hcs hm m0 m1 m2 hl' hnot HS he
        go_wp2_with fail
        go_quiet (fail)
        clear EQ
        go_wp2_with fail
        go_roundw
        case rel => exact ⟨k + 1, by omega, by go_num, HN, Lib.hid (X1.out _), HB.out _⟩
        case measure => simp [intOf]; omega
    · obtain rfl : k = len := by omega
      have HR : Hid (decide ((s, p, o) ∈ ts) = false) := Lib.hid (decide_eq_false (by
        have := hnot.out
        rwa [List.take_of_length_le (by rw [HT.out]; exact Nat.le_refl _)] at this))
      go_wp2_with fail
      go_ret
      exact ⟨by rw [HR.out]; rfl, hnx⟩
end Go.Proofs.YtofkploffcplhaaGreat
