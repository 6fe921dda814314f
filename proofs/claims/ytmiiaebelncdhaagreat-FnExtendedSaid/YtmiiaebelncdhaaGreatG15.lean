/- What a drawn graph is: a slice of the call's own, of a bounded length, of texts of a bounded length. -/
import Derived.Test.YtmiiaebelncdhaaGreatG09
import Derived.Test.YtmiiaebelncdhaaGreatG14
import Derived.Test.YtmiiaebelncdhaaGreatG08
import Derived.Test.YtmiiaebelncdhaaGreatG13
import Derived.Deep.RegionWith
namespace Go.Proofs.YtmiiaebelncdhaaGreat
open Go.RowKit Go.WideShapes
theorem SmG.with_ {ts : List Tri3} {t : Tri3} (h : SmG ts) (ht : t.1.size ≤ 20 ∧ t.2.1.size ≤ 20 ∧ t.2.2.size ≤ 20) : SmG ((withT ts t).getD []) ∧ ((withT ts t).getD []).length ≤ 80 := by
  cases e : withT ts t with
  | none => exact ⟨⟨by simp, by simp⟩, by simp⟩
  | some g =>
    obtain ⟨_, _, rfl, hg⟩ := withT_some e
    have hl := graphOk_len hg
    refine ⟨⟨by simp only [Option.getD_some]; omega, fun u hu => ?_⟩, hl⟩
    rcases putT_mem.1 hu with rfl | hu
    · exact ht
    · exact h.2 u hu
theorem rd_far {B g : Nat} {w w' : World} (h : Rd B w g) (hb : Below w.heap.size w w') : Rd B w' g := h.grown (grown_of_below hb) (by simp)
set_option maxRecDepth 100000 in
set_option maxHeartbeats 1600000 in
theorem rdGraph (B g : Nat) (w : World) (h : Rd B w g) (n : Nat) (hn : n ≤ 1000) :
    Calls Tryz.prog 45 #[.pointer (some ⟨g, 0, none⟩), .int .i64 n] w fun e w' => ∃ (v : Value) (ts : List Tri3), e = .returned v ∧ SmG ts ∧ OwnT w.heap.size w' v ts ∧ Rd B w' g ∧ w.grownBy w' (some g) := by
  obtain ⟨i0, hi, hz0, hz1, hzB⟩ := info_parts infoTri
  have hgw := h.2.1
  have hBg := h.1
  have R0 := h.alloc (.cells #[] 42)
  have G0 := World.grownBy_alloc w (.cells #[] 42) (some g)
  have O0 : OwnT w.heap.size (w.alloc (.cells #[] 42)) (.slice (some ⟨w.heap.size, 0, none⟩) 0 0) [] := World.ownsRow_lit (size := 3) (e := 42) w #[] 0 (Nat.le_refl _) (by decide) rfl
  have RB := rdBelow B g _ R0 ((n : Int) + 1) (by omega) (by omega)
  have HRB := Lib.hid RB
  have HO := Lib.hid O0
  clear O0 RB R0
  go_enter Tryz.func45, Tryz.ntmps45
  go_wp2_with fail
  refine HRB.out.mono ?_
  rintro e w1 ⟨m, hm0, hm1, rfl, r1, g1⟩
  have G1 := G0.trans g1
  have O1 := World.ownsRow.kept HO.out g1 (.inr (by simp [Value.ownBlock]; omega))
  obtain ⟨m, rfl⟩ := Int.eq_ofNat_of_zero_le hm0
  have hm2 : m ≤ n := by omega
  have HR1 := Lib.hid r1
  have HO1 := Lib.hid O1
  clear g1 G0 HO O1 r1 HRB hm0 hm1
  go_wp2_with fail
  go_loopw [5, 6] (fun v' i wr => ∃ (j : Nat) (v : Value) (ts : List Tri3), j ≤ n ∧ i = .int .i64 j ∧ v = v' ∧ Hid (SmG ts ∧ ts.length ≤ 80) ∧ Hid (OwnT w.heap.size wr v ts) ∧ Hid (Rd B wr g) ∧ w.grownBy wr (some g)) (fun _ i _ => (intOf i).toNat)
  case atStart => exact ⟨m, _, [], hm2, rfl, rfl, Lib.hid ⟨⟨by simp, by simp⟩, by simp⟩, HO1, HR1, G1⟩
  case round =>
    obtain ⟨j, v, ts, hj, rfl, rfl, hsm, hown, hrd, hg⟩ := hrel
    clear HO1 HR1 G1 hm2
    obtain ⟨x, y, rfl, ii, pl⟩ := OwnT.plain hown.out hsm.out.1.maxLen
    have hlt := fun j hj => (World.ownsRow.lt hown.out j hj).1
    by_cases hj0 : 0 < j
    · have hj1 : (0 : Int) < (j : Int) := by omega
      have HT := Lib.hid (rdTriple B g wr hrd.out)
      have HI := Lib.hid ii
      have HP := Lib.hid pl
      clear ii pl
      obtain ⟨L, hL⟩ : ∃ L, ts.length = L := ⟨_, rfl⟩
      rw [hL] at HI hlt ⊢
      have HL := Lib.hid hL
      have hL80 : L ≤ 80 := by have := hsm.out.2; omega
      clear hL
      go_wp2_with fail
      refine HT.out.mono ?_
      rintro e w2 ⟨s, p, o, hs, hp, ho, rfl, r2, g2⟩
      have G2 := hg.trans g2
      have O2 : OwnT w.heap.size w2 (.slice x L y) ts := by
        have := World.ownsRow.kept hown.out g2 (by
          rw [HL.out]
          rcases hv : (Value.slice x L y).ownBlock with _ | q
          · exact .inl rfl
          · refine .inr fun e => ?_
            have := hlt q hv
            cases e
            omega)
        unfold OwnT at this ⊢
        rw [HL.out] at this ⊢
        exact this
      obtain ⟨x2, y2, hv2, i2, p2⟩ := OwnT.plain O2 hsm.out.1.maxLen
      rw [HL.out] at hv2 i2
      simp only [Value.slice.injEq, true_and] at hv2
      obtain ⟨rfl, rfl⟩ := hv2
      have C := specWith x L y ts s p o w2 i2 p2 hsm.out.1.sm (by omega) (by omega) (by omega)
      have HW := hsm.out.1.with_ (t := (s, p, o)) ⟨hs.2, hp, ho⟩
      obtain ⟨r, hr⟩ : ∃ r, withT ts (s, p, o) = r := ⟨_, rfl⟩
      rw [hr] at C HW
      have HC := Lib.hid C
      have HWW := Lib.hid HW
      have HR2 := Lib.hid r2
      have HO2 := Lib.hid O2
      clear hrd hown g2 r2 i2 p2 C hr hs hp ho O2 HT HI HP HW hg
      cases r with
      | none =>
        go_wp2_with fail
        refine HC.out.mono ?_
        rintro e w3 ⟨v3, rfl, o3, hb3⟩
        have G3 := G2.trans (grown_any (grown_of_below hb3) (some g))
        have R3 := Lib.hid (rd_far HR2.out hb3)
        have O3 := Lib.hid (own_next HO2.out (grown_of_below hb3))
        clear o3 hb3 HC HWW HR2 HO2 G2
        go_wp2_with fail
        go_roundw
        case rel => exact ⟨j - 1, .slice x L y, ts, by omega, by rw [show ((j - 1 : Nat) : Int) = (j : Int) - 1 from by omega], rfl, hsm, O3, R3, G3⟩
        case measure => simp [intOf]; omega
      | some us =>
        go_wp2_with fail
        refine HC.out.mono ?_
        rintro e w3 ⟨v3, rfl, o3, hb3⟩
        have G3 := G2.trans (grown_any (grown_of_below hb3) (some g))
        have R3 := Lib.hid (rd_far HR2.out hb3)
        have O3 := Lib.hid (own_base o3 G2.size)
        clear o3 hb3 HC HR2 HO2 G2
        go_wp2_with fail
        go_roundw
        case rel => exact ⟨j - 1, v3, us, by omega, by rw [show ((j - 1 : Nat) : Int) = (j : Int) - 1 from by omega], rfl, HWW, O3, R3, G3⟩
        case measure => simp [intOf]; omega
    · obtain rfl : j = 0 := by omega
      have HO := Lib.hid (rdOnce B g wr hrd.out 40 (by omega) (by omega))
      obtain ⟨L, hL⟩ : ∃ L, ts.length = L := ⟨_, rfl⟩
      rw [hL] at ii hlt ⊢
      have HL := Lib.hid hL
      have hL80 : L ≤ 80 := by have := hsm.out.2; omega
      clear hL ii pl
      go_wp2_with fail
      refine HO.out.mono ?_
      rintro e w2 ⟨bb, rfl, r2, g2⟩
      have G2 := hg.trans g2
      have O2 : OwnT w.heap.size w2 (.slice x L y) ts := by
        have := World.ownsRow.kept hown.out g2 (by
          rw [HL.out]
          rcases hv : (Value.slice x L y).ownBlock with _ | q
          · exact .inl rfl
          · refine .inr fun e => ?_
            have := hlt q hv
            cases e
            omega)
        unfold OwnT at this ⊢
        rw [HL.out] at this ⊢
        exact this
      have HR2 := Lib.hid r2
      have HO2 := Lib.hid O2
      clear hrd hown g2 r2 HO hg
      cases bb
      · go_wp2_with fail
        go_ret
        exact ⟨_, ts, rfl, hsm.out.1, HO2.out, HR2.out, G2⟩
      · by_cases hL0 : 0 < L
        · have hL1 : (0 : Int) < (L : Int) := by omega
          obtain ⟨x2, y2, hv2, i2⟩ := HO2.out.is hsm.out.1.maxLen
          rw [HL.out] at hv2 i2
          simp only [Value.slice.injEq, true_and] at hv2
          obtain ⟨rfl, rfl⟩ := hv2
          obtain ⟨b1, off, rfl, hb1, hl', hm, hts, hcs⟩ := i2.cells hL0
          have ht : ts[0]? = some (ts[0]'(by omega)) := List.getElem?_eq_getElem (by omega)
          obtain ⟨c0, c1, c2, m0, m1, m2⟩ := hcs 0 _ ht
          have hu := hsm.out.1.2 _ (List.mem_of_getElem? ht)
          generalize ts[0]'(by omega) = u at ht c0 c1 c2 m0 m1 m2 hu
          simp only [Nat.zero_mul, Nat.add_zero] at c0 c1 c2
          have HS : Hid (SmG (ts ++ [u])) := Lib.hid ⟨by rw [List.length_append, HL.out]; simp; omega, fun t ht => by
            rcases List.mem_append.1 ht with h | h
            · exact hsm.out.1.2 t h
            · obtain rfl := List.mem_singleton.1 h
              exact hu⟩
          have HC : ∀ (j : Nat) (z : Value), [Value.string u.1, .string u.2.1, .string u.2.2][j]? = some z → (w2.alloc (.cells #[.string u.1, .string u.2.1, .string u.2.2] 42)).cell? ((⟨w2.heap.size, 0, none⟩ : Addr).add j) = some z := three_cell
          have HH := Lib.hid HC
          have OA := Lib.hid (World.ownsRow.alloc HO2.out (.cells #[.string u.1, .string u.2.1, .string u.2.2] 42))
          have RA := Lib.hid (HR2.out.alloc (.cells #[.string u.1, .string u.2.1, .string u.2.2] 42))
          have GA := G2.trans (World.grownBy_alloc w2 (.cells #[.string u.1, .string u.2.1, .string u.2.2] 42) (some g))
          have hz2 := G2.size
          clear ht hcs hts hm m0 m1 m2 hu HC HO2 HR2 G2 hsm i2
          go_wp2_with (at_builtin; refine wpList_append_own _ rfl _ _ 24 rfl w.heap.size 42 i0 (.agg #[.string ⟨#[]⟩, .string ⟨#[]⟩, .string ⟨#[]⟩]) 3 48 Tryz.underlying24 hi hz0 hz1 hzB rfl (by decide) _ _ _ rfl OA.out ⟨w2.heap.size, 0, none⟩ 1 _ [.string u.1, .string u.2.1, .string u.2.2] rfl rfl HH.out (by intro z hz; simp at hz; rcases hz with rfl | rfl | rfl <;> rfl) ?h63 ?h48 ?hbs ?_)
          case h63 => rw [HL.out]; unfold maxLen; omega
          case h48 => rw [HL.out]; omega
          case hbs => simp only [World.size_alloc]; omega
          intro v3 w3 hown3 hg3 _
          have O3 : OwnT w.heap.size w3 v3 (ts ++ [u]) := own3_snoc (t := u) hown3
          have R3 := RA.out.grown hg3 (fun q e => by have := hlt q (by simpa [HL.out] using e); omega)
          have G3 := grown_off GA hg3 (fun q e => by have := hlt q (by simpa [HL.out] using e); omega)
          clear hown3 hg3 OA RA HH GA c0 c1 c2
          go_wp2_with fail
          go_ret
          exact ⟨v3, _, rfl, HS.out, O3, R3, G3⟩
        · obtain rfl : L = 0 := by omega
          go_wp2_with fail
          go_ret
          exact ⟨_, ts, rfl, hsm.out.1, HO2.out, HR2.out, G2⟩
open Go.RowKit Go.WideShapes
set_option maxRecDepth 100000 in
set_option maxHeartbeats 1600000 in
theorem lawHas (a : Option Addr) (len cap : Nat) (ts : List Tri3) (s p o : ByteArray) (w : World) (h : IsTris w a len cap ts) (hl : len ≤ 1048576) :
    Calls Tryz.prog 21 #[.slice a len cap, .agg #[.string s, .string p, .string o]] w fun e w' => e = .returned (.bool (decide ((s, p, o) ∈ ts))) ∧ Below w.heap.size w w' := by
  have H := Lib.hid h
  have HT := Lib.hid h.len
  have B0 := (Below.refl w.heap.size w).alloc (Nat.le_refl _) (.cells #[.string s, .string p, .string o] 42)
  have X0 := Box.new w (.string s) (.string p) (.string o) 42
  clear h
  go_enter Tryz.func21, Tryz.ntmps21
  go_wp2_with fail
  go_loopw [5] (fun i wr => ∃ k : Nat, k ≤ len ∧ i = .int .i64 k ∧ Hid ((s, p, o) ∉ ts.take k) ∧ Hid (Box wr w.heap.size (.string s) (.string p) (.string o) 42) ∧ Below w.heap.size w wr) (fun i _ => len - (intOf i).toNat)
  case atStart => exact ⟨0, Nat.zero_le _, rfl, Lib.hid (by simp), Lib.hid X0, B0⟩
  case round =>
    obtain ⟨k, hk, rfl, hnot, hbox, hnx⟩ := hrel
    clear X0 B0
    have hk6 : (0 : Int) ≤ (k : Int) := by omega
    have hk8 : k ≤ 1048576 := by omega
    by_cases hlt : k < len
    · have hk7 : (k : Int) < (len : Int) := by omega
      obtain ⟨b, off, rfl, hb, hl', hm, hts, hcs⟩ := H.out.cells (by omega)
      have ht : ts[k]? = some (ts[k]'(by omega)) := List.getElem?_eq_getElem (by omega)
      have HS : Hid (ts.take (k + 1) = ts.take k ++ [ts[k]'(by omega)]) := Lib.hid (List.take_succ_eq_append_getElem (by omega))
      obtain ⟨d0, d1, d2, m0, m1, m2⟩ := hcs k _ ht
      rw [← hnx.cell (p := ⟨b, _, none⟩) hb] at d0 d1 d2
      generalize ts[k]'(by omega) = u at ht d0 d1 d2 m0 m1 m2 HS
      obtain ⟨c0, c1, c2⟩ := hbox.out.cells
      by_cases he : u = (s, p, o)
      · subst he
        have HR : Hid (decide ((s, p, o) ∈ ts) = true) := Lib.hid (decide_eq_true (List.mem_of_getElem? ht))
        have EQ := tri_is s p o
        simp only at d0 d1 d2
        clear ht hts hcs hm m0 m1 m2 hl' hnot HS
        go_wp2_with fail
        go_quiet (fail)
        clear EQ
        go_wp2_with fail
        go_ret
        exact ⟨by rw [HR.out]; rfl, below_drewN hnx nq⟩
      · have EQ := tri_isnt he
        simp only at EQ
        have HN : Hid ((s, p, o) ∉ ts.take (k + 1)) := Lib.hid (by
          rw [HS.out, List.mem_append]
          rintro (h | h)
          · exact hnot.out h
          · exact he (List.mem_singleton.1 h).symm)
        have X1 : Hid (∀ n, Box (wr.drewN n) w.heap.size (.string s) (.string p) (.string o) 42) := Lib.hid (fun n => hbox.out)
        have HB : Hid (∀ n, Below w.heap.size w (wr.drewN n)) := Lib.hid (fun n => below_drewN hnx n)
        clear ht hts hcs hm m0 m1 m2 hl' hnot HS he
        go_wp2_with fail
        go_quiet (fail)
        clear EQ
        go_wp2_with fail
        go_roundw
        case rel => exact ⟨k + 1, by omega, by go_num, HN, Lib.hid (X1.out _), HB.out _⟩
        case measure => simp [intOf]; omega
    · obtain rfl : k = len := by omega
      have HR : Hid (decide ((s, p, o) ∈ ts) = false) := Lib.hid (decide_eq_false (by
        have := hnot.out
        rwa [List.take_of_length_le (by rw [HT.out]; exact Nat.le_refl _)] at this))
      go_wp2_with fail
      go_ret
      exact ⟨by rw [HR.out]; rfl, hnx⟩
instance triList (ts us : List Tri3) : Decidable (ts = us) := decidable_of_iff (ts.length = us.length ∧ ∀ i, i < ts.length → ts[i]? = us[i]?) ⟨fun ⟨h, g⟩ => List.ext_getElem? fun i => by
  rcases Nat.lt_or_ge i ts.length with c | c
  · exact g i c
  · rw [List.getElem?_eq_none c, List.getElem?_eq_none (by omega)], fun h => by subst h; exact ⟨rfl, fun _ _ => rfl⟩⟩
def inAll (ts us : List Tri3) : Bool := ts.all (fun t => decide (t ∈ us))
open Go.RowKit Go.WideShapes
/-- A slice of triples of a bounded length, short texts each, at a block's own place. -/
def GotG (w : World) (v : Value) (ts : List Tri3) : Prop := ∃ x cap, v = .slice x ts.length cap ∧ IsTris w x ts.length cap ts ∧ Plain x ∧ SmG ts
theorem GotG.next {w w' : World} {v : Value} {ts : List Tri3} (h : GotG w v ts) (hb : Below w.heap.size w w') : GotG w' v ts := by
  obtain ⟨x, cap, hv, hi, hp, hs⟩ := h
  exact ⟨x, cap, hv, hi.next hb, hp, hs⟩
theorem got_of {B : Nat} {w : World} {v : Value} {ts : List Tri3} (h : OwnT B w v ts) (hs : SmG ts) : GotG w v ts := by
  obtain ⟨x, cap, hv, hi, hp⟩ := OwnT.plain h hs.maxLen
  exact ⟨x, cap, hv, hi, hp, hs⟩
theorem SmG.less {ts : List Tri3} {t : Tri3} (h : SmG ts) : SmG ((withoutT ts t).getD []) := by
  cases e : withoutT ts t with
  | none => exact ⟨by simp, by simp⟩
  | some g =>
    obtain ⟨_, _, rfl, hg⟩ := withoutT_some e
    have hl := graphOk_len hg
    exact ⟨by simp only [Option.getD_some]; omega, fun u hu => h.2 u (lessT_mem.1 hu).2⟩
def GotRes (r : Option (List Tri3)) (w : World) (e : Ending) (w' : World) : Prop := ∃ z, e = .returned (.tuple #[z, .bool r.isSome]) ∧ GotG w' z (r.getD []) ∧ Below w.heap.size w w'
theorem gotRes {r : Option (List Tri3)} {w w' : World} {e : Ending} (hs : SmG (r.getD [])) (h : ResPost r w e w') : GotRes r w e w' := by
  obtain ⟨v, he, ho, hb⟩ := h
  exact ⟨v, he, got_of ho hs, hb⟩
theorem hasG {v : Value} {ts : List Tri3} {w : World} (h : GotG w v ts) (s p o : ByteArray) : Calls Tryz.prog 21 #[v, .agg #[.string s, .string p, .string o]] w fun e w' => e = .returned (.bool (decide ((s, p, o) ∈ ts))) ∧ Below w.heap.size w w' := by
  obtain ⟨x, c, rfl, hi, hp, hs⟩ := h
  have := hs.1
  exact lawHas x _ c ts s p o w hi (by omega)
theorem graphOkG {v : Value} {ts : List Tri3} {w : World} (h : GotG w v ts) : Calls Tryz.prog 47 #[v] w fun e w' => e = .returned (.bool (graphOk ts)) ∧ Below w.heap.size w w' := by
  obtain ⟨x, c, rfl, hi, hp, hs⟩ := h
  exact implGraphOk x _ c ts w hi hs.sm
theorem inAll_of {ts us : List Tri3} (h : ∀ t ∈ ts, t ∈ us) : inAll ts us = true := by
  unfold inAll
  rw [List.all_eq_true]
  exact fun t ht => decide_eq_true (h t ht)
open Go.RowKit Go.WideShapes
end Go.Proofs.YtmiiaebelncdhaaGreat
/- What the drawn patterns are: texts of a bounded length. -/
namespace Go.Proofs.YtmiiaebelncdhaaGreat
open Go.RowKit Go.WideShapes
set_option maxHeartbeats 400000 in
theorem rdVariable (B g : Nat) (w : World) (h : Rd B w g) :
    Calls Tryz.prog 74 #[.pointer (some ⟨g, 0, none⟩)] w fun e w' => ∃ s : ByteArray, 1 ≤ s.size ∧ s.size ≤ 6 ∧ e = .returned (.string s) ∧ Rd B w' g ∧ w.grownBy w' (some g) := by
  have hgw := h.2.1
  go_enter Tryz.func74, Tryz.ntmps74
  go_wp2_with fail
  refine (rdBelow B g _ (h.alloc _) 3 (by omega) (by omega)).mono ?_
  rintro e w1 ⟨m, hm, hm2, rfl, hr, hg⟩
  obtain ⟨m, rfl⟩ := Int.eq_ofNat_of_zero_le hm
  obtain ⟨s, hs, hc⟩ := strs_cell hg hgw 1 6 rfl m (by simp; omega)
  go_wp2_with fail
  go_ret
  exact ⟨s, hs.1, hs.2, rfl, hr, ((World.grownBy_alloc _ _ _).trans hg)⟩
set_option maxRecDepth 100000 in
set_option maxHeartbeats 3200000 in
theorem rdPattern (B g : Nat) (w : World) (h : Rd B w g) :
    Calls Tryz.prog 91 #[.pointer (some ⟨g, 0, none⟩)] w fun e w' => ∃ s p o : ByteArray, s.size ≤ 20 ∧ p.size ≤ 20 ∧ o.size ≤ 20 ∧ e = .returned (.agg #[.string s, .string p, .string o]) ∧ Rd B w' g ∧ w.grownBy w' (some g) := by
  have hgw := h.2.1
  have hB := h.1
  have R0 := Box.new w (.string ⟨#[]⟩) (.string ⟨#[]⟩) (.string ⟨#[]⟩) 42
  have G0 := World.grownBy_alloc w (.cells #[.string ⟨#[]⟩, .string ⟨#[]⟩, .string ⟨#[]⟩] 42) (some g)
  go_enter Tryz.func91, Tryz.ntmps91
  go_wp2_with fail
  refine (rdTriple B g _ (h.alloc _)).mono ?_
  rintro e w1 ⟨s, p, o, ⟨_, hs⟩, hp, ho, rfl, hr1, hg1⟩
  have R1 := R0.grown hg1 (by simp; omega)
  have G1 := G0.trans hg1
  have l1 := R1.lt
  clear hg1 R0 G0
  have T1 := Box.new w1 (.string s) (.string p) (.string o) 42
  have R2 := R1.alloc (.cells #[.string s, .string p, .string o] 42)
  have G2 := G1.trans (World.grownBy_alloc w1 (.cells #[.string s, .string p, .string o] 42) (some g))
  have hr2 := hr1.alloc (.cells #[.string s, .string p, .string o] 42)
  clear R1 G1 hr1
  go_wp2_with fail
  generalize hA : w1.alloc (.cells #[.string s, .string p, .string o] 42) = wz at T1 R2 G2 hr2 ⊢
  clear hA
  generalize w1.heap.size = tb at T1 l1 ⊢
  refine (rdOnce B g _ hr2 2 (by omega) (by omega)).mono ?_
  rintro e wz ⟨b, rfl, hr, hg⟩
  have R := R2.grown hg (by simp; omega)
  have T := T1.grown hg (by simp; omega)
  have G := G2.trans hg
  clear hg R2 T1 G2 hr2
  cases b
  case' true =>
    obtain ⟨c0, c1, c2⟩ := T.cells
    obtain ⟨f0, f1, f2⟩ := T.free
    go_wp2_with fail
    refine (rdVariable B g _ hr).mono ?_
    rintro e wy ⟨x, _, hx, rfl, hr', hg⟩
    have R2 := (R.grown hg (by simp; omega)).far (a := ⟨tb, 0, none⟩) (by simp; omega) (.string x)
    have T' := T.grown hg (by simp; omega)
    have G2 := grown_setNew (G.trans hg) (a := ⟨tb, 0, none⟩) (by simp; omega) (.string x)
    have hr2 := hr'.setFar (a := ⟨tb, 0, none⟩) (by simp; omega) (by simp; omega) (.string x)
    clear hg R T G hr hr' c0 c1 c2 f0 f1 f2 hs
    obtain ⟨c0, c1, c2⟩ := T'.cells
    obtain ⟨f0, f1, f2⟩ := T'.free
    have T1 := T'.set0 (.string x)
    have hs : x.size ≤ 20 := by omega
    clear T'
    go_wp2_with fail
    clear c0 c1 c2 f0 f1 f2 hx
    generalize wy.setCell ⟨tb, 0, none⟩ (.string x) = wz at R2 T1 G2 hr2 ⊢
    obtain ⟨s, rfl⟩ : ∃ z, z = x := ⟨_, rfl⟩
  case' false =>
    go_wp2_with fail
    have R2 := R
    have T1 := T
    have G2 := G
    have hr2 := hr
    clear R T G hr
  all_goals
    refine (rdOnce B g _ hr2 5 (by omega) (by omega)).mono ?_
    rintro e wz ⟨b, rfl, hr, hg⟩
    have R := R2.grown hg (by simp; omega)
    have T := T1.grown hg (by simp; omega)
    have G := G2.trans hg
    clear hg R2 T1 G2 hr2
    cases b
    case' true =>
      obtain ⟨c0, c1, c2⟩ := T.cells
      obtain ⟨f0, f1, f2⟩ := T.free
      go_wp2_with fail
      refine (rdVariable B g _ hr).mono ?_
      rintro e wy ⟨x, _, hx, rfl, hr', hg⟩
      have R2 := (R.grown hg (by simp; omega)).far (a := ⟨tb, 1, none⟩) (by simp; omega) (.string x)
      have T' := T.grown hg (by simp; omega)
      have G2 := grown_setNew (G.trans hg) (a := ⟨tb, 1, none⟩) (by simp; omega) (.string x)
      have hr2 := hr'.setFar (a := ⟨tb, 1, none⟩) (by simp; omega) (by simp; omega) (.string x)
      clear hg R T G hr hr' c0 c1 c2 f0 f1 f2 hp
      obtain ⟨c0, c1, c2⟩ := T'.cells
      obtain ⟨f0, f1, f2⟩ := T'.free
      have T1 := T'.set1 (.string x)
      have hp : x.size ≤ 20 := by omega
      clear T'
      go_wp2_with fail
      clear c0 c1 c2 f0 f1 f2 hx
      generalize wy.setCell ⟨tb, 1, none⟩ (.string x) = wz at R2 T1 G2 hr2 ⊢
      obtain ⟨p, rfl⟩ : ∃ z, z = x := ⟨_, rfl⟩
    case' false =>
      go_wp2_with fail
      have R2 := R
      have T1 := T
      have G2 := G
      have hr2 := hr
      clear R T G hr
    all_goals
      refine (rdOnce B g _ hr2 3 (by omega) (by omega)).mono ?_
      rintro e wz ⟨b, rfl, hr, hg⟩
      have R := R2.grown hg (by simp; omega)
      have T := T1.grown hg (by simp; omega)
      have G := G2.trans hg
      clear hg R2 T1 G2 hr2
      cases b
      case' false =>
        obtain ⟨c0, c1, c2⟩ := T.cells
        obtain ⟨f0, f1, f2⟩ := T.free
        go_wp2_with fail
        refine (rdVariable B g _ hr).mono ?_
        rintro e wy ⟨x, _, hx, rfl, hr', hg⟩
        have R' := R.grown hg (by simp; omega)
        have R2 := R'.far (a := ⟨tb, 2, none⟩) (by simp; omega) (.string x)
        have T' := T.grown hg (by simp; omega)
        have G2 := grown_setNew (G.trans hg) (a := ⟨tb, 2, none⟩) (by simp; omega) (.string x)
        have hr2 := hr'.setFar (a := ⟨tb, 2, none⟩) (by simp; omega) (by simp; omega) (.string x)
        clear hg R T G hr hr' c0 c1 c2 f0 f1 f2 ho
        obtain ⟨c0, c1, c2⟩ := T'.cells
        obtain ⟨f0, f1, f2⟩ := T'.free
        obtain ⟨d0, d1, d2⟩ := R'.cells
        obtain ⟨k0, k1, k2⟩ := R'.free
        have ho : x.size ≤ 20 := by omega
        have hne : ¬ w.heap.size = tb := by omega
        have hne2 : ¬ tb = w.heap.size := by omega
        clear T' R'
        go_wp2_with fail
        clear c0 c1 c2 f0 f1 f2 d0 d1 d2 k0 k1 k2 hx
        generalize wy.setCell ⟨tb, 2, none⟩ (.string x) = wz at R2 G2 hr2 ⊢
        obtain ⟨o, rfl⟩ : ∃ z, z = x := ⟨_, rfl⟩
      case' true =>
        obtain ⟨c0, c1, c2⟩ := T.cells
        obtain ⟨f0, f1, f2⟩ := T.free
        obtain ⟨d0, d1, d2⟩ := R.cells
        obtain ⟨k0, k1, k2⟩ := R.free
        go_wp2_with fail
        have R2 := R
        have G2 := G
        have hr2 := hr
        clear R T G hr c0 c1 c2 f0 f1 f2 d0 d1 d2 k0 k1 k2
      all_goals
        obtain ⟨d0, d1, d2⟩ := R2.cells
        obtain ⟨k0, k1, k2⟩ := R2.free
        refine bodyPost_ret (v := .agg #[.string s, .string p, .string o]) (by simp [results, Tryz.results91, go_sem, *]) rfl ⟨s, p, o, hs, hp, ho, rfl, ?_, ?_⟩
        · exact ((hr2.setFar (by simp; omega) (by simp; omega) _).setFar (by simp; omega) (by simp; omega) _).setFar (by simp; omega) (by simp; omega) _
        · exact grown_setNew (grown_setNew (grown_setNew G2 (by simp) _) (by simp) _) (by simp) _
end Go.Proofs.YtmiiaebelncdhaaGreat
/- What is asked: drawn patterns of a bounded length. -/
namespace Go.Proofs.YtmiiaebelncdhaaGreat
open Go.RowKit Go.WideShapes
def SmA (ps : List Tri3) : Prop := ∀ t ∈ ps, t.1.size ≤ 20 ∧ t.2.1.size ≤ 20 ∧ t.2.2.size ≤ 20
theorem SmA.max {ps : List Tri3} (h : SmA ps) : ∀ t ∈ ps, t.1.size ≤ maxLen ∧ t.2.1.size ≤ maxLen ∧ t.2.2.size ≤ maxLen := fun t ht => by have := h t ht; unfold maxLen; omega
theorem SmA.snoc {ps : List Tri3} (h : SmA ps) {s p o : ByteArray} (h1 : s.size ≤ 20) (h2 : p.size ≤ 20) (h3 : o.size ≤ 20) : SmA (ps ++ [(s, p, o)]) := fun t ht => by
  rcases List.mem_append.1 ht with h' | h'
  · exact h t h'
  · obtain rfl := List.mem_singleton.1 h'
    exact ⟨h1, h2, h3⟩
theorem Box.set2 {w : World} {g : Nat} {x y z : Value} {T : TypeId} (h : Box w g x y z T) (u : Value) : Box (w.setCell ⟨g, 2, none⟩ u) g x y u T := by
  unfold Box at h ⊢; simp [World.setCell, Array.getElem?_modify, h]
theorem own_far {B g L : Nat} {w w' : World} {x : Option Addr} {y : Nat} {ts : List Tri3} (h : OwnT B w (.slice x L y) ts) (hl : ts.length = L) (hg : w.grownBy w' (some g)) (hB : g < B) : OwnT B w' (.slice x L y) ts ∧ w'.ownsRow B 42 3 (.slice x L y) L (flat ts) := by
  have h2 := own_rd h hg hB (Nat.le_refl _)
  refine ⟨h2, ?_⟩
  unfold OwnT at h2
  rw [hl] at h2
  exact h2
set_option maxRecDepth 100000 in
set_option maxHeartbeats 3200000 in
theorem rdAsked (B C g : Nat) (w : World) (h : Rd B w g) (v : Value) (ts : List Tri3) (ho : OwnT C w v ts) (hgC : g < C) (hs : SmG ts) :
    Calls Tryz.prog 46 #[.pointer (some ⟨g, 0, none⟩), v] w fun e w' => ∃ (u : Value) (ps : List Tri3), e = .returned u ∧ (1 ≤ ps.length ∧ ps.length ≤ 3) ∧ SmA ps ∧ OwnT w.heap.size w' u ps ∧ Rd B w' g ∧ w.grownBy w' (some g) := by
  obtain ⟨i0, hi, hz0, hz1, hzB⟩ := info_parts infoTri
  obtain ⟨a, ca, rfl, hI⟩ := ho.is hs.maxLen
  obtain ⟨la, hla⟩ : ∃ la, ts.length = la := ⟨_, rfl⟩
  rw [hla] at ho hI ⊢
  have hla81 : la ≤ 81 := by have := hs.1; omega
  have HO := Lib.hid ho
  have HLA := Lib.hid hla
  have hgw := h.2.1
  have hBg := h.1
  have R0 := h.alloc (.cells #[] 42)
  have G0 := World.grownBy_alloc w (.cells #[] 42) (some g)
  have O0 : OwnT w.heap.size (w.alloc (.cells #[] 42)) (.slice (some ⟨w.heap.size, 0, none⟩) 0 0) [] := World.ownsRow_lit (size := 3) (e := 42) w #[] 0 (Nat.le_refl _) (by decide) rfl
  have RB := rdBelow B g _ R0 3 (by omega) (by omega)
  have HRB := Lib.hid RB
  have HU := Lib.hid O0
  clear O0 RB R0 ho hI hla
  go_enter Tryz.func46, Tryz.ntmps46
  go_wp2_with fail
  refine HRB.out.mono ?_
  rintro e w1 ⟨m, hm0, hm1, rfl, r1, g1⟩
  have G1 := G0.trans g1
  have O1 := own_rd HU.out g1 hgw (Nat.le_refl _)
  obtain ⟨m, rfl⟩ := Int.eq_ofNat_of_zero_le hm0
  have hm2 : m ≤ 2 := by omega
  have HR1 := Lib.hid r1
  have HO1 := Lib.hid O1
  clear g1 G0 HU O1 r1 HRB hm0 hm1
  go_wp2_with fail
  go_loopw [5, 6] (fun u' i wr => ∃ (k : Nat) (u : Value) (ps : List Tri3), k ≤ 3 ∧ i = .int .i64 k ∧ u = u' ∧ Hid ((1 ≤ ps.length + k ∧ ps.length + k ≤ 3) ∧ SmA ps) ∧ Hid (OwnT w.heap.size wr u ps) ∧ Hid (Rd B wr g) ∧ w.grownBy wr (some g)) (fun _ i _ => (intOf i).toNat)
  case atStart => exact ⟨1 + m, _, [], by omega, by go_num, rfl, Lib.hid ⟨by simp; omega, fun t ht => by simp at ht⟩, HO1, HR1, G1⟩
  case round =>
    obtain ⟨k, u, ps, hk, rfl, rfl, hsm, hown, hrd, hg⟩ := hrel
    clear HO1 HR1 G1 hm2
    obtain ⟨x, y, rfl, _⟩ := hown.out.is hsm.out.2.max
    obtain ⟨L, hL⟩ : ∃ L, ps.length = L := ⟨_, rfl⟩
    rw [hL] at hown ⊢
    have HL := Lib.hid hL
    have hL3 : L + k ≤ 3 := by have := hsm.out.1; omega
    have hL1 : 1 ≤ L + k := by have := hsm.out.1; omega
    clear hL
    by_cases hk0 : 0 < k
    · have hk1 : (0 : Int) < (k : Int) := by omega
      by_cases hl0 : la = 0
      · subst hl0
        have HP := Lib.hid (rdPattern B g wr hrd.out)
        go_wp2_with fail
        refine HP.out.mono ?_
        rintro e w3 ⟨s, p, o, z1, z2, z3, rfl, r3, g3⟩
        have G3 := hg.trans g3
        have O3 := own_far hown.out HL.out g3 hgw
        have hlt := fun q hq => (World.ownsRow.lt O3.2 q hq).1
        have OA := Lib.hid (World.ownsRow.alloc O3.2 (.cells #[.string s, .string p, .string o] 42))
        have RA := Lib.hid (r3.alloc (.cells #[.string s, .string p, .string o] 42))
        have GA := G3.trans (World.grownBy_alloc w3 (.cells #[.string s, .string p, .string o] 42) (some g))
        have hz3 := (G3).size
        have HH := Lib.hid (three_cell (w := w3) (u := .string s) (v := .string p) (z := .string o) (e := 42))
        have HQ := Lib.hid (And.intro z1 (And.intro z2 z3))
        clear hg g3 r3 hown hrd HP O3 G3 z1 z2 z3
        go_wp2_with (at_builtin; refine wpList_append_own _ rfl _ _ 24 rfl w.heap.size 42 i0 (.agg #[.string ⟨#[]⟩, .string ⟨#[]⟩, .string ⟨#[]⟩]) 3 48 Tryz.underlying24 hi hz0 hz1 hzB rfl (by decide) _ _ _ rfl OA.out ⟨w3.heap.size, 0, none⟩ 1 _ [.string s, .string p, .string o] rfl rfl HH.out (by intro z hz; simp at hz; rcases hz with rfl | rfl | rfl <;> rfl) ?h63 ?h48 ?hbs ?_)
        case h63 => unfold maxLen; omega
        case h48 => omega
        case hbs => simp only [World.size_alloc]; omega
        intro v5 w5 hown5 hg5 _
        have O5 : OwnT w.heap.size w5 v5 (ps ++ [(s, p, o)]) := own3_snoc (t := (s, p, o)) (by rw [HL.out]; exact hown5)
        have R5 := Lib.hid (RA.out.grown hg5 (fun q e => by have := hlt q e; omega))
        have G5 := grown_off GA hg5 (fun q e => hlt q e)
        have HO5 := Lib.hid O5
        clear hown5 hg5 OA RA HH GA O5
        go_wp2_with fail
        go_roundw
        case rel => exact ⟨k - 1, v5, ps ++ [(s, p, o)], by omega, by rw [show ((k - 1 : Nat) : Int) = (k : Int) - 1 from by omega], rfl, Lib.hid ⟨by simp [HL.out]; omega, hsm.out.2.snoc HQ.out.1 HQ.out.2.1 HQ.out.2.2⟩, HO5, R5, G5⟩
        case measure => simp [intOf]; omega
      · have hl1 : ¬ (la : Int) = 0 := by omega
        have HO4 := Lib.hid (rdOnce B g wr hrd.out 4 (by omega) (by omega))
        go_wp2_with fail
        refine HO4.out.mono ?_
        rintro e w2 ⟨b, rfl, r2, g2⟩
        have G2 := hg.trans g2
        have O2 := Lib.hid (own_far hown.out HL.out g2 hgw)
        have R2 := Lib.hid r2
        clear hg g2 r2 hown hrd HO4
        cases b
        · have HB := Lib.hid (rdBelow B g w2 R2.out la (by omega) (by omega))
          go_wp2_with fail
          refine HB.out.mono ?_
          rintro e w3 ⟨q, hq0, hq1, rfl, r3, g3⟩
          obtain ⟨q, rfl⟩ := Int.eq_ofNat_of_zero_le hq0
          have hq : q < la := by omega
          have G3 := G2.trans g3
          have O3 := Lib.hid (own_far O2.out.1 HL.out g3 hgw)
          have hlt := fun q hq => (World.ownsRow.lt O3.out.2 q hq).1
          obtain ⟨a', c', e', hI⟩ := (own_far HO.out HLA.out G3 hgC).1.is hs.maxLen
          rw [HLA.out] at e' hI
          cases e'
          obtain ⟨tb0, to, rfl, htb0, _, _, hts, hcs⟩ := hI.cells (by omega)
          have ht : ts[q]? = some (ts[q]'(by omega)) := List.getElem?_eq_getElem (by omega)
          obtain ⟨c0, c1, c2, _⟩ := hcs q _ ht
          have hz := hs.2 _ (List.getElem_mem (by omega : q < ts.length))
          generalize ts[q]'(by omega) = t at ht c0 c1 c2 hz
          obtain ⟨s, p, o⟩ := t
          dsimp only at c0 c1 c2 hz
          obtain ⟨z1, z2, z3⟩ := hz
          have T1 := Box.new w3 (.string s) (.string p) (.string o) 42
          have V1 := World.grownBy_alloc w3 (.cells #[.string s, .string p, .string o] 42) (some g)
          have hr2 := r3.alloc (.cells #[.string s, .string p, .string o] 42)
          have hz3' := G3.size
          have HG3 := Lib.hid G3
          clear g3 r3 G2 O2 R2 HB hcs hI G3
          go_wp2_with fail
          clear c0 c1 c2
          generalize hA : w3.alloc (.cells #[.string s, .string p, .string o] 42) = wz at T1 V1 hr2 ⊢
          clear hA
          obtain ⟨tb, htb⟩ : ∃ tb, w3.heap.size = tb := ⟨_, rfl⟩
          rw [htb] at T1 ⊢
          have hgt : g < tb := by omega
          have htb' : w3.heap.size ≤ tb := by omega
          have hBt : B ≤ tb := by omega
          clear htb
          refine (rdOnce B g _ hr2 3 (by omega) (by omega)).mono ?_
          rintro e wz ⟨b, rfl, hr, hg⟩
          have T := T1.grown hg (by simp; omega)
          have V := V1.trans hg
          clear hg T1 V1 hr2
          cases b
          case' false =>
            obtain ⟨c0, c1, c2⟩ := T.cells
            obtain ⟨f0, f1, f2⟩ := T.free
            go_wp2_with fail
            refine (rdVariable B g _ hr).mono ?_
            rintro e wy ⟨x9, _, hx, rfl, hr', hg⟩
            have T' := T.grown hg (by simp; omega)
            have V1 := grown_setNew (V.trans hg) (a := ⟨tb, 0, none⟩) (by simp; omega) (.string x9)
            have hr2 := hr'.setFar (a := ⟨tb, 0, none⟩) (by simp; omega) (by simp; omega) (.string x9)
            clear hg T V hr hr' c0 c1 c2 f0 f1 f2 z1
            obtain ⟨c0, c1, c2⟩ := T'.cells
            obtain ⟨f0, f1, f2⟩ := T'.free
            have T1 := T'.set0 (.string x9)
            have z1 : x9.size ≤ 20 := by omega
            clear T'
            go_wp2_with fail
            clear c0 c1 c2 f0 f1 f2 hx
            generalize wy.setCell ⟨tb, 0, none⟩ (.string x9) = wz at T1 V1 hr2 ⊢
            obtain ⟨s, rfl⟩ : ∃ z, z = x9 := ⟨_, rfl⟩
          case' true =>
            go_wp2_with fail
            have T1 := T
            have V1 := V
            have hr2 := hr
            clear T V hr
          all_goals
            refine (rdOnce B g _ hr2 6 (by omega) (by omega)).mono ?_
            rintro e wz ⟨b, rfl, hr, hg⟩
            have T := T1.grown hg (by simp; omega)
            have V := V1.trans hg
            clear hg T1 V1 hr2
            cases b
            case' true =>
              obtain ⟨c0, c1, c2⟩ := T.cells
              obtain ⟨f0, f1, f2⟩ := T.free
              go_wp2_with fail
              refine (rdVariable B g _ hr).mono ?_
              rintro e wy ⟨x9, _, hx, rfl, hr', hg⟩
              have T' := T.grown hg (by simp; omega)
              have V1 := grown_setNew (V.trans hg) (a := ⟨tb, 1, none⟩) (by simp; omega) (.string x9)
              have hr2 := hr'.setFar (a := ⟨tb, 1, none⟩) (by simp; omega) (by simp; omega) (.string x9)
              clear hg T V hr hr' c0 c1 c2 f0 f1 f2 z2
              obtain ⟨c0, c1, c2⟩ := T'.cells
              obtain ⟨f0, f1, f2⟩ := T'.free
              have T1 := T'.set1 (.string x9)
              have z2 : x9.size ≤ 20 := by omega
              clear T'
              go_wp2_with fail
              clear c0 c1 c2 f0 f1 f2 hx
              generalize wy.setCell ⟨tb, 1, none⟩ (.string x9) = wz at T1 V1 hr2 ⊢
              obtain ⟨p, rfl⟩ : ∃ z, z = x9 := ⟨_, rfl⟩
            case' false =>
              go_wp2_with fail
              have T1 := T
              have V1 := V
              have hr2 := hr
              clear T V hr
            all_goals
              refine (rdOnce B g _ hr2 3 (by omega) (by omega)).mono ?_
              rintro e wz ⟨b, rfl, hr, hg⟩
              have T := T1.grown hg (by simp; omega)
              have V := V1.trans hg
              clear hg T1 V1 hr2
              cases b
              case false =>
                obtain ⟨c0, c1, c2⟩ := T.cells
                obtain ⟨f0, f1, f2⟩ := T.free
                go_wp2_with fail
                refine (rdVariable B g _ hr).mono ?_
                rintro e wy ⟨x9, _, hx, rfl, hr', hg⟩
                have T' := T.grown hg (by simp; omega)
                have V1 := grown_setNew (V.trans hg) (a := ⟨tb, 2, none⟩) (by simp; omega) (.string x9)
                have hr2 := hr'.setFar (a := ⟨tb, 2, none⟩) (by simp; omega) (by simp; omega) (.string x9)
                clear hg T V hr hr' c0 c1 c2 f0 f1 f2 z3
                obtain ⟨c0, c1, c2⟩ := T'.cells
                obtain ⟨f0, f1, f2⟩ := T'.free
                have z3 : x9.size ≤ 20 := by omega
                clear T'
                have O4 := own_far O3.out.1 HL.out V1 hgw
                have GG := HG3.out.trans V1
                have OA := Lib.hid (World.ownsRow.alloc O4.2 (.cells #[.string s, .string p, .string x9] 42))
                have RA := Lib.hid (hr2.alloc (.cells #[.string s, .string p, .string x9] 42))
                have GA := GG.trans (World.grownBy_alloc (wy.setCell ⟨tb, 2, none⟩ (.string x9)) (.cells #[.string s, .string p, .string x9] 42) (some g))
                have hz3 := GG.size
                have HH0 := three_cell (w := wy.setCell ⟨tb, 2, none⟩ (.string x9)) (u := .string s) (v := .string p) (z := .string x9) (e := 42)
                rw [show (wy.setCell ⟨tb, 2, none⟩ (.string x9)).heap.size = wy.heap.size from by simp [World.setCell]] at HH0
                have HH := Lib.hid HH0
                have HQ := Lib.hid (And.intro z1 (And.intro z2 z3))
                clear GG V1 hr2 O4 z1 z2 HH0
                go_wp2_with (at_builtin; refine wpList_append_own _ rfl _ _ 24 rfl w.heap.size 42 i0 (.agg #[.string ⟨#[]⟩, .string ⟨#[]⟩, .string ⟨#[]⟩]) 3 48 Tryz.underlying24 hi hz0 hz1 hzB rfl (by decide) _ _ _ rfl OA.out _ 1 _ [.string s, .string p, .string x9] rfl rfl HH.out (by intro z hz; simp at hz; rcases hz with rfl | rfl | rfl <;> rfl) ?h63 ?h48 ?hbs ?_)
                case h63 => unfold maxLen; omega
                case h48 => omega
                case hbs => simp only [World.size_alloc]; omega
                intro v5 w5 hown5 hg5 _
                have O5 : OwnT w.heap.size w5 v5 (ps ++ [(s, p, x9)]) := own3_snoc (t := (s, p, x9)) (by rw [HL.out]; exact hown5)
                have R5 := Lib.hid (RA.out.grown hg5 (fun q e => by have := hlt q e; omega))
                have G5 := grown_off GA hg5 (fun q e => hlt q e)
                have HO5 := Lib.hid O5
                clear hown5 hg5 OA RA HH GA O5
                go_wp2_with fail
                go_roundw
                case rel => exact ⟨k - 1, v5, ps ++ [(s, p, x9)], by omega, by rw [show ((k - 1 : Nat) : Int) = (k : Int) - 1 from by omega], rfl, Lib.hid ⟨by simp [HL.out]; omega, hsm.out.2.snoc HQ.out.1 HQ.out.2.1 HQ.out.2.2⟩, HO5, R5, G5⟩
                case measure => simp [intOf]; omega
              case true =>
                obtain ⟨c0, c1, c2⟩ := T.cells
                obtain ⟨f0, f1, f2⟩ := T.free
                have V1 := V
                have hr2 := hr
                clear T V hr
                have O4 := own_far O3.out.1 HL.out V1 hgw
                have GG := HG3.out.trans V1
                have OA := Lib.hid (World.ownsRow.alloc O4.2 (.cells #[.string s, .string p, .string o] 42))
                have RA := Lib.hid (hr2.alloc (.cells #[.string s, .string p, .string o] 42))
                have GA := GG.trans (World.grownBy_alloc (wz) (.cells #[.string s, .string p, .string o] 42) (some g))
                have hz3 := GG.size
                have HH0 := three_cell (w := wz) (u := .string s) (v := .string p) (z := .string o) (e := 42)
                have HH := Lib.hid HH0
                have HQ := Lib.hid (And.intro z1 (And.intro z2 z3))
                clear GG V1 hr2 O4 z1 z2 HH0
                go_wp2_with (at_builtin; refine wpList_append_own _ rfl _ _ 24 rfl w.heap.size 42 i0 (.agg #[.string ⟨#[]⟩, .string ⟨#[]⟩, .string ⟨#[]⟩]) 3 48 Tryz.underlying24 hi hz0 hz1 hzB rfl (by decide) _ _ _ rfl OA.out _ 1 _ [.string s, .string p, .string o] rfl rfl HH.out (by intro z hz; simp at hz; rcases hz with rfl | rfl | rfl <;> rfl) ?h63 ?h48 ?hbs ?_)
                case h63 => unfold maxLen; omega
                case h48 => omega
                case hbs => simp only [World.size_alloc]; omega
                intro v5 w5 hown5 hg5 _
                have O5 : OwnT w.heap.size w5 v5 (ps ++ [(s, p, o)]) := own3_snoc (t := (s, p, o)) (by rw [HL.out]; exact hown5)
                have R5 := Lib.hid (RA.out.grown hg5 (fun q e => by have := hlt q e; omega))
                have G5 := grown_off GA hg5 (fun q e => hlt q e)
                have HO5 := Lib.hid O5
                clear hown5 hg5 OA RA HH GA O5
                go_wp2_with fail
                go_roundw
                case rel => exact ⟨k - 1, v5, ps ++ [(s, p, o)], by omega, by rw [show ((k - 1 : Nat) : Int) = (k : Int) - 1 from by omega], rfl, Lib.hid ⟨by simp [HL.out]; omega, hsm.out.2.snoc HQ.out.1 HQ.out.2.1 HQ.out.2.2⟩, HO5, R5, G5⟩
                case measure => simp [intOf]; omega
        · have HP := Lib.hid (rdPattern B g w2 R2.out)
          go_wp2_with fail
          refine HP.out.mono ?_
          rintro e w3 ⟨s, p, o, z1, z2, z3, rfl, r3, g3⟩
          have G3 := G2.trans g3
          have O3 := own_far O2.out.1 HL.out g3 hgw
          have hlt := fun q hq => (World.ownsRow.lt O3.2 q hq).1
          have OA := Lib.hid (World.ownsRow.alloc O3.2 (.cells #[.string s, .string p, .string o] 42))
          have RA := Lib.hid (r3.alloc (.cells #[.string s, .string p, .string o] 42))
          have GA := G3.trans (World.grownBy_alloc w3 (.cells #[.string s, .string p, .string o] 42) (some g))
          have hz3 := (G3).size
          have HH := Lib.hid (three_cell (w := w3) (u := .string s) (v := .string p) (z := .string o) (e := 42))
          have HQ := Lib.hid (And.intro z1 (And.intro z2 z3))
          clear G2 g3 r3 O2 R2 HP O3 G3 z1 z2 z3
          go_wp2_with (at_builtin; refine wpList_append_own _ rfl _ _ 24 rfl w.heap.size 42 i0 (.agg #[.string ⟨#[]⟩, .string ⟨#[]⟩, .string ⟨#[]⟩]) 3 48 Tryz.underlying24 hi hz0 hz1 hzB rfl (by decide) _ _ _ rfl OA.out ⟨w3.heap.size, 0, none⟩ 1 _ [.string s, .string p, .string o] rfl rfl HH.out (by intro z hz; simp at hz; rcases hz with rfl | rfl | rfl <;> rfl) ?h63 ?h48 ?hbs ?_)
          case h63 => unfold maxLen; omega
          case h48 => omega
          case hbs => simp only [World.size_alloc]; omega
          intro v5 w5 hown5 hg5 _
          have O5 : OwnT w.heap.size w5 v5 (ps ++ [(s, p, o)]) := own3_snoc (t := (s, p, o)) (by rw [HL.out]; exact hown5)
          have R5 := Lib.hid (RA.out.grown hg5 (fun q e => by have := hlt q e; omega))
          have G5 := grown_off GA hg5 (fun q e => hlt q e)
          have HO5 := Lib.hid O5
          clear hown5 hg5 OA RA HH GA O5
          go_wp2_with fail
          go_roundw
          case rel => exact ⟨k - 1, v5, ps ++ [(s, p, o)], by omega, by rw [show ((k - 1 : Nat) : Int) = (k : Int) - 1 from by omega], rfl, Lib.hid ⟨by simp [HL.out]; omega, hsm.out.2.snoc HQ.out.1 HQ.out.2.1 HQ.out.2.2⟩, HO5, R5, G5⟩
          case measure => simp [intOf]; omega
    · obtain rfl : k = 0 := by omega
      go_wp2_with fail
      go_ret
      exact ⟨_, ps, rfl, by rw [HL.out]; omega, hsm.out.2, hown.out, hrd.out, hg⟩
end Go.Proofs.YtmiiaebelncdhaaGreat
