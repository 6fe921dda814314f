/- Drawn graphs once more: no predicate of theirs is the one name that is never drawn. -/
import Derived.Test.YtmiiaebelncdhaaGreatG15
import Derived.Test.YtmiiaebelncdhaaGreatG42
import Derived.Test.YtmiiaebelncdhaaGreatG38
import Derived.Test.YtmiiaebelncdhaaGreatG33
import Derived.Test.YtmiiaebelncdhaaGreatG35
import Derived.Test.YtmiiaebelncdhaaGreatG40
import Derived.Test.YtmiiaebelncdhaaGreatG34
namespace Go.Proofs.YtmiiaebelncdhaaGreat
open Go.RowKit Go.WideShapes
/-- The text is not the name that is never drawn. -/
def NotN (s : ByteArray) : Prop := s.data.toList ≠ [60, 110, 110, 62]
def NoN (ts : List Tri3) : Prop := ∀ t ∈ ts, NotN t.2.1
theorem NoN.nil : NoN [] := fun t ht => by simp at ht
theorem notN_lit : NotN ⟨#[95, 58, 98]⟩ := by unfold NotN; decide
theorem NoN.snoc {ts : List Tri3} {u : Tri3} (h : NoN ts) (hu : u ∈ ts) : NoN (ts ++ [u]) := fun t ht => by
  rcases List.mem_append.1 ht with h' | h'
  · exact h t h'
  · obtain rfl := List.mem_singleton.1 h'
    exact h _ hu
theorem NoN.with_ {ts : List Tri3} {t : Tri3} (h : NoN ts) (ht : NotN t.2.1) : NoN ((withT ts t).getD []) := by
  cases e : withT ts t with
  | none => exact NoN.nil
  | some g =>
    obtain ⟨_, _, rfl, hg⟩ := withT_some e
    intro u hu
    rcases putT_mem.1 hu with rfl | hu
    · exact ht
    · exact h u hu
def strsNot (cs : List Value) : Bool := cs.all fun | .string s => s.data.toList != [60, 110, 110, 62] | _ => false
theorem strs_cellN {w w1 : World} {cs : List Value} {T g : Nat} (hg : (w.alloc (.cells cs.toArray T)).grownBy w1 (some g)) (hgw : g < w.heap.size) (L K : Nat) (hall : strsOk L K cs = true) (hnot : strsNot cs = true) (m : Nat) (hm : m < cs.length) :
    ∃ s : ByteArray, ((L ≤ s.size ∧ s.size ≤ K) ∧ NotN s) ∧ w1.cell? ⟨w.heap.size, m, none⟩ = some (.string s) := by
  have h1 := List.all_eq_true.1 hall cs[m] (List.getElem_mem hm)
  have h2 := List.all_eq_true.1 hnot cs[m] (List.getElem_mem hm)
  split at h1
  · rename_i s hs
    rw [hs] at h2
    refine ⟨s, ⟨by simpa using h1, by unfold NotN; simpa using h2⟩, hg.cell ?_ (by simp; omega)⟩
    rw [World.cell?_alloc_at _ _ _ _ rfl]
    simp [List.getElem?_eq_getElem hm, hs]
  · simp at h1
set_option maxHeartbeats 400000 in
theorem rdPredN (B g : Nat) (w : World) (h : Rd B w g) :
    Calls Tryz.prog 111 #[.pointer (some ⟨g, 0, none⟩)] w fun e w' => ∃ s : ByteArray, 1 ≤ s.size ∧ s.size ≤ 6 ∧ NotN s ∧ e = .returned (.string s) ∧ Rd B w' g ∧ w.grownBy w' (some g) := by
  have hgw := h.2.1
  go_enter Tryz.func111, Tryz.ntmps111
  go_wp2_with fail
  refine (rdBelow B g _ (h.alloc _) 7 (by omega) (by omega)).mono ?_
  rintro e w1 ⟨m, hm, hm2, rfl, hr, hg⟩
  obtain ⟨m, rfl⟩ := Int.eq_ofNat_of_zero_le hm
  obtain ⟨s, hs, hc⟩ := strs_cellN hg hgw 1 6 rfl rfl m (by simp; omega)
  go_wp2_with fail
  go_ret
  exact ⟨s, hs.1.1, hs.1.2, hs.2, rfl, hr, ((World.grownBy_alloc _ _ _).trans hg)⟩
set_option maxRecDepth 100000 in
set_option maxHeartbeats 1600000 in
theorem rdTripleN (B g : Nat) (w : World) (h : Rd B w g) :
    Calls Tryz.prog 68 #[.pointer (some ⟨g, 0, none⟩)] w fun e w' => ∃ s p o : ByteArray, (1 ≤ s.size ∧ s.size ≤ 20) ∧ p.size ≤ 20 ∧ o.size ≤ 20 ∧ NotN p ∧ e = .returned (.agg #[.string s, .string p, .string o]) ∧ Rd B w' g ∧ w.grownBy w' (some g) := by
  have hgw := h.2.1
  have hB := h.1
  have R0 := Box.new w (.string ⟨#[]⟩) (.string ⟨#[]⟩) (.string ⟨#[]⟩) 42
  have G0 := World.grownBy_alloc w (.cells #[.string ⟨#[]⟩, .string ⟨#[]⟩, .string ⟨#[]⟩] 42) (some g)
  go_enter Tryz.func68, Tryz.ntmps68
  go_wp2_with fail
  refine (rdThing B g _ (h.alloc _)).mono ?_
  rintro e w1 ⟨s, hs2, hs1, rfl, hr1, hg1⟩
  have R1 := R0.grown hg1 (by simp; omega)
  have G1 := G0.trans hg1
  clear hg1 R0 G0
  go_wp2_with fail
  refine (rdPredN B g _ hr1).mono ?_
  rintro e w2 ⟨p, _, hp, hpn, rfl, hr2, hg2⟩
  have R2 := R1.grown hg2 (by simp; omega)
  have G2 := G1.trans hg2
  clear hg2 R1 G1 hr1
  go_wp2_with fail
  refine (rdThing B g _ hr2).mono ?_
  rintro e w3 ⟨o, ho, _, rfl, hr3, hg3⟩
  have R3 := R2.grown hg3 (by simp; omega)
  have G3 := G2.trans hg3
  have l3 := R3.lt
  clear hg3 R2 G2 hr2
  have T3 := Box.new w3 (.string s) (.string p) (.string o) 42
  have i0 : (0 : Int) < s.size := by omega
  cases hq : ((s[0].toNat : Int) == 34)
  · go_wp2_with fail
    refine (rdOnce B g _ (hr3.alloc _) 60 (by omega) (by omega)).mono ?_
    rintro e w4 ⟨b, rfl, hr4, hg4⟩
    have R4 := (R3.alloc _).grown hg4 (by simp; omega)
    have T4 := T3.grown hg4 (by have := hr3.2.1; simp; omega)
    have G4 := (G3.trans (World.grownBy_alloc w3 _ _)).trans hg4
    clear hg4 R3 T3 G3 hr3 hq
    obtain ⟨c0, c1, c2⟩ := T4.cells
    obtain ⟨f0, f1, f2⟩ := T4.free
    obtain ⟨d0, d1, d2⟩ := R4.cells
    obtain ⟨k0, k1, k2⟩ := R4.free
    have hne : ¬ w.heap.size = w3.heap.size := by omega
    have hne2 : ¬ w3.heap.size = w.heap.size := by omega
    clear T4 R4
    cases b
    · go_wp2_with fail
      refine bodyPost_ret (v := .agg #[.string s, .string p, .string o]) (by simp [results, Tryz.results68, go_sem, *]) rfl ⟨s, p, o, ⟨hs1, hs2⟩, by omega, ho, hpn, rfl, ?_, ?_⟩
      · exact ((hr4.setFar (by simp; omega) (by simp; omega) _).setFar (by simp; omega) (by simp; omega) _).setFar (by simp; omega) (by simp; omega) _
      · exact grown_setNew (grown_setNew (grown_setNew G4 (by simp) _) (by simp) _) (by simp) _
    · go_wp2_with fail
      refine bodyPost_ret (v := .agg #[.string s, .string ⟨#[95, 58, 98]⟩, .string o]) (by simp [results, Tryz.results68, go_sem, *]) rfl ⟨s, _, o, ⟨hs1, hs2⟩, by simp [lit_size], ho, notN_lit, rfl, ?_, ?_⟩
      · exact (((hr4.setFar (by simp; omega) (by simp; omega) _).setFar (by simp; omega) (by simp; omega) _).setFar (by simp; omega) (by simp; omega) _).setFar (by simp; omega) (by simp; omega) _
      · exact grown_setNew (grown_setNew (grown_setNew (grown_setNew G4 (by simp; omega) _) (by simp) _) (by simp) _) (by simp) _
  · go_wp2_with fail
    refine (rdName B g _ (hr3.alloc _)).mono ?_
    rintro e w5 ⟨s', hs1', hs2', rfl, hr5, hg5⟩
    have R5 := (R3.alloc _).grown hg5 (by simp; omega)
    have T5 := T3.grown hg5 (by have := hr3.2.1; simp; omega)
    have G5 := (G3.trans (World.grownBy_alloc w3 _ _)).trans hg5
    have hg3 := hr3.2.1
    clear hg5 R3 T3 G3 hr3 hq i0
    obtain ⟨c0, c1, c2⟩ := T5.cells
    obtain ⟨f0, f1, f2⟩ := T5.free
    have hne : ¬ w.heap.size = w3.heap.size := by omega
    have hne2 : ¬ w3.heap.size = w.heap.size := by omega
    have T6 := T5.set0 (.string s')
    have R6 := R5.far (a := ⟨w3.heap.size, 0, none⟩) (by simp; omega) (.string s')
    have hr6 := hr5.setFar (a := ⟨w3.heap.size, 0, none⟩) (by simp; omega) (by simp; omega) (.string s')
    have G6 := grown_setNew G5 (a := ⟨w3.heap.size, 0, none⟩) (by simp; omega) (.string s')
    clear T5 R5 G5 hr5
    go_wp2_with fail
    refine (rdOnce B g _ hr6 60 (by omega) (by omega)).mono ?_
    rintro e w4 ⟨b, rfl, hr4, hg4⟩
    have R4 := R6.grown hg4 (by simp; omega)
    have T4 := T6.grown hg4 (by simp; omega)
    have G4 := G6.trans hg4
    clear hg4 R6 T6 G6 hr6 c0 c1 c2 f0 f1 f2
    obtain ⟨c0, c1, c2⟩ := T4.cells
    obtain ⟨f0, f1, f2⟩ := T4.free
    obtain ⟨d0, d1, d2⟩ := R4.cells
    obtain ⟨k0, k1, k2⟩ := R4.free
    clear T4 R4
    cases b
    · go_wp2_with fail
      refine bodyPost_ret (v := .agg #[.string s', .string p, .string o]) (by simp [results, Tryz.results68, go_sem, *]) rfl ⟨s', p, o, ⟨hs1', by omega⟩, by omega, ho, hpn, rfl, ?_, ?_⟩
      · exact ((hr4.setFar (by simp; omega) (by simp; omega) _).setFar (by simp; omega) (by simp; omega) _).setFar (by simp; omega) (by simp; omega) _
      · exact grown_setNew (grown_setNew (grown_setNew G4 (by simp) _) (by simp) _) (by simp) _
    · go_wp2_with fail
      refine bodyPost_ret (v := .agg #[.string s', .string ⟨#[95, 58, 98]⟩, .string o]) (by simp [results, Tryz.results68, go_sem, *]) rfl ⟨s', _, o, ⟨hs1', by omega⟩, by simp [lit_size], ho, notN_lit, rfl, ?_, ?_⟩
      · exact (((hr4.setFar (by simp; omega) (by simp; omega) _).setFar (by simp; omega) (by simp; omega) _).setFar (by simp; omega) (by simp; omega) _).setFar (by simp; omega) (by simp; omega) _
      · exact grown_setNew (grown_setNew (grown_setNew (grown_setNew G4 (by simp; omega) _) (by simp) _) (by simp) _) (by simp) _
set_option maxRecDepth 100000 in
set_option maxHeartbeats 1600000 in
theorem rdGraphN (B g : Nat) (w : World) (h : Rd B w g) (n : Nat) (hn : n ≤ 1000) :
    Calls Tryz.prog 45 #[.pointer (some ⟨g, 0, none⟩), .int .i64 n] w fun e w' => ∃ (v : Value) (ts : List Tri3), e = .returned v ∧ SmG ts ∧ NoN ts ∧ OwnT w.heap.size w' v ts ∧ Rd B w' g ∧ w.grownBy w' (some g) := by
  obtain ⟨i0, hi, hz0, hz1, hzB⟩ := info_parts infoTri
  have hgw := h.2.1
  have hBg := h.1
  have R0 := h.alloc (.cells #[] 42)
  have G0 := World.grownBy_alloc w (.cells #[] 42) (some g)
  have O0 : OwnT w.heap.size (w.alloc (.cells #[] 42)) (.slice (some ⟨w.heap.size, 0, none⟩) 0 0) [] := World.ownsRow_lit (size := 3) (e := 42) w #[] 0 (Nat.le_refl _) (by decide) rfl
  have RB := rdBelow B g _ R0 ((n : Int) + 1) (by omega) (by omega)
  have HRB := Lib.hid RB
  have HO := Lib.hid O0
  clear O0 RB R0
  go_enter Tryz.func45, Tryz.ntmps45
  go_wp2_with fail
  refine HRB.out.mono ?_
  rintro e w1 ⟨m, hm0, hm1, rfl, r1, g1⟩
  have G1 := G0.trans g1
  have O1 := World.ownsRow.kept HO.out g1 (.inr (by simp [Value.ownBlock]; omega))
  obtain ⟨m, rfl⟩ := Int.eq_ofNat_of_zero_le hm0
  have hm2 : m ≤ n := by omega
  have HR1 := Lib.hid r1
  have HO1 := Lib.hid O1
  clear g1 G0 HO O1 r1 HRB hm0 hm1
  go_wp2_with fail
  go_loopw [5, 6] (fun v' i wr => ∃ (j : Nat) (v : Value) (ts : List Tri3), j ≤ n ∧ i = .int .i64 j ∧ v = v' ∧ Hid ((SmG ts ∧ ts.length ≤ 80) ∧ NoN ts) ∧ Hid (OwnT w.heap.size wr v ts) ∧ Hid (Rd B wr g) ∧ w.grownBy wr (some g)) (fun _ i _ => (intOf i).toNat)
  case atStart => exact ⟨m, _, [], hm2, rfl, rfl, Lib.hid ⟨⟨⟨by simp, by simp⟩, by simp⟩, NoN.nil⟩, HO1, HR1, G1⟩
  case round =>
    obtain ⟨j, v, ts, hj, rfl, rfl, hsm, hown, hrd, hg⟩ := hrel
    clear HO1 HR1 G1 hm2
    obtain ⟨x, y, rfl, ii, pl⟩ := OwnT.plain hown.out hsm.out.1.1.maxLen
    have hlt := fun j hj => (World.ownsRow.lt hown.out j hj).1
    by_cases hj0 : 0 < j
    · have hj1 : (0 : Int) < (j : Int) := by omega
      have HT := Lib.hid (rdTripleN B g wr hrd.out)
      have HI := Lib.hid ii
      have HP := Lib.hid pl
      clear ii pl
      obtain ⟨L, hL⟩ : ∃ L, ts.length = L := ⟨_, rfl⟩
      rw [hL] at HI hlt ⊢
      have HL := Lib.hid hL
      have hL80 : L ≤ 80 := by have := hsm.out.1.2; omega
      clear hL
      go_wp2_with fail
      refine HT.out.mono ?_
      rintro e w2 ⟨s, p, o, hs, hp, ho, hpn, rfl, r2, g2⟩
      have G2 := hg.trans g2
      have O2 : OwnT w.heap.size w2 (.slice x L y) ts := by
        have := World.ownsRow.kept hown.out g2 (by
          rw [HL.out]
          rcases hv : (Value.slice x L y).ownBlock with _ | q
          · exact .inl rfl
          · refine .inr fun e => ?_
            have := hlt q hv
            cases e
            omega)
        unfold OwnT at this ⊢
        rw [HL.out] at this ⊢
        exact this
      obtain ⟨x2, y2, hv2, i2, p2⟩ := OwnT.plain O2 hsm.out.1.1.maxLen
      rw [HL.out] at hv2 i2
      simp only [Value.slice.injEq, true_and] at hv2
      obtain ⟨rfl, rfl⟩ := hv2
      have C := specWith x L y ts s p o w2 i2 p2 hsm.out.1.1.sm (by omega) (by omega) (by omega)
      have HW := And.intro (hsm.out.1.1.with_ (t := (s, p, o)) ⟨hs.2, hp, ho⟩) (hsm.out.2.with_ (t := (s, p, o)) hpn)
      obtain ⟨r, hr⟩ : ∃ r, withT ts (s, p, o) = r := ⟨_, rfl⟩
      rw [hr] at C HW
      have HC := Lib.hid C
      have HWW := Lib.hid HW
      have HR2 := Lib.hid r2
      have HO2 := Lib.hid O2
      clear hrd hown g2 r2 i2 p2 C hr hs hp ho hpn O2 HT HI HP HW hg
      cases r with
      | none =>
        go_wp2_with fail
        refine HC.out.mono ?_
        rintro e w3 ⟨v3, rfl, o3, hb3⟩
        have G3 := G2.trans (grown_any (grown_of_below hb3) (some g))
        have R3 := Lib.hid (rd_far HR2.out hb3)
        have O3 := Lib.hid (own_next HO2.out (grown_of_below hb3))
        clear o3 hb3 HC HWW HR2 HO2 G2
        go_wp2_with fail
        go_roundw
        case rel => exact ⟨j - 1, .slice x L y, ts, by omega, by rw [show ((j - 1 : Nat) : Int) = (j : Int) - 1 from by omega], rfl, hsm, O3, R3, G3⟩
        case measure => simp [intOf]; omega
      | some us =>
        go_wp2_with fail
        refine HC.out.mono ?_
        rintro e w3 ⟨v3, rfl, o3, hb3⟩
        have G3 := G2.trans (grown_any (grown_of_below hb3) (some g))
        have R3 := Lib.hid (rd_far HR2.out hb3)
        have O3 := Lib.hid (own_base o3 G2.size)
        clear o3 hb3 HC HR2 HO2 G2
        go_wp2_with fail
        go_roundw
        case rel => exact ⟨j - 1, v3, us, by omega, by rw [show ((j - 1 : Nat) : Int) = (j : Int) - 1 from by omega], rfl, HWW, O3, R3, G3⟩
        case measure => simp [intOf]; omega
    · obtain rfl : j = 0 := by omega
      have HO := Lib.hid (rdOnce B g wr hrd.out 40 (by omega) (by omega))
      obtain ⟨L, hL⟩ : ∃ L, ts.length = L := ⟨_, rfl⟩
      rw [hL] at ii hlt ⊢
      have HL := Lib.hid hL
      have hL80 : L ≤ 80 := by have := hsm.out.1.2; omega
      clear hL ii pl
      go_wp2_with fail
      refine HO.out.mono ?_
      rintro e w2 ⟨bb, rfl, r2, g2⟩
      have G2 := hg.trans g2
      have O2 : OwnT w.heap.size w2 (.slice x L y) ts := by
        have := World.ownsRow.kept hown.out g2 (by
          rw [HL.out]
          rcases hv : (Value.slice x L y).ownBlock with _ | q
          · exact .inl rfl
          · refine .inr fun e => ?_
            have := hlt q hv
            cases e
            omega)
        unfold OwnT at this ⊢
        rw [HL.out] at this ⊢
        exact this
      have HR2 := Lib.hid r2
      have HO2 := Lib.hid O2
      clear hrd hown g2 r2 HO hg
      cases bb
      · go_wp2_with fail
        go_ret
        exact ⟨_, ts, rfl, hsm.out.1.1, hsm.out.2, HO2.out, HR2.out, G2⟩
      · by_cases hL0 : 0 < L
        · have hL1 : (0 : Int) < (L : Int) := by omega
          obtain ⟨x2, y2, hv2, i2⟩ := HO2.out.is hsm.out.1.1.maxLen
          rw [HL.out] at hv2 i2
          simp only [Value.slice.injEq, true_and] at hv2
          obtain ⟨rfl, rfl⟩ := hv2
          obtain ⟨b1, off, rfl, hb1, hl', hm, hts, hcs⟩ := i2.cells hL0
          have ht : ts[0]? = some (ts[0]'(by omega)) := List.getElem?_eq_getElem (by omega)
          obtain ⟨c0, c1, c2, m0, m1, m2⟩ := hcs 0 _ ht
          have hu := hsm.out.1.1.2 _ (List.mem_of_getElem? ht)
          generalize ts[0]'(by omega) = u at ht c0 c1 c2 m0 m1 m2 hu
          simp only [Nat.zero_mul, Nat.add_zero] at c0 c1 c2
          have HSN : Hid (NoN (ts ++ [u])) := Lib.hid (hsm.out.2.snoc (List.mem_of_getElem? ht))
          have HS : Hid (SmG (ts ++ [u])) := Lib.hid ⟨by rw [List.length_append, HL.out]; simp; omega, fun t ht => by
            rcases List.mem_append.1 ht with h | h
            · exact hsm.out.1.1.2 t h
            · obtain rfl := List.mem_singleton.1 h
              exact hu⟩
          have HC : ∀ (j : Nat) (z : Value), [Value.string u.1, .string u.2.1, .string u.2.2][j]? = some z → (w2.alloc (.cells #[.string u.1, .string u.2.1, .string u.2.2] 42)).cell? ((⟨w2.heap.size, 0, none⟩ : Addr).add j) = some z := three_cell
          have HH := Lib.hid HC
          have OA := Lib.hid (World.ownsRow.alloc HO2.out (.cells #[.string u.1, .string u.2.1, .string u.2.2] 42))
          have RA := Lib.hid (HR2.out.alloc (.cells #[.string u.1, .string u.2.1, .string u.2.2] 42))
          have GA := G2.trans (World.grownBy_alloc w2 (.cells #[.string u.1, .string u.2.1, .string u.2.2] 42) (some g))
          have hz2 := G2.size
          clear ht hcs hts hm m0 m1 m2 hu HC HO2 HR2 G2 hsm i2
          go_wp2_with (at_builtin; refine wpList_append_own _ rfl _ _ 24 rfl w.heap.size 42 i0 (.agg #[.string ⟨#[]⟩, .string ⟨#[]⟩, .string ⟨#[]⟩]) 3 48 Tryz.underlying24 hi hz0 hz1 hzB rfl (by decide) _ _ _ rfl OA.out ⟨w2.heap.size, 0, none⟩ 1 _ [.string u.1, .string u.2.1, .string u.2.2] rfl rfl HH.out (by intro z hz; simp at hz; rcases hz with rfl | rfl | rfl <;> rfl) ?h63 ?h48 ?hbs ?_)
          case h63 => rw [HL.out]; unfold maxLen; omega
          case h48 => rw [HL.out]; omega
          case hbs => simp only [World.size_alloc]; omega
          intro v3 w3 hown3 hg3 _
          have O3 : OwnT w.heap.size w3 v3 (ts ++ [u]) := own3_snoc (t := u) hown3
          have R3 := RA.out.grown hg3 (fun q e => by have := hlt q (by simpa [HL.out] using e); omega)
          have G3 := grown_off GA hg3 (fun q e => by have := hlt q (by simpa [HL.out] using e); omega)
          clear hown3 hg3 OA RA HH GA c0 c1 c2
          go_wp2_with fail
          go_ret
          exact ⟨v3, _, rfl, HS.out, HSN.out, O3, R3, G3⟩
        · obtain rfl : L = 0 := by omega
          go_wp2_with fail
          go_ret
          exact ⟨_, ts, rfl, hsm.out.1.1, hsm.out.2, HO2.out, HR2.out, G2⟩
end Go.Proofs.YtmiiaebelncdhaaGreat
/- What extended rows are: plain facts. -/
namespace Go.Proofs.YtmiiaebelncdhaaGreat
open Go.RowKit Go.WideShapes Go.Maps Go.Sort Go.Shelf
theorem solveM_part {g : List Tri3} : ∀ (l : List Tri3) (rows R : List RowV), solveM g l rows = some R → ∀ m ∈ R, ∃ r ∈ rows, ∀ u ∈ r, u ∈ m
  | [], rows, R, e, m, hm => by
    unfold solveM at e
    cases e
    exact ⟨m, hm, fun u hu => hu⟩
  | p :: l, rows, R, e, m, hm => by
    unfold solveM at e
    by_cases hc : (addAllR [] (joinM g p rows)).length ≤ 300
    · rw [if_pos hc] at e
      obtain ⟨q, hq, hs⟩ := solveM_part l _ R e m hm
      have hq' : q ∈ joinM g p rows := by
        rcases addAllR_mem hq with h | h
        · simp at h
        · exact h
      obtain ⟨r, hr, t, _, ht⟩ := joinM_mem.1 hq'
      exact ⟨r, hr, fun u hu => hs u (matchM_sub ht u hu)⟩
    · rw [if_neg hc] at e
      cases e
/-- A row and one that it is a part of. -/
theorem merge_part {a m : RowV} (ha : rowOk a = true) (hm : rowOk m = true) (hs : ∀ u ∈ a, u ∈ m) : mergedP a m = some m := by
  have aa := asc_ok ha
  have am := asc_ok hm
  refine merged_is ha hm (fun h e => by cases e; exact hm) ?_
  cases e : putAllP a m with
  | none => exact absurd (putAllP_clash aa e) (no_clash am (fun u hu => hu.elim (hs u) id))
  | some h =>
    have k := putAllP_just aa e
    have := JustP.one k ⟨am, fun u => ⟨fun hu => .inr hu, fun hu => hu.elim (hs u) id⟩⟩
    rw [this]
theorem ext_parts {gs ls : List Tri3} {rs : List RowV} (h : extOk gs rs ls = true) : graphOk gs = true ∧ bgpOk ls = true ∧ rs.length ≤ 300 ∧ (∀ r ∈ rs, rowOk r = true) ∧ ∃ A, allX (moreS gs ls) rs = some A ∧ (∀ m ∈ A, rowOk m = true) ∧ extR gs rs ls = addAllR [] A ∧ (addAllR [] A).length ≤ 300 := by
  have h0 := h
  unfold extOk at h
  simp only [Bool.and_eq_true] at h
  obtain ⟨hg, hq, hl, hf⟩ := h
  unfold rowsOkL at hq
  simp only [Bool.and_eq_true, List.all_eq_true, decide_eq_true_eq] at hq
  refine ⟨hg, hl, hq.1, hq.2, ?_⟩
  cases hA : extA gs rs ls with
  | none => rw [hA] at hf; cases hf
  | some A =>
    rw [hA] at hf
    unfold finX at hf
    simp only [Bool.and_eq_true, List.all_eq_true, decide_eq_true_eq] at hf
    refine ⟨A, hA, hf.1, ?_, hf.2⟩
    unfold extR
    rw [if_pos h0, hA]
    rfl
def fitsR (r s : RowV) : Bool := (mergedP r s).isSome && decide ((mergedP r s).getD [] = s)
def anyF (r : RowV) (ms : List RowV) : Bool := ms.any (fitsR r)
theorem anyF_step {r s : RowV} {ms : List RowV} {k : Nat} (h : ms[k]? = some s) : anyF r (ms.take (k + 1)) = (anyF r (ms.take k) || fitsR r s) := by
  obtain ⟨hk, rfl⟩ := List.getElem?_eq_some_iff.1 h
  unfold anyF
  rw [List.take_succ_eq_append_getElem hk, List.any_append]
  simp only [List.any_cons, List.any_nil, Bool.or_false]
/-- Each row that was is a part of one that is. -/
theorem ext_any {gs ls : List Tri3} {rs : List RowV} (h : extOk gs rs ls = true) : ∀ r ∈ rs, anyF r (extR gs rs ls) = true := by
  obtain ⟨_, _, _, hr, A, hA, hok, hE, _⟩ := ext_parts h
  intro r hm
  obtain ⟨M, hM⟩ : ∃ M, moreS gs ls r = some M := by
    cases hc : moreS gs ls r with
    | none => rw [allX_none hc hm] at hA; cases hA
    | some M => exact ⟨M, rfl⟩
  obtain ⟨m, hmM, hs⟩ : ∃ m ∈ M, ∀ u ∈ r, u ∈ m := by
    unfold moreS at hM
    cases hc : solveM gs ls [r] with
    | none => rw [hc] at hM; cases hM
    | some R =>
      rw [hc] at hM
      have hM' : M = orOne r R := (Option.some.inj hM).symm
      rw [hM']
      unfold orOne
      by_cases h0 : R.length = 0
      · rw [if_pos h0]
        exact ⟨r, List.mem_singleton.2 rfl, fun u hu => hu⟩
      · rw [if_neg h0]
        refine ⟨R[0]'(by omega), List.getElem_mem _, ?_⟩
        obtain ⟨q, hq, hs⟩ := solveM_part ls _ R hc _ (List.getElem_mem (by omega : 0 < R.length))
        obtain rfl := List.mem_singleton.1 hq
        exact hs
  have hmA : m ∈ A := (allX_mem hA m).2 ⟨r, hm, M, hM, hmM⟩
  have hz : NoZs A := fun s hs => rowOk_noZ (hok s hs)
  unfold anyF
  rw [List.any_eq_true]
  refine ⟨m, by rw [hE]; exact (addAllR_both hz m).2 hmA, ?_⟩
  unfold fitsR
  rw [merge_part (hr r hm) (hok m hmA) hs]
  simp
/-- The pattern that fits nothing. -/
def patN : Tri3 := (⟨#[60, 110, 110, 62]⟩, ⟨#[60, 110, 110, 62]⟩, ⟨#[63, 110]⟩)
theorem bgp_nn : bgpOk [patN] = true := by decide +kernel
theorem isVar_nn : isVarK [60, 110, 110, 62] = false := by decide +kernel
theorem join_nn {gs : List Tri3} (hn : NoN gs) (r : RowV) : joinM gs patN [r] = [] := by
  refine List.eq_nil_iff_forall_not_mem.2 fun h hh => ?_
  obtain ⟨q, _, t, ht, e⟩ := joinM_mem.1 hh
  obtain ⟨a, b, _, e2, _⟩ := matchM_parts e
  unfold stepM at e2
  have h1 : isVarK patN.2.1.data.toList = false := isVar_nn
  rw [if_neg (by rw [h1]; decide)] at e2
  by_cases hq : patN.2.1 = t.2.1
  · have := hn t ht
    unfold NotN at this
    rw [← hq] at this
    exact this rfl
  · rw [if_neg hq] at e2
    cases e2
theorem more_nn {gs : List Tri3} (hn : NoN gs) (r : RowV) : moreS gs [patN] r = some [r] := by
  unfold moreS solveM
  rw [join_nn hn]
  rw [if_pos (by simp [addAllR])]
  unfold solveM
  simp [addAllR, orOne]
theorem all_nn {gs : List Tri3} (hn : NoN gs) : ∀ rs : List RowV, allX (moreS gs [patN]) rs = some rs
  | [] => rfl
  | r :: rs => by
    have e : allX (moreS gs [patN]) (r :: rs) = (moreS gs [patN] r).bind fun M => (allX (moreS gs [patN]) rs).map fun A => M ++ A := rfl
    rw [e, more_nn hn, all_nn hn rs]
    rfl
/-- Where nothing fits no row comes to be. -/
theorem ext_nn {gs ls : List Tri3} {rs : List RowV} (h : extOk gs rs ls = true) (hn : NoN gs) : extOk gs rs [patN] = true ∧ (extR gs rs [patN]).length ≤ rs.length := by
  obtain ⟨hg, _, hl, hr, _⟩ := ext_parts h
  have hA : extA gs rs [patN] = some rs := all_nn hn rs
  have hlen := addAllR_len rs []
  simp only [List.length_nil, Nat.zero_add] at hlen
  have h1 : extOk gs rs [patN] = true := by
    unfold extOk
    rw [hg, bgp_nn, hA]
    unfold finX rowsOkL
    simp only [Bool.true_and, Bool.and_eq_true, List.all_eq_true, decide_eq_true_eq]
    exact ⟨⟨hl, hr⟩, hr, by omega⟩
  refine ⟨h1, ?_⟩
  unfold extR
  rw [if_pos h1, hA]
  exact hlen
theorem ext_res {gs ls : List Tri3} {rs : List RowV} (hga : SmT gs) (hsr : SmR rs) (hgb : SmT ls) : (extR gs rs ls).length ≤ 300 ∧ ∀ r ∈ extR gs rs ls, SmP r ∧ r.length ≤ 12 := by
  cases h : extOk gs rs ls
  · rw [extR_no h]
    simp
  · obtain ⟨hg, hl, _, hr, A, hA, hok, hE, hlen⟩ := ext_parts h
    rw [hE]
    refine ⟨hlen, fun m hm => ?_⟩
    have hmA : m ∈ A := by
      rcases addAllR_mem hm with h | h
      · simp at h
      · exact h
    obtain ⟨r, h1, M, h2, h3⟩ := (allX_mem hA m).1 hmA
    exact ⟨(more_smallS hg hl hga hgb (hr r h1) (hsr r h1) M h2 m h3).1, rowOk_most (hok m hmA)⟩
theorem patN_small : SmT [patN] := fun t ht => by
  obtain rfl := List.mem_singleton.1 ht
  decide
theorem merged_max {r s : RowV} (hr : SmP r) (hs : SmP s) : ∀ t ∈ (mergedP r s).getD [], t.1.size ≤ maxLen ∧ t.2.size ≤ maxLen := by
  cases h : mergedP r s with
  | none => simp
  | some m =>
    intro t ht
    have k := (putAllP_just (asc_ok (merged_parts h).1) (merged_parts h).2.2.2).2 t
    have hz : t.1.size ≤ 1048576 ∧ t.2.size ≤ 1048576 := by
      rcases k.1 ht with h | h
      · have := hr t h; omega
      · have := hs t h; omega
    unfold maxLen
    omega
theorem merged_most {r s : RowV} (hr : r.length ≤ 12) (hs : s.length ≤ 12) : ((mergedP r s).getD []).length ≤ 24 := by
  cases h : mergedP r s with
  | none => simp
  | some m =>
    have := merged_len h
    simp only [Option.getD_some]
    omega
end Go.Proofs.YtmiiaebelncdhaaGreat
/- What is drawn to be extended. -/
namespace Go.Proofs.YtmiiaebelncdhaaGreat
open Go.RowKit Go.WideShapes
theorem isTris_first {w : World} {a : Option Addr} {n c : Nat} {ts : List Tri3} (h : IsTris w a n c ts) (h1 : 1 ≤ n) : IsTris w a 1 c (ts.take 1) := by
  rcases h with ⟨_, h2, _⟩ | ⟨x, h2, h3, h4, h5, h6⟩
  · omega
  · refine .inr ⟨x, h2, by omega, h4, by rw [List.length_take]; omega, fun i t ht => h6 i t ?_⟩
    rw [List.getElem?_take] at ht
    split at ht
    · exact ht
    · cases ht
set_option maxRecDepth 100000 in
set_option maxHeartbeats 3200000 in
theorem drawExtended (w : World) (a : Option Addr) (len cap : Nat) (zs : List Int) (hrow : Frame.IsRow .u8 w a len cap zs) :
    Calls Tryz.prog 32 #[.slice a len cap] w fun e w' => ∃ (x : Option Addr) (c : Nat) (y : Option Addr) (m d : Nat) (z : Option Addr) (zc : Nat) (gs : List Tri3) (rs : List RowV) (ls : List Tri3), e = .returned (.tuple #[.slice x gs.length c, .slice y m d, .slice z ls.length zc]) ∧ GotG w' (.slice x gs.length c) gs ∧ NoN gs ∧ IsRows w' y m d rs ∧ GotG w' (.slice z ls.length zc) ls ∧ (rs.length ≤ 300 ∧ ∀ r ∈ rs, SmP r) ∧ ls.length ≤ 3 ∧ w.grownBy w' none := by
  have HR := Lib.hid hrow
  clear hrow
  go_enter Tryz.func32, Tryz.ntmps32
  go_wp2_with fail
  refine (rdOpen _ _ _ _ _ HR.out).mono ?_
  rintro e w1 ⟨rfl, r1, g1⟩
  have l1 := r1.2.1
  go_wp2_with fail
  refine (rdGraphN _ _ _ r1 8 (by omega)).mono ?_
  rintro e w2 ⟨v, ts, rfl, s2, n2, o2, r2, g2⟩
  have G2 := grown_new g1 g2
  have hz2 := g2.size
  obtain ⟨x, c, rfl, _⟩ := o2.is s2.maxLen
  clear g1 g2 r1
  go_wp2_with fail
  refine (rdAsked _ w1.heap.size _ _ r2 _ ts o2 l1 s2).mono ?_
  rintro e w3 ⟨u, ps, rfl, hl, hs, o3, r3, g3⟩
  have G3 := grown_new G2 g3
  have hz3 := g3.size
  have O2 := own_rd o2 g3 l1 (Nat.le_refl _)
  obtain ⟨x', c', e', i2⟩ := O2.is s2.maxLen
  cases e'
  obtain ⟨y, d, rfl, i3⟩ := o3.is (hs.g hl.2).maxLen
  have i3' := isTris_first i3 hl.1
  have hcap : ps.length ≤ d := by
    rcases i3 with ⟨_, h2, _⟩ | ⟨_, _, h3, _⟩
    · omega
    · exact h3
  have HP : SmG (ps.take 1) := ⟨by rw [List.length_take]; omega, fun t ht => hs t (List.mem_of_mem_take ht)⟩
  have C := Lib.hid (fun W (h : Below w3.heap.size w3 W) => specSolutionsF x y _ c 1 d ts (ps.take 1) W (i2.next h) (i3'.next h) s2.t HP.t)
  have HS : Hid ((solR ts (ps.take 1)).length ≤ 300 ∧ ∀ r ∈ solR ts (ps.take 1), SmP r) := Lib.hid ⟨solR_len, solR_small s2.t HP.t⟩
  have R3 := Lib.hid r3
  have HO2 := Lib.hid O2
  have HS2 := Lib.hid s2
  have HN2 := Lib.hid n2
  obtain ⟨k3, hk3⟩ : ∃ n, ps.length = n := ⟨_, rfl⟩
  obtain ⟨k2, hk2⟩ : ∃ n, ts.length = n := ⟨_, rfl⟩
  have hk2' : k2 ≤ 81 := by rw [← hk2]; exact s2.1
  rw [hk2] at C ⊢
  rw [hk3] at hl hcap ⊢
  have HK2 := Lib.hid hk2
  obtain ⟨hl1, hl2⟩ := hl
  clear g3 r2 r3 G2 o2 o3 O2 i2 i3 i3' hs s2 n2 HP hk3 hk2
  go_wp2_with fail
  refine (C.out _ (by first | exact Below.refl _ _ | exact Below.drew (Below.refl _ _))).mono ?_
  rintro e w4 ⟨z, n, zc, rfl, o4, b4⟩
  generalize solR ts (ps.take 1) = rs at o4 HS
  generalize solOk ts (ps.take 1) = ok
  have b4' : Below w3.heap.size w3 w4 := by first | exact b4 | exact (Below.drew (Below.refl _ _)).trans b4
  have R4 := R3.out.grown (grown_of_below b4') (by simp)
  have G4 := G3.trans (grown_of_below b4')
  have o4' : OwnF w3.heap.size w4 (.slice z n zc) rs := by first | exact o4 | exact o4
  have O4 := Lib.hid (own_next HO2.out (grown_of_below b4'))
  have HA := Lib.hid (rdAsked _ w1.heap.size _ _ R4 _ ts (by have := O4.out; rw [HK2.out] at this; exact this) l1 HS2.out)
  have HO4 := Lib.hid o4'
  clear b4 b4' C R3 G3 o4 o4' HO2 R4
  go_wp2_with fail
  refine HA.out.mono ?_
  rintro e w5 ⟨u, qs, rfl, kl, ks, o5, r5, g5⟩
  have G5 := grown_new G4 g5
  have O5 := got_of (own_rd O4.out g5 l1 (Nat.le_refl _)) HS2.out
  have F5 := HO4.out.kept g5 (fun j hj => by cases hj; omega)
  have Q5 := got_of o5 (ks.g kl.2)
  obtain ⟨q, qc, rfl, _⟩ := o5.is (ks.g kl.2).maxLen
  have HO5 := Lib.hid O5
  have HF5 := Lib.hid F5.isN
  have HQ5 := Lib.hid Q5
  have hq3 := kl.2
  clear g5 r5 o5 O5 F5 Q5 G4 HA HO4 O4 kl ks
  go_wp2_with fail
  go_ret3
  exact ⟨x, c, z, n, zc, q, qc, ts, rs, qs, by rw [HK2.out]; rfl, HO5.out, HN2.out, HF5.out, HQ5.out, HS.out, hq3, G5⟩
end Go.Proofs.YtmiiaebelncdhaaGreat
