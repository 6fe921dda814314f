/- What is drawn for With and Without. -/
import Derived.Test.YtofkploffcplhaaG15
import Derived.RegionTactic
import Derived.Test.YtofkploffcplhaaG12
import Derived.Test.YtofkploffcplhaaG19
import Derived.Test.YtofkploffcplhaaG20
namespace Go.Proofs.Ytofkploffcplhaa
open Go.RowKit Go.WideShapes
theorem own_off {B g : Nat} {w : World} {v : Value} {ts : List Tri3} (h : OwnT B w v ts) (hg : g < B) (i : Nat) (u : Value) : OwnT B (w.setCell ⟨g, i, none⟩ u) v ts := by
  refine World.ownsRow.kept h (row := some g) ⟨rfl, rfl, rfl, by simp [World.setCell], fun k _ hne => Below.heap_setCell _ _ _ _ (fun e => hne (by rw [e]))⟩ ?_
  rcases hv : v.ownBlock with _ | q
  · exact .inl rfl
  · refine .inr fun e => ?_
    have := (World.ownsRow.lt h q hv).1
    cases e
    omega
/-- One of the triples, and its cells. -/
theorem pick_of {B L : Nat} {w : World} {x : Option Addr} {y : Nat} {ts : List Tri3} (h : OwnT B w (.slice x L y) ts) (hs : SmG ts) (hL : ts.length = L) {m : Nat} (hm : m < L) :
    ∃ (b off : Nat) (u : Tri3), x = some ⟨b, off, none⟩ ∧ w.cell? ⟨b, off + m * 3, none⟩ = some (.string u.1) ∧ w.cell? ⟨b, off + m * 3 + 1, none⟩ = some (.string u.2.1) ∧ w.cell? ⟨b, off + m * 3 + 2, none⟩ = some (.string u.2.2) ∧ u.1.size ≤ 20 ∧ u.2.1.size ≤ 20 ∧ u.2.2.size ≤ 20 := by
  obtain ⟨x2, y2, hv, i2⟩ := h.is hs.maxLen
  rw [hL] at hv i2
  simp only [Value.slice.injEq, true_and] at hv
  obtain ⟨rfl, rfl⟩ := hv
  obtain ⟨b1, off, rfl, _, _, _, hts, hcs⟩ := i2.cells (by omega)
  have ht : ts[m]? = some (ts[m]'(by omega)) := List.getElem?_eq_getElem (by omega)
  obtain ⟨c0, c1, c2, _⟩ := hcs m _ ht
  exact ⟨b1, off, _, rfl, c0, c1, c2, hs.2 _ (List.mem_of_getElem? ht)⟩
end Go.Proofs.Ytofkploffcplhaa
/- What is drawn for PatchOf: a graph, and one that is a few steps from it. -/
namespace Go.Proofs.Ytofkploffcplhaa
open Go.RowKit Go.WideShapes
theorem ownT_shapeD {B : Nat} {w : World} {v : Value} {ts : List Tri3} (h : OwnT B w v ts) : ∃ a n c, v = .slice a n c := by
  rcases h.2 with ⟨rfl, _⟩ | ⟨g, c, cur, rfl, _⟩
  · exact ⟨_, _, _, rfl⟩
  · exact ⟨_, _, _, rfl⟩
theorem ownT_lenD {B : Nat} {w : World} {a : Option Addr} {n c : Nat} {ts : List Tri3} (h : OwnT B w (.slice a n c) ts) : ts.length = n := by
  rcases h.2 with ⟨e, h0⟩ | ⟨g, c', cur, e, _⟩
  · simp only [Value.slice.injEq] at e; omega
  · simp only [Value.slice.injEq] at e; exact e.2.1.symm
set_option maxRecDepth 100000 in
set_option maxHeartbeats 6400000 in
theorem drawPatchOf (w : World) (a : Option Addr) (len cap : Nat) (zs : List Int) (hrow : Frame.IsRow .u8 w a len cap zs) :
    Calls Try.prog 31 #[.slice a len cap] w fun e w' => ∃ (va vb : Value) (ts us : List Tri3), e = .returned (.tuple #[va, vb]) ∧ GotG w' va ts ∧ GotG w' vb us ∧ w.grownBy w' none := by
  go_enter Try.func31, Try.ntmps31
  go_wp2_with fail
  refine (rdOpen _ _ _ _ _ hrow).mono ?_
  rintro e w1 ⟨rfl, r1, g1⟩
  have hgC : w.heap.size < w1.heap.size := r1.2.1
  go_wp2_with fail
  refine (rdGraph _ _ _ r1 7 (by omega)).mono ?_
  rintro e w2 ⟨va, ts, rfl, s2, o2, r2, g2⟩
  have G2 := Lib.hid (grown_off g1 g2 (fun q e => by cases e; omega))
  have HS := Lib.hid s2
  have HO2 := Lib.hid o2
  have HM := Lib.hid (rdBelow _ _ _ r2 4 (by omega) (by omega))
  obtain ⟨xa, La, ya, rfl⟩ := ownT_shapeD o2
  clear g1 s2 o2 r1
  have hsz := g2.size
  clear g2
  go_wp2_with fail
  refine HM.out.mono ?_
  rintro e w3 ⟨m, hm0, hm1, rfl, r3, g3⟩
  have G3 := Lib.hid (grown_off G2.out g3 (fun q e => by cases e; omega))
  obtain ⟨m, rfl⟩ := Int.eq_ofNat_of_zero_le hm0
  have hm4 : m ≤ 4 := by omega
  have HA3 := Lib.hid (own_rd HO2.out g3 hgC (Nat.le_refl _))
  have HR3 := Lib.hid r3
  have hsz3 : w1.heap.size ≤ w3.heap.size := by have := g3.size; omega
  have HZ3 := Lib.hid hsz3
  clear g3 r3 HM HO2 G2 hm0 hm1 r2 hsz hsz3
  go_wp2_with fail
  go_loopw [6, 7, 8, 9] (fun b i _ _ wr => ∃ (j : Nat) (v : Value) (us : List Tri3), j ≤ 4 ∧ i = .int .i64 j ∧ v = b ∧ Hid (SmG us) ∧ Hid (OwnT w1.heap.size wr v us) ∧ Hid (OwnT w1.heap.size wr (.slice xa La ya) ts) ∧ Hid (Rd w.heap.size wr w.heap.size) ∧ Hid (w.grownBy wr none) ∧ Hid (w1.heap.size ≤ wr.heap.size)) (fun _ i _ _ _ => (intOf i).toNat)
  case atStart => exact ⟨m, _, ts, hm4, rfl, rfl, HS, HA3, HA3, HR3, G3, HZ3⟩
  case round =>
    obtain ⟨j, v, us, hj, rfl, rfl, hsm, hb, ha, hrd, hg, hz0⟩ := hrel
    clear HA3 HR3 G3 hm4
    obtain ⟨x, L, y, rfl⟩ := ownT_shapeD hb.out
    have HL := Lib.hid (ownT_lenD hb.out)
    have hL81 : L ≤ 81 := by have := hsm.out.1; have := HL.out; omega
    by_cases hj0 : 0 < j
    · have hj1 : (0 : Int) < (j : Int) := by omega
      have HT := Lib.hid (rdTriple _ _ wr hrd.out)
      go_wp2_with fail
      refine HT.out.mono ?_
      rintro e w2 ⟨s, p, o, hs, hp, ho, rfl, r2, g2⟩
      have G2 := Lib.hid (grown_off hg.out g2 (fun q e => by cases e; omega))
      have Z2 := Lib.hid (Nat.le_trans hz0.out g2.size)
      have HB2 := Lib.hid (own_rd hb.out g2 hgC (Nat.le_refl _))
      have HA2 := Lib.hid (own_rd ha.out g2 hgC (Nat.le_refl _))
      have HR2 := Lib.hid r2
      obtain ⟨x2, y2, hv2, i2, p2⟩ := OwnT.plain HB2.out hsm.out.maxLen
      rw [HL.out] at hv2 i2
      simp only [Value.slice.injEq, true_and] at hv2
      obtain ⟨rfl, rfl⟩ := hv2
      have C := specWith x L y us s p o w2 i2 p2 hsm.out.sm (by omega) (by omega) (by omega)
      have HW := (hsm.out.with_ (t := (s, p, o)) ⟨hs.2, hp, ho⟩).1
      obtain ⟨N3, hN3⟩ : ∃ l, (withT us (s, p, o)).getD [] = l := ⟨_, rfl⟩
      unfold ResPost at C
      rw [hN3] at C HW
      generalize (withT us (s, p, o)).isSome = ok at C
      have HC := Lib.hid C
      have HW3 := Lib.hid HW
      clear hrd hb ha hg g2 r2 i2 p2 C hN3 hs hp ho HT HW
      go_wp2_with fail
      refine HC.out.mono ?_
      rintro e w3 ⟨v3, rfl, o3, hb3⟩
      have G3 := Lib.hid (G2.out.trans (grown_of_below hb3))
      have HR3 := Lib.hid (rd_far HR2.out hb3)
      have Z3 := Lib.hid (Nat.le_trans Z2.out hb3.size)
      have HB3 := Lib.hid (own_next HB2.out (grown_of_below hb3))
      have HA3 := Lib.hid (own_next HA2.out (grown_of_below hb3))
      have HN3 := Lib.hid (own_base (B' := w1.heap.size) o3 Z2.out)
      obtain ⟨p3, q3, r3, rfl⟩ := ownT_shapeD HN3.out
      clear o3 hb3 HC G2 HR2 HB2 HA2
      by_cases hL0 : 0 < L
      · have hL1 : (0 : Int) < (L : Int) := by omega
        have HN := Lib.hid (rdOnce _ _ _ HR3.out 2 (by omega) (by omega))
        go_wp2_with fail
        refine HN.out.mono ?_
        rintro e w4 ⟨bb, rfl, r4, g4⟩
        have G4 := Lib.hid (grown_off G3.out g4 (fun q e => by cases e; omega))
        have Z4 := Lib.hid (Nat.le_trans Z3.out g4.size)
        have HB4 := Lib.hid (own_rd HB3.out g4 hgC (Nat.le_refl _))
        have HA4 := Lib.hid (own_rd HA3.out g4 hgC (Nat.le_refl _))
        have HN4 := Lib.hid (own_rd HN3.out g4 hgC (Nat.le_refl _))
        have HR4 := Lib.hid r4
        clear HN r4 g4 G3 HB3 HA3 HN3 HR3
        cases bb
        · cases ok
          · go_wp2_with fail
            go_roundw
            case rel => exact ⟨j - 1, _, us, by omega, by rw [show ((j - 1 : Nat) : Int) = (j : Int) - 1 from by omega], rfl, hsm, HB4, HA4, HR4, G4, Z4⟩
            case measure => simp [intOf]; omega
          · go_wp2_with fail
            go_roundw
            case rel => exact ⟨j - 1, _, N3, by omega, by rw [show ((j - 1 : Nat) : Int) = (j : Int) - 1 from by omega], rfl, HW3, HN4, HA4, HR4, G4, Z4⟩
            case measure => simp [intOf]; omega
        · have HM := Lib.hid (rdBelow _ _ _ HR4.out (L : Int) (by omega) (by omega))
          go_wp2_with fail
          refine HM.out.mono ?_
          rintro e w5 ⟨m, hm0, hm1, rfl, r5, g5⟩
          obtain ⟨m, rfl⟩ := Int.eq_ofNat_of_zero_le hm0
          have hmL : m < L := by omega
          have G5 := Lib.hid (grown_off G4.out g5 (fun q e => by cases e; omega))
          have Z5 := Lib.hid (Nat.le_trans Z4.out g5.size)
          have HB5 := Lib.hid (own_rd HB4.out g5 hgC (Nat.le_refl _))
          have HA5 := Lib.hid (own_rd HA4.out g5 hgC (Nat.le_refl _))
          have HR5 := Lib.hid r5
          obtain ⟨b1, off, u, rfl, c0, c1, c2, k0, k1, k2⟩ := pick_of HB5.out hsm.out HL.out hmL
          obtain ⟨x5, y5, hv5, i5, p5⟩ := OwnT.plain HB5.out hsm.out.maxLen
          rw [HL.out] at hv5 i5
          simp only [Value.slice.injEq, true_and] at hv5
          obtain ⟨rfl, rfl⟩ := hv5
          have C := specWithout _ L y us u.1 u.2.1 u.2.2 w5 i5 p5 hsm.out.sm (by omega) (by omega) (by omega)
          have HW := hsm.out.less (t := (u.1, u.2.1, u.2.2))
          obtain ⟨N6, hN6⟩ : ∃ l, (withoutT us (u.1, u.2.1, u.2.2)).getD [] = l := ⟨_, rfl⟩
          unfold ResPost at C
          rw [hN6] at C HW
          generalize (withoutT us (u.1, u.2.1, u.2.2)).isSome = ok2 at C
          have HC := Lib.hid C
          have HW6 := Lib.hid HW
          clear HM r5 g5 i5 p5 C HW hN6 k0 k1 k2 G4 HB4 HA4 HR4
          go_wp2_with fail
          refine HC.out.mono ?_
          rintro e w6 ⟨v6, rfl, o6, hb6⟩
          have G6 := Lib.hid (G5.out.trans (grown_of_below hb6))
          have HR6 := Lib.hid (rd_far HR5.out hb6)
          have Z6 := Lib.hid (Nat.le_trans Z5.out hb6.size)
          have HB6 := Lib.hid (own_next HB5.out (grown_of_below hb6))
          have HA6 := Lib.hid (own_next HA5.out (grown_of_below hb6))
          have HN6 := Lib.hid (own_base (B' := w1.heap.size) o6 Z5.out)
          obtain ⟨p6, q6, r6, rfl⟩ := ownT_shapeD HN6.out
          clear o6 hb6 HC c0 c1 c2 G5 HR5 HB5 HA5
          cases ok2
          · go_wp2_with fail
            go_roundw
            case rel => exact ⟨j - 1, _, us, by omega, by rw [show ((j - 1 : Nat) : Int) = (j : Int) - 1 from by omega], rfl, hsm, HB6, HA6, HR6, G6, Z6⟩
            case measure => simp [intOf]; omega
          · go_wp2_with fail
            go_roundw
            case rel => exact ⟨j - 1, _, N6, by omega, by rw [show ((j - 1 : Nat) : Int) = (j : Int) - 1 from by omega], rfl, HW6, HN6, HA6, HR6, G6, Z6⟩
            case measure => simp [intOf]; omega
      · obtain rfl : L = 0 := by omega
        cases ok
        · go_wp2_with fail
          go_roundw
          case rel => exact ⟨j - 1, _, us, by omega, by rw [show ((j - 1 : Nat) : Int) = (j : Int) - 1 from by omega], rfl, hsm, HB3, HA3, HR3, G3, Z3⟩
          case measure => simp [intOf]; omega
        · go_wp2_with fail
          go_roundw
          case rel => exact ⟨j - 1, _, N3, by omega, by rw [show ((j - 1 : Nat) : Int) = (j : Int) - 1 from by omega], rfl, HW3, HN3, HA3, HR3, G3, Z3⟩
          case measure => simp [intOf]; omega
    · obtain rfl : j = 0 := by omega
      go_wp2_with fail
      go_ret2
      exact ⟨_, _, ts, us, rfl, got_of ha.out HS.out, got_of hb.out hsm.out, hg.out⟩
end Go.Proofs.Ytofkploffcplhaa
/- What a function answers, in the form that the exact laws' walks want. -/
namespace Go.Proofs.Ytofkploffcplhaa
open Go.RowKit Go.WideShapes
theorem res2_shape {r : Option (List Tri3 × List Tri3)} {w w' : World} {e : Ending} {N1 N2 : Nat} (h : Res2 r w e w') (l1 : (r.getD ([], [])).1.length = N1) (l2 : (r.getD ([], [])).2.length = N2) :
    ∃ a1 c1 a2 c2, e = .returned (.tuple #[.agg #[.slice a1 N1 c1, .slice a2 N2 c2], .bool r.isSome]) ∧ Holds w.heap.size w'.heap.size w' (Own2 w.heap.size w'.heap.size (.slice a1 N1 c1) (.slice a2 N2 c2) (r.getD ([], [])).1 (r.getD ([], [])).2) ∧ Below w.heap.size w w' := by
  obtain ⟨v1, v2, he, ho, hb⟩ := h
  obtain ⟨x1, y1, x2, y2, rfl, rfl, H⟩ := own2_shape ho ⟨l1, l2⟩
  exact ⟨_, _, _, _, he, H, hb⟩
theorem res_shape {r : Option (List Tri3)} {w w' : World} {e : Ending} {N : Nat} (h : ResPost r w e w') (l : (r.getD []).length = N) :
    ∃ a c, e = .returned (.tuple #[.slice a N c, .bool r.isSome]) ∧ Holds w.heap.size w'.heap.size w' (OwnC w.heap.size w'.heap.size (.slice a N c) (r.getD [])) ∧ Below w.heap.size w w' := by
  obtain ⟨v, he, ho, hb⟩ := h
  obtain ⟨x, y, rfl, H⟩ := ownC_shape ho hb l
  exact ⟨_, _, he, H, hb⟩
theorem inv_shape {t1 t2 : List Tri3} {w w' : World} {e : Ending} {N1 N2 : Nat} (h : ∃ v1 v2, e = .returned (.agg #[v1, v2]) ∧ Holds w.heap.size w'.heap.size w' (Own2 w.heap.size w'.heap.size v1 v2 t1 t2) ∧ Below w.heap.size w w') (l1 : t1.length = N1) (l2 : t2.length = N2) :
    ∃ a1 c1 a2 c2, e = .returned (.agg #[.slice a1 N1 c1, .slice a2 N2 c2]) ∧ Holds w.heap.size w'.heap.size w' (Own2 w.heap.size w'.heap.size (.slice a1 N1 c1) (.slice a2 N2 c2) t1 t2) ∧ Below w.heap.size w w' := by
  obtain ⟨v1, v2, he, ho, hb⟩ := h
  obtain ⟨x1, y1, x2, y2, rfl, rfl, H⟩ := own2_shape ho ⟨l1, l2⟩
  exact ⟨_, _, _, _, he, H, hb⟩
end Go.Proofs.Ytofkploffcplhaa
