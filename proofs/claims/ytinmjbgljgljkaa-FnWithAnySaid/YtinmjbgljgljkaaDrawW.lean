/- What is drawn for With and Without. -/
import Derived.Test.YtinmjbgljgljkaaRdG
import Derived.RegionTactic
namespace Go.Proofs.Ytinmjbgljgljkaa
open Go.RowKit Go.WideShapes
theorem own_off {B g : Nat} {w : World} {v : Value} {ts : List Tri3} (h : OwnT B w v ts) (hg : g < B) (i : Nat) (u : Value) : OwnT B (w.setCell ⟨g, i, none⟩ u) v ts := by
  refine World.ownsRow.kept h (row := some g) ⟨rfl, rfl, rfl, by simp [World.setCell], fun k _ hne => Below.heap_setCell _ _ _ _ (fun e => hne (by rw [e]))⟩ ?_
  rcases hv : v.ownBlock with _ | q
  · exact .inl rfl
  · refine .inr fun e => ?_
    have := (World.ownsRow.lt h q hv).1
    cases e
    omega
/-- One of the triples, and its cells. -/
theorem pick_of {B L : Nat} {w : World} {x : Option Addr} {y : Nat} {ts : List Tri3} (h : OwnT B w (.slice x L y) ts) (hs : SmG ts) (hL : ts.length = L) {m : Nat} (hm : m < L) :
    ∃ (b off : Nat) (u : Tri3), x = some ⟨b, off, none⟩ ∧ w.cell? ⟨b, off + m * 3, none⟩ = some (.string u.1) ∧ w.cell? ⟨b, off + m * 3 + 1, none⟩ = some (.string u.2.1) ∧ w.cell? ⟨b, off + m * 3 + 2, none⟩ = some (.string u.2.2) ∧ u.1.size ≤ 20 ∧ u.2.1.size ≤ 20 ∧ u.2.2.size ≤ 20 := by
  obtain ⟨x2, y2, hv, i2⟩ := h.is hs.maxLen
  rw [hL] at hv i2
  simp only [Value.slice.injEq, true_and] at hv
  obtain ⟨rfl, rfl⟩ := hv
  obtain ⟨b1, off, rfl, _, _, _, hts, hcs⟩ := i2.cells (by omega)
  have ht : ts[m]? = some (ts[m]'(by omega)) := List.getElem?_eq_getElem (by omega)
  obtain ⟨c0, c1, c2, _⟩ := hcs m _ ht
  exact ⟨b1, off, _, rfl, c0, c1, c2, hs.2 _ (List.mem_of_getElem? ht)⟩
set_option maxRecDepth 100000 in
set_option maxHeartbeats 1600000 in
theorem drawWith (w : World) (a : Option Addr) (len cap : Nat) (zs : List Int) (hrow : Frame.IsRow .u8 w a len cap zs) :
    Calls Try.prog 25 #[.slice a len cap] w fun e w' => ∃ (v : Value) (ts : List Tri3) (s p o : ByteArray), e = .returned (.tuple #[v, .agg #[.string s, .string p, .string o]]) ∧ GotG w' v ts ∧ s.size ≤ 20 ∧ p.size ≤ 20 ∧ o.size ≤ 20 ∧ w.grownBy w' none := by
  have R0 := Box.new w (.string ⟨#[]⟩) (.string ⟨#[]⟩) (.string ⟨#[]⟩) 33
  have G0 := World.grownBy_alloc w (.cells #[.string ⟨#[]⟩, .string ⟨#[]⟩, .string ⟨#[]⟩] 33) none
  go_enter Try.func25, Try.ntmps25
  go_wp2_with fail
  refine (rdOpen _ _ _ _ _ (isRow_grown hrow G0)).mono ?_
  rintro e w1 ⟨rfl, r1, g1⟩
  have R1 := R0.grown g1 (by simp)
  have hlt := r1.2.1
  have G1 := G0.trans g1
  have hb1 : w.heap.size < (w.alloc (.cells #[.string ⟨#[]⟩, .string ⟨#[]⟩, .string ⟨#[]⟩] 33)).heap.size := by simp
  obtain ⟨gr, hgr⟩ : ∃ gr, (w.alloc (.cells #[.string ⟨#[]⟩, .string ⟨#[]⟩, .string ⟨#[]⟩] 33)).heap.size = gr := ⟨_, rfl⟩
  rw [hgr] at hb1 r1 hlt ⊢
  clear g1 R0 G0 hgr
  go_wp2_with fail
  refine (rdGraph _ _ _ r1 8 (by omega)).mono ?_
  rintro e w2 ⟨v, ts, rfl, s2, o2, r2, g2⟩
  have R2 := R1.grown g2 (by simp; omega)
  have G2 : w.grownBy w2 none := grown_off G1 g2 (fun q e => by cases e; omega)
  have O2 : OwnT w1.heap.size w2 v ts := o2
  obtain ⟨x, y, rfl, i2, p2⟩ := OwnT.plain o2 s2.maxLen
  obtain ⟨L, hL⟩ : ∃ L, ts.length = L := ⟨_, rfl⟩
  rw [hL] at i2 O2 ⊢
  have HL := Lib.hid hL
  have hL81 : L ≤ 81 := by have := s2.1; omega
  have HS := Lib.hid s2
  have HI := Lib.hid i2
  have HP := Lib.hid p2
  have HO := Lib.hid O2
  have HR2 := Lib.hid r2
  clear g2 o2 s2 i2 p2 hL O2 r2 R1 G1 r1
  have hbw : w.heap.size < w1.heap.size := by omega
  by_cases hL0 : 0 < L
  · have hL1 : (0 : Int) < (L : Int) := by omega
    have HN := Lib.hid (rdOnce _ _ _ HR2.out 4 (by omega) (by omega))
    clear HI HR2
    go_wp2_with fail
    refine HN.out.mono ?_
    rintro e w3 ⟨bb, rfl, r3, g3⟩
    have R3 := R2.grown g3 (by simp; omega)
    have G3 : w.grownBy w3 none := grown_off G2 g3 (fun q e => by cases e; omega)
    have HO3 := Lib.hid (own_rd HO.out g3 hlt (Nat.le_refl _))
    have HR3 := Lib.hid r3
    clear g3 r3 HN HO R2 G2
    cases bb
    · have HT := Lib.hid (rdTriple _ _ _ HR3.out)
      clear HR3
      go_wp2_with fail
      refine HT.out.mono ?_
      rintro e wt ⟨s, p, o, hs, hp, ho, rfl, rt, gt⟩
      have Rt := R3.grown gt (by simp; omega)
      have Gt : w.grownBy wt none := grown_off G3 gt (fun q e => by cases e; omega)
      have Ot := own_rd HO3.out gt hlt (Nat.le_refl _)
      obtain ⟨d0, d1, d2⟩ := Rt.cells
      obtain ⟨k0, k1, k2⟩ := Rt.free
      obtain ⟨B, hB⟩ : ∃ B, w.heap.size = B := ⟨_, rfl⟩
      have HB := Lib.hid hB
      clear rt gt HT hB
      go_wp2_with fail
      refine bodyPost_ret (v := .tuple #[.slice x L y, .agg #[.string s, .string p, .string o]]) (by simp [results, Try.results25, go_sem, *]) rfl ⟨_, ts, s, p, o, rfl, ?_, hs.2, hp, ho, ?_⟩
      · have Q : OwnT w1.heap.size (((wt.setCell ⟨w.heap.size, 0, none⟩ (.string s)).setCell ⟨w.heap.size, 1, none⟩ (.string p)).setCell ⟨w.heap.size, 2, none⟩ (.string o)) (.slice x L y) ts := own_off (own_off (own_off Ot hbw _ _) hbw _ _) hbw _ _
        exact got_of Q HS.out
      · exact grown_setNew (grown_setNew (grown_setNew Gt (by simp) _) (by simp) _) (by simp) _
    · have HBW := Lib.hid (rdBelow _ _ _ HR3.out.drew (L : Int) (by omega) (by omega))
      have HOd : Hid (OwnT w1.heap.size w3.drew (.slice x L y) ts) := Lib.hid HO3.out
      have Rd3 : Box w3.drew w.heap.size (.string ⟨#[]⟩) (.string ⟨#[]⟩) (.string ⟨#[]⟩) 33 := R3
      have Gd3 : w.grownBy w3.drew none := grown_drew G3
      clear HR3 R3 G3 HO3
      go_wp2_with fail
      go_region_with ((go_at_call 63; refine HBW.out.mono ?_; rintro e w5 ⟨mm, h0, h1, rfl, r5, g5⟩; obtain ⟨m, rfl⟩ := Int.eq_ofNat_of_zero_le h0; have O5 := own_rd HOd.out g5 hlt (Nat.le_refl _); obtain ⟨b1, off, u, rfl, e0, e1, e2, hu⟩ := pick_of O5 HS.out HL.out (show m < L by omega); have R5 := Rd3.grown g5 (by simp; omega); obtain ⟨d0, d1, d2⟩ := R5.cells; obtain ⟨k0, k1, k2⟩ := R5.free; have hm1 : (m : Int) < (L : Int) := h1; have hb5 := R5.lt))
      have G5 : w.grownBy w5 none := grown_off Gd3 g5 (fun q e => by cases e; omega)
      clear e0 e1 e2 g5 r5 HBW HOd HP
      obtain ⟨B, hB⟩ : ∃ B, w.heap.size = B := ⟨_, rfl⟩
      have HB := Lib.hid hB
      clear hB
      go_wp2_with fail
      refine bodyPost_ret (v := .tuple #[.slice (some ⟨b1, off, none⟩) L y, .agg #[.string u.1, .string u.2.1, .string u.2.2]]) (by simp [results, Try.results25, go_sem, *]) rfl ⟨_, ts, u.1, u.2.1, u.2.2, rfl, ?_, hu.1, hu.2.1, hu.2.2, ?_⟩
      · have Q : OwnT w1.heap.size (((w5.setCell ⟨w.heap.size, 0, none⟩ (.string u.1)).setCell ⟨w.heap.size, 1, none⟩ (.string u.2.1)).setCell ⟨w.heap.size, 2, none⟩ (.string u.2.2)) (.slice (some ⟨b1, off, none⟩) L y) ts := own_off (own_off (own_off O5 hbw _ _) hbw _ _) hbw _ _
        exact got_of Q HS.out
      · exact grown_setNew (grown_setNew (grown_setNew G5 (by simp) _) (by simp) _) (by simp) _
  · have hLn : ¬ (0 : Int) < (L : Int) := by omega
    have HT := Lib.hid (rdTriple _ _ _ HR2.out)
    clear HR2 HI
    go_wp2_with fail
    refine HT.out.mono ?_
    rintro e wt ⟨s, p, o, hs, hp, ho, rfl, rt, gt⟩
    have Rt := R2.grown gt (by simp; omega)
    have Gt : w.grownBy wt none := grown_off G2 gt (fun q e => by cases e; omega)
    have Ot := own_rd HO.out gt hlt (Nat.le_refl _)
    obtain ⟨d0, d1, d2⟩ := Rt.cells
    obtain ⟨k0, k1, k2⟩ := Rt.free
    obtain ⟨B, hB⟩ : ∃ B, w.heap.size = B := ⟨_, rfl⟩
    have HB := Lib.hid hB
    clear rt gt HT hB
    go_wp2_with fail
    refine bodyPost_ret (v := .tuple #[.slice x L y, .agg #[.string s, .string p, .string o]]) (by simp [results, Try.results25, go_sem, *]) rfl ⟨_, ts, s, p, o, rfl, ?_, hs.2, hp, ho, ?_⟩
    · have Q : OwnT w1.heap.size (((wt.setCell ⟨w.heap.size, 0, none⟩ (.string s)).setCell ⟨w.heap.size, 1, none⟩ (.string p)).setCell ⟨w.heap.size, 2, none⟩ (.string o)) (.slice x L y) ts := own_off (own_off (own_off Ot hbw _ _) hbw _ _) hbw _ _
      exact got_of Q HS.out
    · exact grown_setNew (grown_setNew (grown_setNew Gt (by simp) _) (by simp) _) (by simp) _
set_option maxRecDepth 100000 in
set_option maxHeartbeats 1600000 in
theorem drawWithout (w : World) (a : Option Addr) (len cap : Nat) (zs : List Int) (hrow : Frame.IsRow .u8 w a len cap zs) :
    Calls Try.prog 31 #[.slice a len cap] w fun e w' => ∃ (v : Value) (ts : List Tri3) (s p o : ByteArray), e = .returned (.tuple #[v, .agg #[.string s, .string p, .string o]]) ∧ GotG w' v ts ∧ s.size ≤ 20 ∧ p.size ≤ 20 ∧ o.size ≤ 20 ∧ w.grownBy w' none := by
  have R0 := Box.new w (.string ⟨#[]⟩) (.string ⟨#[]⟩) (.string ⟨#[]⟩) 33
  have G0 := World.grownBy_alloc w (.cells #[.string ⟨#[]⟩, .string ⟨#[]⟩, .string ⟨#[]⟩] 33) none
  go_enter Try.func31, Try.ntmps31
  go_wp2_with fail
  refine (rdOpen _ _ _ _ _ (isRow_grown hrow G0)).mono ?_
  rintro e w1 ⟨rfl, r1, g1⟩
  have R1 := R0.grown g1 (by simp)
  have hlt := r1.2.1
  have G1 := G0.trans g1
  have hb1 : w.heap.size < (w.alloc (.cells #[.string ⟨#[]⟩, .string ⟨#[]⟩, .string ⟨#[]⟩] 33)).heap.size := by simp
  obtain ⟨gr, hgr⟩ : ∃ gr, (w.alloc (.cells #[.string ⟨#[]⟩, .string ⟨#[]⟩, .string ⟨#[]⟩] 33)).heap.size = gr := ⟨_, rfl⟩
  rw [hgr] at hb1 r1 hlt ⊢
  clear g1 R0 G0 hgr
  go_wp2_with fail
  refine (rdGraph _ _ _ r1 8 (by omega)).mono ?_
  rintro e w2 ⟨v, ts, rfl, s2, o2, r2, g2⟩
  have R2 := R1.grown g2 (by simp; omega)
  have G2 : w.grownBy w2 none := grown_off G1 g2 (fun q e => by cases e; omega)
  have O2 : OwnT w1.heap.size w2 v ts := o2
  obtain ⟨x, y, rfl, i2, p2⟩ := OwnT.plain o2 s2.maxLen
  obtain ⟨L, hL⟩ : ∃ L, ts.length = L := ⟨_, rfl⟩
  rw [hL] at i2 O2 ⊢
  have HL := Lib.hid hL
  have hL81 : L ≤ 81 := by have := s2.1; omega
  have HS := Lib.hid s2
  have HI := Lib.hid i2
  have HP := Lib.hid p2
  have HO := Lib.hid O2
  have HR2 := Lib.hid r2
  clear g2 o2 s2 i2 p2 hL O2 r2 R1 G1 r1
  have hbw : w.heap.size < w1.heap.size := by omega
  by_cases hL0 : 0 < L
  · have hL1 : (0 : Int) < (L : Int) := by omega
    have HN := Lib.hid (rdOnce _ _ _ HR2.out 4 (by omega) (by omega))
    clear HI HR2
    go_wp2_with fail
    refine HN.out.mono ?_
    rintro e w3 ⟨bb, rfl, r3, g3⟩
    have R3 := R2.grown g3 (by simp; omega)
    have G3 : w.grownBy w3 none := grown_off G2 g3 (fun q e => by cases e; omega)
    have HO3 := Lib.hid (own_rd HO.out g3 hlt (Nat.le_refl _))
    have HR3 := Lib.hid r3
    clear g3 r3 HN HO R2 G2
    cases bb
    · have HBW := Lib.hid (rdBelow _ _ _ HR3.out.drew (L : Int) (by omega) (by omega))
      have HOd : Hid (OwnT w1.heap.size w3.drew (.slice x L y) ts) := Lib.hid HO3.out
      have Rd3 : Box w3.drew w.heap.size (.string ⟨#[]⟩) (.string ⟨#[]⟩) (.string ⟨#[]⟩) 33 := R3
      have Gd3 : w.grownBy w3.drew none := grown_drew G3
      clear HR3 R3 G3 HO3
      go_wp2_with fail
      go_region_with ((go_at_call 63; refine HBW.out.mono ?_; rintro e w5 ⟨mm, h0, h1, rfl, r5, g5⟩; obtain ⟨m, rfl⟩ := Int.eq_ofNat_of_zero_le h0; have O5 := own_rd HOd.out g5 hlt (Nat.le_refl _); obtain ⟨b1, off, u, rfl, e0, e1, e2, hu⟩ := pick_of O5 HS.out HL.out (show m < L by omega); have R5 := Rd3.grown g5 (by simp; omega); obtain ⟨d0, d1, d2⟩ := R5.cells; obtain ⟨k0, k1, k2⟩ := R5.free; have hm1 : (m : Int) < (L : Int) := h1; have hb5 := R5.lt))
      have G5 : w.grownBy w5 none := grown_off Gd3 g5 (fun q e => by cases e; omega)
      clear e0 e1 e2 g5 r5 HBW HOd HP
      obtain ⟨B, hB⟩ : ∃ B, w.heap.size = B := ⟨_, rfl⟩
      have HB := Lib.hid hB
      clear hB
      go_wp2_with fail
      refine bodyPost_ret (v := .tuple #[.slice (some ⟨b1, off, none⟩) L y, .agg #[.string u.1, .string u.2.1, .string u.2.2]]) (by simp [results, Try.results31, go_sem, *]) rfl ⟨_, ts, u.1, u.2.1, u.2.2, rfl, ?_, hu.1, hu.2.1, hu.2.2, ?_⟩
      · have Q : OwnT w1.heap.size (((w5.setCell ⟨w.heap.size, 0, none⟩ (.string u.1)).setCell ⟨w.heap.size, 1, none⟩ (.string u.2.1)).setCell ⟨w.heap.size, 2, none⟩ (.string u.2.2)) (.slice (some ⟨b1, off, none⟩) L y) ts := own_off (own_off (own_off O5 hbw _ _) hbw _ _) hbw _ _
        exact got_of Q HS.out
      · exact grown_setNew (grown_setNew (grown_setNew G5 (by simp) _) (by simp) _) (by simp) _
    · have HT := Lib.hid (rdTriple _ _ _ HR3.out)
      clear HR3
      go_wp2_with fail
      refine HT.out.mono ?_
      rintro e wt ⟨s, p, o, hs, hp, ho, rfl, rt, gt⟩
      have Rt := R3.grown gt (by simp; omega)
      have Gt : w.grownBy wt none := grown_off G3 gt (fun q e => by cases e; omega)
      have Ot := own_rd HO3.out gt hlt (Nat.le_refl _)
      obtain ⟨d0, d1, d2⟩ := Rt.cells
      obtain ⟨k0, k1, k2⟩ := Rt.free
      obtain ⟨B, hB⟩ : ∃ B, w.heap.size = B := ⟨_, rfl⟩
      have HB := Lib.hid hB
      clear rt gt HT hB
      go_wp2_with fail
      refine bodyPost_ret (v := .tuple #[.slice x L y, .agg #[.string s, .string p, .string o]]) (by simp [results, Try.results31, go_sem, *]) rfl ⟨_, ts, s, p, o, rfl, ?_, hs.2, hp, ho, ?_⟩
      · have Q : OwnT w1.heap.size (((wt.setCell ⟨w.heap.size, 0, none⟩ (.string s)).setCell ⟨w.heap.size, 1, none⟩ (.string p)).setCell ⟨w.heap.size, 2, none⟩ (.string o)) (.slice x L y) ts := own_off (own_off (own_off Ot hbw _ _) hbw _ _) hbw _ _
        exact got_of Q HS.out
      · exact grown_setNew (grown_setNew (grown_setNew Gt (by simp) _) (by simp) _) (by simp) _
  · have hLn : ¬ (0 : Int) < (L : Int) := by omega
    have HT := Lib.hid (rdTriple _ _ _ HR2.out)
    clear HR2 HI
    go_wp2_with fail
    refine HT.out.mono ?_
    rintro e wt ⟨s, p, o, hs, hp, ho, rfl, rt, gt⟩
    have Rt := R2.grown gt (by simp; omega)
    have Gt : w.grownBy wt none := grown_off G2 gt (fun q e => by cases e; omega)
    have Ot := own_rd HO.out gt hlt (Nat.le_refl _)
    obtain ⟨d0, d1, d2⟩ := Rt.cells
    obtain ⟨k0, k1, k2⟩ := Rt.free
    obtain ⟨B, hB⟩ : ∃ B, w.heap.size = B := ⟨_, rfl⟩
    have HB := Lib.hid hB
    clear rt gt HT hB
    go_wp2_with fail
    refine bodyPost_ret (v := .tuple #[.slice x L y, .agg #[.string s, .string p, .string o]]) (by simp [results, Try.results31, go_sem, *]) rfl ⟨_, ts, s, p, o, rfl, ?_, hs.2, hp, ho, ?_⟩
    · have Q : OwnT w1.heap.size (((wt.setCell ⟨w.heap.size, 0, none⟩ (.string s)).setCell ⟨w.heap.size, 1, none⟩ (.string p)).setCell ⟨w.heap.size, 2, none⟩ (.string o)) (.slice x L y) ts := own_off (own_off (own_off Ot hbw _ _) hbw _ _) hbw _ _
      exact got_of Q HS.out
    · exact grown_setNew (grown_setNew (grown_setNew Gt (by simp) _) (by simp) _) (by simp) _
end Go.Proofs.Ytinmjbgljgljkaa
