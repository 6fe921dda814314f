/- What is drawn for With and Without. -/
import Derived.Test.YtmiiaebelncdhaaGreatG15
import Derived.RegionTactic
import Derived.Test.YtmiiaebelncdhaaGreatG12
import Derived.Test.YtmiiaebelncdhaaGreatG38
namespace Go.Proofs.YtmiiaebelncdhaaGreat
open Go.RowKit Go.WideShapes
theorem own_off {B g : Nat} {w : World} {v : Value} {ts : List Tri3} (h : OwnT B w v ts) (hg : g < B) (i : Nat) (u : Value) : OwnT B (w.setCell ⟨g, i, none⟩ u) v ts := by
  refine World.ownsRow.kept h (row := some g) ⟨rfl, rfl, rfl, by simp [World.setCell], fun k _ hne => Below.heap_setCell _ _ _ _ (fun e => hne (by rw [e]))⟩ ?_
  rcases hv : v.ownBlock with _ | q
  · exact .inl rfl
  · refine .inr fun e => ?_
    have := (World.ownsRow.lt h q hv).1
    cases e
    omega
/-- One of the triples, and its cells. -/
theorem pick_of {B L : Nat} {w : World} {x : Option Addr} {y : Nat} {ts : List Tri3} (h : OwnT B w (.slice x L y) ts) (hs : SmG ts) (hL : ts.length = L) {m : Nat} (hm : m < L) :
    ∃ (b off : Nat) (u : Tri3), x = some ⟨b, off, none⟩ ∧ w.cell? ⟨b, off + m * 3, none⟩ = some (.string u.1) ∧ w.cell? ⟨b, off + m * 3 + 1, none⟩ = some (.string u.2.1) ∧ w.cell? ⟨b, off + m * 3 + 2, none⟩ = some (.string u.2.2) ∧ u.1.size ≤ 20 ∧ u.2.1.size ≤ 20 ∧ u.2.2.size ≤ 20 := by
  obtain ⟨x2, y2, hv, i2⟩ := h.is hs.maxLen
  rw [hL] at hv i2
  simp only [Value.slice.injEq, true_and] at hv
  obtain ⟨rfl, rfl⟩ := hv
  obtain ⟨b1, off, rfl, _, _, _, hts, hcs⟩ := i2.cells (by omega)
  have ht : ts[m]? = some (ts[m]'(by omega)) := List.getElem?_eq_getElem (by omega)
  obtain ⟨c0, c1, c2, _⟩ := hcs m _ ht
  exact ⟨b1, off, _, rfl, c0, c1, c2, hs.2 _ (List.mem_of_getElem? ht)⟩
set_option maxRecDepth 100000 in
set_option maxHeartbeats 1600000 in
theorem drawWith (w : World) (a : Option Addr) (len cap : Nat) (zs : List Int) (hrow : Frame.IsRow .u8 w a len cap zs) :
    Calls Tryz.prog 25 #[.slice a len cap] w fun e w' => ∃ (v : Value) (ts : List Tri3) (s p o : ByteArray), e = .returned (.tuple #[v, .agg #[.string s, .string p, .string o]]) ∧ GotG w' v ts ∧ s.size ≤ 20 ∧ p.size ≤ 20 ∧ o.size ≤ 20 ∧ w.grownBy w' none := by
  have R0 := Box.new w (.string ⟨#[]⟩) (.string ⟨#[]⟩) (.string ⟨#[]⟩) 42
  have G0 := World.grownBy_alloc w (.cells #[.string ⟨#[]⟩, .string ⟨#[]⟩, .string ⟨#[]⟩] 42) none
  go_enter Tryz.func25, Tryz.ntmps25
  go_wp2_with fail
  refine (rdOpen _ _ _ _ _ (isRow_grown hrow G0)).mono ?_
  rintro e w1 ⟨rfl, r1, g1⟩
  have R1 := R0.grown g1 (by simp)
  have hlt := r1.2.1
  have G1 := G0.trans g1
  have hb1 : w.heap.size < (w.alloc (.cells #[.string ⟨#[]⟩, .string ⟨#[]⟩, .string ⟨#[]⟩] 42)).heap.size := by simp
  obtain ⟨gr, hgr⟩ : ∃ gr, (w.alloc (.cells #[.string ⟨#[]⟩, .string ⟨#[]⟩, .string ⟨#[]⟩] 42)).heap.size = gr := ⟨_, rfl⟩
  rw [hgr] at hb1 r1 hlt ⊢
  clear g1 R0 G0 hgr
  go_wp2_with fail
  refine (rdGraph _ _ _ r1 8 (by omega)).mono ?_
  rintro e w2 ⟨v, ts, rfl, s2, o2, r2, g2⟩
  have R2 := R1.grown g2 (by simp; omega)
  have G2 : w.grownBy w2 none := grown_off G1 g2 (fun q e => by cases e; omega)
  have O2 : OwnT w1.heap.size w2 v ts := o2
  obtain ⟨x, y, rfl, i2, p2⟩ := OwnT.plain o2 s2.maxLen
  obtain ⟨L, hL⟩ : ∃ L, ts.length = L := ⟨_, rfl⟩
  rw [hL] at i2 O2 ⊢
  have HL := Lib.hid hL
  have hL81 : L ≤ 81 := by have := s2.1; omega
  have HS := Lib.hid s2
  have HI := Lib.hid i2
  have HP := Lib.hid p2
  have HO := Lib.hid O2
  have HR2 := Lib.hid r2
  clear g2 o2 s2 i2 p2 hL O2 r2 R1 G1 r1
  have hbw : w.heap.size < w1.heap.size := by omega
  by_cases hL0 : 0 < L
  · have hL1 : (0 : Int) < (L : Int) := by omega
    have HN := Lib.hid (rdOnce _ _ _ HR2.out 4 (by omega) (by omega))
    clear HI HR2
    go_wp2_with fail
    refine HN.out.mono ?_
    rintro e w3 ⟨bb, rfl, r3, g3⟩
    have R3 := R2.grown g3 (by simp; omega)
    have G3 : w.grownBy w3 none := grown_off G2 g3 (fun q e => by cases e; omega)
    have HO3 := Lib.hid (own_rd HO.out g3 hlt (Nat.le_refl _))
    have HR3 := Lib.hid r3
    clear g3 r3 HN HO R2 G2
    cases bb
    · have HT := Lib.hid (rdTriple _ _ _ HR3.out)
      clear HR3
      go_wp2_with fail
      refine HT.out.mono ?_
      rintro e wt ⟨s, p, o, hs, hp, ho, rfl, rt, gt⟩
      have Rt := R3.grown gt (by simp; omega)
      have Gt : w.grownBy wt none := grown_off G3 gt (fun q e => by cases e; omega)
      have Ot := own_rd HO3.out gt hlt (Nat.le_refl _)
      obtain ⟨d0, d1, d2⟩ := Rt.cells
      obtain ⟨k0, k1, k2⟩ := Rt.free
      obtain ⟨B, hB⟩ : ∃ B, w.heap.size = B := ⟨_, rfl⟩
      have HB := Lib.hid hB
      clear rt gt HT hB
      go_wp2_with fail
      refine bodyPost_ret (v := .tuple #[.slice x L y, .agg #[.string s, .string p, .string o]]) (by simp [results, Tryz.results25, go_sem, *]) rfl ⟨_, ts, s, p, o, rfl, ?_, hs.2, hp, ho, ?_⟩
      · have Q : OwnT w1.heap.size (((wt.setCell ⟨w.heap.size, 0, none⟩ (.string s)).setCell ⟨w.heap.size, 1, none⟩ (.string p)).setCell ⟨w.heap.size, 2, none⟩ (.string o)) (.slice x L y) ts := own_off (own_off (own_off Ot hbw _ _) hbw _ _) hbw _ _
        exact got_of Q HS.out
      · exact grown_setNew (grown_setNew (grown_setNew Gt (by simp) _) (by simp) _) (by simp) _
    · have HBW := Lib.hid (rdBelow _ _ _ HR3.out.drew (L : Int) (by omega) (by omega))
      have HOd : Hid (OwnT w1.heap.size w3.drew (.slice x L y) ts) := Lib.hid HO3.out
      have Rd3 : Box w3.drew w.heap.size (.string ⟨#[]⟩) (.string ⟨#[]⟩) (.string ⟨#[]⟩) 42 := R3
      have Gd3 : w.grownBy w3.drew none := grown_drew G3
      clear HR3 R3 G3 HO3
      go_wp2_with fail
      go_region_with ((go_at_call 67; refine HBW.out.mono ?_; rintro e w5 ⟨mm, h0, h1, rfl, r5, g5⟩; obtain ⟨m, rfl⟩ := Int.eq_ofNat_of_zero_le h0; have O5 := own_rd HOd.out g5 hlt (Nat.le_refl _); obtain ⟨b1, off, u, rfl, e0, e1, e2, hu⟩ := pick_of O5 HS.out HL.out (show m < L by omega); have R5 := Rd3.grown g5 (by simp; omega); obtain ⟨d0, d1, d2⟩ := R5.cells; obtain ⟨k0, k1, k2⟩ := R5.free; have hm1 : (m : Int) < (L : Int) := h1; have hb5 := R5.lt))
      have G5 : w.grownBy w5 none := grown_off Gd3 g5 (fun q e => by cases e; omega)
      clear e0 e1 e2 g5 r5 HBW HOd HP
      obtain ⟨B, hB⟩ : ∃ B, w.heap.size = B := ⟨_, rfl⟩
      have HB := Lib.hid hB
      clear hB
      go_wp2_with fail
      refine bodyPost_ret (v := .tuple #[.slice (some ⟨b1, off, none⟩) L y, .agg #[.string u.1, .string u.2.1, .string u.2.2]]) (by simp [results, Tryz.results25, go_sem, *]) rfl ⟨_, ts, u.1, u.2.1, u.2.2, rfl, ?_, hu.1, hu.2.1, hu.2.2, ?_⟩
      · have Q : OwnT w1.heap.size (((w5.setCell ⟨w.heap.size, 0, none⟩ (.string u.1)).setCell ⟨w.heap.size, 1, none⟩ (.string u.2.1)).setCell ⟨w.heap.size, 2, none⟩ (.string u.2.2)) (.slice (some ⟨b1, off, none⟩) L y) ts := own_off (own_off (own_off O5 hbw _ _) hbw _ _) hbw _ _
        exact got_of Q HS.out
      · exact grown_setNew (grown_setNew (grown_setNew G5 (by simp) _) (by simp) _) (by simp) _
  · have hLn : ¬ (0 : Int) < (L : Int) := by omega
    have HT := Lib.hid (rdTriple _ _ _ HR2.out)
    clear HR2 HI
    go_wp2_with fail
    refine HT.out.mono ?_
    rintro e wt ⟨s, p, o, hs, hp, ho, rfl, rt, gt⟩
    have Rt := R2.grown gt (by simp; omega)
    have Gt : w.grownBy wt none := grown_off G2 gt (fun q e => by cases e; omega)
    have Ot := own_rd HO.out gt hlt (Nat.le_refl _)
    obtain ⟨d0, d1, d2⟩ := Rt.cells
    obtain ⟨k0, k1, k2⟩ := Rt.free
    obtain ⟨B, hB⟩ : ∃ B, w.heap.size = B := ⟨_, rfl⟩
    have HB := Lib.hid hB
    clear rt gt HT hB
    go_wp2_with fail
    refine bodyPost_ret (v := .tuple #[.slice x L y, .agg #[.string s, .string p, .string o]]) (by simp [results, Tryz.results25, go_sem, *]) rfl ⟨_, ts, s, p, o, rfl, ?_, hs.2, hp, ho, ?_⟩
    · have Q : OwnT w1.heap.size (((wt.setCell ⟨w.heap.size, 0, none⟩ (.string s)).setCell ⟨w.heap.size, 1, none⟩ (.string p)).setCell ⟨w.heap.size, 2, none⟩ (.string o)) (.slice x L y) ts := own_off (own_off (own_off Ot hbw _ _) hbw _ _) hbw _ _
      exact got_of Q HS.out
    · exact grown_setNew (grown_setNew (grown_setNew Gt (by simp) _) (by simp) _) (by simp) _
end Go.Proofs.YtmiiaebelncdhaaGreat
/- WithI, the rest. -/
namespace Go.Proofs.YtmiiaebelncdhaaGreat
open Go.RowKit Go.WideShapes Go.Maps
set_option maxRecDepth 100000 in
set_option maxHeartbeats 800000 in
theorem implGraphOf (b m : Nat) (ts : List Tri3) (w : World) (h : OwnSet w b m ts) (hm : m ≤ 1001) :
    Calls Tryz.prog 71 #[.map (some b)] w (ResPost (ofSet ts) w) := by
  have hle := h.size_le
  have C := Lib.hid (implInOrder b m ts w h (by omega))
  have H := Lib.hid h
  clear h
  by_cases g : (80 : Int) < (ts.length : Int)
  · have HR : Hid (ofSet ts = none) := Lib.hid (by unfold ofSet; rw [if_neg (by omega)])
    go_enter Tryz.func71, Tryz.ntmps71
    go_wp2_with (at_len; refine wpList_count _ rfl _ rfl b m ts rfl H.out ?_)
    go_wp2_with fail
    go_ret2
    rw [HR.out]
    exact ResPost.no (Below.refl _ _)
  · have HR : Hid (ofSet ts = some (sortT ts)) := Lib.hid (by unfold ofSet; rw [if_pos (by omega)])
    go_enter Tryz.func71, Tryz.ntmps71
    go_wp2_with (at_len; refine wpList_count _ rfl _ rfl b m ts rfl H.out ?_)
    go_wp2_with fail
    refine C.out.mono ?_
    rintro e w1 ⟨v, rfl, ho, hb⟩
    go_wp2_with fail
    go_ret2
    rw [HR.out]
    exact ResPost.yes ho hb
set_option maxRecDepth 100000 in
set_option maxHeartbeats 1600000 in
theorem implWith (a : Option Addr) (len cap : Nat) (ts : List Tri3) (s p o : ByteArray) (w : World) (h : IsTris w a len cap ts) (hsm : Sm ts) (hs : s.size ≤ 2097152) (hp : p.size ≤ 2097152) (ho : o.size ≤ 2097152) :
    Calls Tryz.prog 26 #[.slice a len cap, .agg #[.string s, .string p, .string o]] w (ResPost (withT ts (s, p, o)) w) := by
  have A1 := implGraphOk a len cap ts (w.alloc (.cells #[.string s, .string p, .string o] 42)) (h.next ((Below.refl w.heap.size w).alloc (Nat.le_refl _) _)) hsm
  have A2 := implTripleOk s p o hs hp ho
  change ∀ w, Calls _ _ _ w fun e w' => e = .returned (.bool (okT (s, p, o))) ∧ Below w.heap.size w w' at A2
  have B0 := (Below.refl w.heap.size w).alloc (Nat.le_refl _) (.cells #[.string s, .string p, .string o] 42)
  have X0 := Box.new w (.string s) (.string p) (.string o) 42
  have h0 := h.next B0
  cases hg : graphOk ts
  · rw [hg] at A1
    have HR : Hid (withT ts (s, p, o) = none) := Lib.hid (by unfold withT; rw [hg]; simp)
    have C1 := Lib.hid A1
    clear A1 A2 hg h h0 hsm X0
    go_enter Tryz.func26, Tryz.ntmps26
    go_wp2_with fail
    refine C1.out.mono ?_
    rintro e w1 ⟨rfl, hb1⟩
    go_wp2_with fail
    go_ret2
    rw [HR.out]
    exact ResPost.no (B0.trans (hb1.mono B0.size))
  rw [hg] at A1
  cases ht : okT (s, p, o)
  · rw [ht] at A2
    have HR : Hid (withT ts (s, p, o) = none) := Lib.hid (by unfold withT; rw [ht]; simp)
    have C1 := Lib.hid A1
    have C2 := Lib.hid A2
    clear A1 A2 hg ht h h0 hsm
    go_enter Tryz.func26, Tryz.ntmps26
    go_wp2_with fail
    refine C1.out.mono ?_
    rintro e w1 ⟨rfl, hb1⟩
    have X1 := X0.next hb1
    obtain ⟨c0, c1, c2⟩ := X1.cells
    have B1 := B0.trans (hb1.mono B0.size)
    clear X0 hb1 B0
    go_wp2_with fail
    refine (C2.out _).mono ?_
    rintro e w2 ⟨rfl, hb2⟩
    go_wp2_with fail
    go_ret2
    rw [HR.out]
    exact ResPost.no (B1.trans (hb2.mono B1.size))
  rw [ht] at A2
  have hl := h.len
  have hl80 := graphOk_len hg
  have hall : (allT [(a, len, cap, ts)]).length ≤ 1000 := by rw [allT_one]; omega
  have HW : Hid (∀ us : List Tri3, us.Nodup → (∀ u, u ∈ us ↔ u ∈ ts ∨ u = (s, p, o)) → ofSet us = withT ts (s, p, o)) := Lib.hid (fun us hn hm => ofSet_with hg ht hn hm)
  have hsk : SmK (s, p, o) := ⟨by unfold maxLen; simp only; omega, by unfold maxLen; simp only; omega, by unfold maxLen; simp only; omega⟩
  have C1 := Lib.hid A1
  have C2 := Lib.hid A2
  have HALL := Lib.hid hall
  clear A1 A2 hg ht h hsm hl hl80 hall
  go_enter Tryz.func26, Tryz.ntmps26
  go_wp2_with fail
  refine C1.out.mono ?_
  rintro e w1 ⟨rfl, hb1⟩
  have X1 := X0.next hb1
  have h1 := h0.next hb1
  obtain ⟨c0, c1, c2⟩ := X1.cells
  have B1 := B0.trans (hb1.mono B0.size)
  clear X0 hb1 B0 h0
  go_wp2_with fail
  refine (C2.out _).mono ?_
  rintro e w2 ⟨rfl, hb2⟩
  have X2 := X1.next hb2
  have h2 := h1.next hb2
  have B2 := B1.trans (hb2.mono B1.size)
  clear X1 hb2 B1 h1 c0 c1 c2
  have T := implTripleSet w2.heap.size 1 [(a, len, cap, ts)] (w2.alloc (.cells #[.slice a len cap] 24)) rfl (by simp) (by omega) HALL.out (fun i x hx => by
    match i, hx with
    | 0, hx =>
      simp at hx; subst hx
      exact ⟨by simp, h2.next ((Below.refl w2.heap.size w2).alloc (Nat.le_refl _) _)⟩)
  rw [allT_one] at T
  have CT := Lib.hid T
  have B3 := B2.alloc B2.size (.cells #[.slice a len cap] 24)
  have X3 := X2.alloc (.cells #[.slice a len cap] 24)
  clear T h2 X2 B2
  go_wp2_with fail
  refine CT.out.mono ?_
  rintro e w4 ⟨b, m, rfl, hbb, hm, hown, hb4⟩
  have X4 := X3.next hb4
  obtain ⟨c0, c1, c2⟩ := X4.cells
  have B4 := B3.trans (hb4.mono B3.size)
  have hbl : w.heap.size ≤ b := Nat.le_trans B3.size hbb
  have H4 := Lib.hid hown
  have hml : m < maxLen := by unfold maxLen; omega
  clear hown hb4 X3 B3 CT
  go_wp2_with (at_mapUpdate; refine wpList_putG _ rfl _ _ _ rfl b m (addAll [] ts) rfl H4.out hml (s, p, o) hsk rfl rfl ?_)
  intro w5 hown5 hg5
  have B5 : Below w.heap.size w w5 := B4.grown hg5 B4.size (fun r e => by cases e; exact hbl)
  have G := implGraphOf b (m + 1) _ w5 hown5 (by omega)
  rw [HW.out _ hown5.nodup (fun u => by rw [addT_mem, addAll_mem]; simp)] at G
  have CG := Lib.hid G
  clear G hown5 hg5 H4 B4 c0 c1 c2 X4
  go_wp2_with fail
  refine CG.out.mono ?_
  rintro e w6 hr
  obtain ⟨v, rfl, hv⟩ := hr.far B5
  go_wp2_with fail
  go_ret2
  exact ⟨v, rfl, hv⟩
open Go.RowKit Go.WideShapes Go.Maps
theorem zeroB (w : World) : (zeroValue 4).run Tryz.prog w = .ok (.bool false) w := by kernel_rfl
theorem allT_two (a b : Option Addr) (la ca lb cb : Nat) (ts us : List Tri3) : allT [(a, la, ca, ts), (b, lb, cb, us)] = ts ++ us := by simp [allT]
end Go.Proofs.YtmiiaebelncdhaaGreat
/- With and Without at slices that are held by their triples, and what holds of the two together. -/
namespace Go.Proofs.YtmiiaebelncdhaaGreat
open Go.RowKit Go.WideShapes
theorem implWithG {v : Value} {ts : List Tri3} {w : World} (h : GotG w v ts) {s p o : ByteArray} (hs : s.size ≤ 20) (hp : p.size ≤ 20) (ho : o.size ≤ 20) : Calls Tryz.prog 26 #[v, .agg #[.string s, .string p, .string o]] w (GotRes (withT ts (s, p, o)) w) := by
  obtain ⟨x, c, rfl, hi, hp', hsm⟩ := h
  exact (implWith x _ c ts s p o w hi hsm.sm (by omega) (by omega) (by omega)).mono fun e w' g => gotRes (hsm.with_ (t := (s, p, o)) ⟨hs, hp, ho⟩).1 g
theorem specWithG {v : Value} {ts : List Tri3} {w : World} (h : GotG w v ts) {s p o : ByteArray} (hs : s.size ≤ 20) (hp : p.size ≤ 20) (ho : o.size ≤ 20) : Calls Tryz.prog 27 #[v, .agg #[.string s, .string p, .string o]] w (GotRes (withT ts (s, p, o)) w) := by
  obtain ⟨x, c, rfl, hi, hp', hsm⟩ := h
  exact (specWith x _ c ts s p o w hi hp' hsm.sm (by omega) (by omega) (by omega)).mono fun e w' g => gotRes (hsm.with_ (t := (s, p, o)) ⟨hs, hp, ho⟩).1 g
theorem GotG.shape {w : World} {v : Value} {ts : List Tri3} (h : GotG w v ts) : ∃ x c, v = .slice x ts.length c := by
  obtain ⟨x, c, hv, _⟩ := h
  exact ⟨x, c, hv⟩
theorem with_twice {ts n : List Tri3} {t : Tri3} (h : withT ts t = some n) : withT n t = some n := by
  obtain ⟨h1, h2, rfl, h4⟩ := withT_some h
  have e : putT (putT ts t) t = putT ts t := eq_of_rising (putT_rising (graphOk_rising h4)) (graphOk_rising h4) (fun u => by rw [putT_mem, putT_mem]; exact ⟨fun c => c.elim .inl id, .inr⟩)
  unfold withT
  rw [e, if_pos ⟨h4, h2, graphOk_len h4⟩]
theorem with_swap {ts n x m : List Tri3} {t u : Tri3} (h : withT ts t = some n) (hx : withT n u = some x) (hm : withT ts u = some m) : withT m t = some x := by
  obtain ⟨h1, h2, rfl, h4⟩ := withT_some h
  obtain ⟨x1, x2, rfl, x4⟩ := withT_some hx
  obtain ⟨m1, m2, rfl, m4⟩ := withT_some hm
  have e : putT (putT ts u) t = putT (putT ts t) u := eq_of_rising (putT_rising (graphOk_rising m4)) (graphOk_rising x4) (fun v => by
    simp only [putT_mem]
    exact ⟨fun c => by rcases c with c | c | c <;> simp [c], fun c => by rcases c with c | c | c <;> simp [c]⟩)
  unfold withT
  rw [e, if_pos ⟨m4, h2, graphOk_len x4⟩]
theorem with_less {ts h : List Tri3} {t : Tri3} (e : withT ts t = some h) : withoutT h t = some (lessT h t) ∧ t ∈ h ∧ h.length ≤ ts.length + 1 ∧ (lessT h t).length + 1 = h.length ∧ (∀ u ∈ ts, u ∈ h) ∧ (∀ u ∈ lessT h t, u ∈ ts) ∧ t ∉ lessT h t ∧ graphOk h = true := by
  obtain ⟨h1, h2, rfl, h4⟩ := withT_some e
  have hm : t ∈ putT ts t := putT_mem.2 (.inl rfl)
  refine ⟨by unfold withoutT; rw [if_pos ⟨h4, hm⟩], hm, putT_len ts t, lessT_len_mem (graphOk_rising h4).nodup hm, fun u hu => putT_mem.2 (.inr hu), fun u hu => ?_, fun c => (lessT_mem.1 c).1 rfl, h4⟩
  obtain ⟨a, b⟩ := lessT_mem.1 hu
  exact (putT_mem.1 b).resolve_left a
theorem without_back {ts h : List Tri3} {t : Tri3} (e : withoutT ts t = some h) : withT h t = some ts ∧ t ∉ h ∧ (∀ u ∈ h, u ∈ ts) ∧ graphOk h = true := by
  obtain ⟨h1, h2, rfl, h4⟩ := withoutT_some e
  have e2 : putT (lessT ts t) t = ts := eq_of_rising (putT_rising (graphOk_rising h4)) (graphOk_rising h1) (fun u => by
    rw [putT_mem, lessT_mem]
    constructor
    · rintro (rfl | ⟨_, c⟩)
      · exact h2
      · exact c
    · intro c
      by_cases g : u = t
      · exact .inl g
      · exact .inr ⟨g, c⟩)
  refine ⟨?_, fun c => (lessT_mem.1 c).1 rfl, fun u hu => (lessT_mem.1 hu).2, h4⟩
  unfold withT
  rw [e2, if_pos ⟨h4, graphOk_okT h1 t h2, graphOk_len h1⟩]
end Go.Proofs.YtmiiaebelncdhaaGreat
