/- The walk of FnStores. -/
import Derived.Test.YteejpceliodcfaaFrame
import Derived.Test.YteejpceliodcfaaDrawSo
import Derived.Test.YteejpceliodcfaaSameS
import Derived.Deep.RegionHeld3
namespace Go.Proofs.Yteejpceliodcfaa
open Go.RowKit Go.WideShapes
namespace fnStores
theorem got_isS {w : World} {a : Option Addr} {n c : Nat} {ts : List Tri3} (h : GotG w (.slice a n c) ts) : ts.length = n ∧ IsTris w a n c ts ∧ SmG ts := by
  obtain ⟨x, c', hv, hi, hp, hs⟩ := h
  simp only [Value.slice.injEq] at hv
  obtain ⟨rfl, rfl, rfl⟩ := hv
  exact ⟨rfl, hi, hs⟩
theorem not_more {x y p q s t : ByteArray} (h : aheadL x.data.toList p.data.toList s.data.toList y.data.toList q.data.toList t.data.toList = true) :
    (Op.bytesLess x.toList y.toList = true ∧ (x.toList == y.toList) = false) ∨ (Op.bytesLess x.toList y.toList = false ∧ (x.toList == y.toList) = true ∧ Op.bytesLess p.toList q.toList = true ∧ (p.toList == q.toList) = false) ∨
      (Op.bytesLess x.toList y.toList = false ∧ (x.toList == y.toList) = true ∧ Op.bytesLess p.toList q.toList = false ∧ (p.toList == q.toList) = true) := by
  rw [aheadL_iff] at h
  simp only [ByteArray.toList_eq]
  rcases h with h1 | ⟨h1, h2⟩
  · exact .inl ⟨h1, by rw [beq_eq_false_iff_ne]; exact less_ne h1⟩
  · rcases h2 with h2 | ⟨h2, _⟩
    · exact .inr (.inl ⟨by rw [h1]; exact less_irrefl _, by rw [h1]; simp, h2, by rw [beq_eq_false_iff_ne]; exact less_ne h2⟩)
    · exact .inr (.inr ⟨by rw [h1]; exact less_irrefl _, by rw [h1]; simp, by rw [h2]; exact less_irrefl _, by rw [h2]; simp⟩)
theorem drawStoreOf (w : World) (a : Option Addr) (len cap : Nat) (zs : List Int) (hrow : Frame.IsRow .u8 w a len cap zs) :
    Calls Try.prog 21 #[.slice a len cap] w fun e w' => ∃ (v : Value) (ts : List Tri3), e = .returned v ∧ GotG w' v ts ∧ w.grownBy w' none := by
  go_enter Try.func21, Try.ntmps21
  go_wp2_with fail
  refine (drawGraphOk _ _ _ _ _ hrow).mono ?_
  rintro e w1 ⟨v, ts, rfl, h1, g1⟩
  go_wp2_with fail
  go_ret
  exact ⟨v, ts, rfl, h1, g1⟩
set_option maxRecDepth 100000 in
set_option maxHeartbeats 6400000 in
theorem walk (a : Option Addr) (len cap : Nat) (zs : List Int) (w : World) (hrow : Frame.IsRow .u8 w a len cap zs) :
    Calls Try.prog 5 #[.slice a len cap] w fun e w' => e = .returned (.bool true) ∧ Below w.heap.size w w' := by
  have hlen : len ≤ 9223372036854775807 := by
    rcases hrow with ⟨_, rfl, _⟩ | ⟨y, _, h1, h2, _⟩
    · omega
    · unfold maxLen at h2; omega
  by_cases hbig : (1048576 : Int) < len
  · go_enter Try.func5, Try.ntmps5
    go_wp2_with go_in
    go_ret
    exact ⟨rfl, Below.refl _ _⟩
  go_enter Try.func5, Try.ntmps5
  go_wp2_with (go_at_call 20; go_in)
  refine (drawStoreOf _ _ _ _ _ hrow).mono ?_
  rintro e w1 ⟨v, ts, rfl, hg, g1⟩
  have B1 := below_of_grown g1
  have HROW := Lib.hid hrow
  clear g1 hrow hbig hlen
  obtain ⟨xg, ng, cg, rfl⟩ := got_sl hg
  have HG1 := Lib.hid hg
  clear hg
  go_wp2_with fail
  refine (implStoreOfG HG1.out).mono ?_
  rintro e w2 ⟨s1, s2, s3, rfl, hs, hb⟩
  obtain ⟨a1, n1, c1, rfl⟩ := got_sl hs.1
  obtain ⟨a2, n2, c2, rfl⟩ := got_sl hs.2.1
  obtain ⟨a3, n3, c3, rfl⟩ := got_sl hs.2.2
  obtain ⟨W2, hW2⟩ : ∃ W, w2.alloc (.cells #[.slice a1 n1 c1, .slice a2 n2 c2, .slice a3 n3 c3] 39) = W := ⟨_, rfl⟩
  have A2 := (Below.refl w2.heap.size w2).alloc (Nat.le_refl _) (.cells #[.slice a1 n1 c1, .slice a2 n2 c2, .slice a3 n3 c3] 39)
  have S2 := Box.new w2 (.slice a1 n1 c1) (.slice a2 n2 c2) (.slice a3 n3 c3) 39
  rw [hW2] at A2 S2
  have B2 := B1.trans ((hb.trans (A2.mono hb.size)).mono B1.size)
  have HG2 := Lib.hid (HG1.out.next (hb.trans (A2.mono hb.size)))
  have HS2 := Lib.hid (hs.next A2)
  have HB2 := Lib.hid S2
  have hz2 : w2.heap.size < W2.heap.size := S2.lt
  clear hb hs A2 S2 HG1 B1
  go_wp2_with fail
  clear hW2
  refine (specStoreOfG HG2.out).mono ?_
  rintro e w3 ⟨r1, r2, r3, rfl, hr, hb⟩
  obtain ⟨b1, m1, d1, rfl⟩ := got_sl hr.1
  obtain ⟨b2, m2, d2, rfl⟩ := got_sl hr.2.1
  obtain ⟨b3, m3, d3, rfl⟩ := got_sl hr.2.2
  obtain ⟨W3, hW3⟩ : ∃ W, w3.alloc (.cells #[.slice b1 m1 d1, .slice b2 m2 d2, .slice b3 m3 d3] 39) = W := ⟨_, rfl⟩
  have A3 := (Below.refl w3.heap.size w3).alloc (Nat.le_refl _) (.cells #[.slice b1 m1 d1, .slice b2 m2 d2, .slice b3 m3 d3] 39)
  have S3 := Box.new w3 (.slice b1 m1 d1) (.slice b2 m2 d2) (.slice b3 m3 d3) 39
  rw [hW3] at A3 S3
  have D3 := hb.trans (A3.mono hb.size)
  have B3 := B2.trans (D3.mono B2.size)
  have HG3 := Lib.hid (HG2.out.next D3)
  have HS3 := Lib.hid (HS2.out.next D3)
  have HB3 := Lib.hid (HB2.out.next D3)
  have HR3 := Lib.hid (hr.next A3)
  have HC3 := Lib.hid S3
  have hz3 : w3.heap.size < W3.heap.size := S3.lt
  clear hb hr A3 S3 D3 HG2 HS2 HB2 B2
  go_wp2_with fail
  clear hW3
  refine (drawStoreOk _ _ _ _ _ (isRow_grown HROW.out (grown_of_below B3))).mono ?_
  rintro e w4 ⟨v1, v2, v3, t1, t2, t3, rfl, hx, g4⟩
  have hb := below_of_grown g4
  obtain ⟨e1, l1, f1, rfl⟩ := got_sl hx.1
  obtain ⟨e2, l2, f2, rfl⟩ := got_sl hx.2.1
  obtain ⟨e3, l3, f3, rfl⟩ := got_sl hx.2.2
  obtain ⟨W, hW⟩ : ∃ W, w4.alloc (.cells #[.slice e1 l1 f1, .slice e2 l2 f2, .slice e3 l3 f3] 39) = W := ⟨_, rfl⟩
  have A4 := (Below.refl w4.heap.size w4).alloc (Nat.le_refl _) (.cells #[.slice e1 l1 f1, .slice e2 l2 f2, .slice e3 l3 f3] 39)
  have S4 := Box.new w4 (.slice e1 l1 f1) (.slice e2 l2 f2) (.slice e3 l3 f3) 39
  rw [hW] at A4 S4
  have D4 := hb.trans (A4.mono hb.size)
  have B4 := B3.trans (D4.mono B3.size)
  have HG4 := Lib.hid (HG3.out.next D4)
  have HS4 := Lib.hid (HS3.out.next D4)
  have HB4 := Lib.hid (HB3.out.next D4)
  have HR4 := Lib.hid (HR3.out.next D4)
  have HC4 := Lib.hid (HC3.out.next D4)
  have HX4 := Lib.hid (hx.next A4)
  have HD4 := Lib.hid S4
  clear hb hx A4 S4 D4 HG3 HS3 HB3 HR3 HC3 B3 g4 HROW
  have ALL : Hid (∀ w', Below W.heap.size W w' → w'.cell? ⟨w2.heap.size, 0, none⟩ = some (.slice a1 n1 c1) ∧ w'.cell? ⟨w2.heap.size, 1, none⟩ = some (.slice a2 n2 c2) ∧ w'.cell? ⟨w2.heap.size, 2, none⟩ = some (.slice a3 n3 c3) ∧ w'.cell? ⟨w3.heap.size, 0, none⟩ = some (.slice b1 m1 d1) ∧ w'.cell? ⟨w3.heap.size, 1, none⟩ = some (.slice b2 m2 d2) ∧ w'.cell? ⟨w3.heap.size, 2, none⟩ = some (.slice b3 m3 d3) ∧ w'.cell? ⟨w4.heap.size, 0, none⟩ = some (.slice e1 l1 f1) ∧ w'.cell? ⟨w4.heap.size, 1, none⟩ = some (.slice e2 l2 f2) ∧ w'.cell? ⟨w4.heap.size, 2, none⟩ = some (.slice e3 l3 f3)) := Lib.hid (fun w' h => by
    obtain ⟨x0, x1, x2⟩ := (HB4.out.next h).cells
    obtain ⟨y0, y1, y2⟩ := (HC4.out.next h).cells
    obtain ⟨z0, z1, z2⟩ := (HD4.out.next h).cells
    exact ⟨x0, x1, x2, y0, y1, y2, z0, z1, z2⟩)
  have SM : Hid (∀ w', Below W.heap.size W w' → Calls Try.prog 25 #[.agg #[.slice a1 n1 c1, .slice a2 n2 c2, .slice a3 n3 c3], .agg #[.slice b1 m1 d1, .slice b2 m2 d2, .slice b3 m3 d3]] w' fun e w'' => e = .returned (.bool true) ∧ Below w'.heap.size w' w'') := Lib.hid (fun w' h => sameStoreG (HS4.out.next h) (HR4.out.next h))
  have KI' := fun w' h => implStoreOkG (w := w') (HX4.out.next h)
  have KS' := fun w' h => specStoreOkG (w := w') (HX4.out.next h)
  generalize storeOk t1 t2 t3 = kb at KI' KS'
  have KI : Hid (∀ w', Below W.heap.size W w' → Calls Try.prog 26 #[.agg #[.slice e1 l1 f1, .slice e2 l2 f2, .slice e3 l3 f3]] w' fun e w'' => e = .returned (.bool kb) ∧ Below w'.heap.size w' w'') := Lib.hid KI'
  have KS : Hid (∀ w', Below W.heap.size W w' → Calls Try.prog 27 #[.agg #[.slice e1 l1 f1, .slice e2 l2 f2, .slice e3 l3 f3]] w' fun e w'' => e = .returned (.bool kb) ∧ Below w'.heap.size w' w'') := Lib.hid KS'
  clear KI' KS'
  cases hq : graphOk ts
  · cases kb
    all_goals
      go_wp2_with fail
      clear hW hq
      have E0 := Lib.hid (Below.drew (Below.refl W.heap.size W))
      go_region_held3 (fun w' => w'.cell? ⟨w2.heap.size, 0, none⟩ = some (.slice a1 n1 c1) ∧ w'.cell? ⟨w2.heap.size, 1, none⟩ = some (.slice a2 n2 c2) ∧ w'.cell? ⟨w2.heap.size, 2, none⟩ = some (.slice a3 n3 c3) ∧ w'.cell? ⟨w3.heap.size, 0, none⟩ = some (.slice b1 m1 d1) ∧ w'.cell? ⟨w3.heap.size, 1, none⟩ = some (.slice b2 m2 d2) ∧ w'.cell? ⟨w3.heap.size, 2, none⟩ = some (.slice b3 m3 d3) ∧ w'.cell? ⟨w4.heap.size, 0, none⟩ = some (.slice e1 l1 f1) ∧ w'.cell? ⟨w4.heap.size, 1, none⟩ = some (.slice e2 l2 f2) ∧ w'.cell? ⟨w4.heap.size, 2, none⟩ = some (.slice e3 l3 f3))
        (first | with_reducible exact ALL.out _ E3.out | with_reducible exact ALL.out _ E2.out | with_reducible exact ALL.out _ E1.out | with_reducible exact ALL.out _ E0.out)
        (first
          | (go_at_call 25; refine (SM.out _ E0.out).mono ?_; rintro e wa ⟨rfl, ha⟩; have E1 := Lib.hid (E0.out.trans (ha.mono E0.out.size)))
          | (go_at_call 26; refine (KI.out _ E1.out).mono ?_; rintro e wb ⟨rfl, hb⟩; have E2 := Lib.hid (E1.out.trans (hb.mono E1.out.size)))
          | (go_at_call 27; refine (KS.out _ E2.out).mono ?_; rintro e wc ⟨rfl, hc⟩; have E3 := Lib.hid (E2.out.trans (hc.mono E2.out.size))))
      clear ha hb hc E0 E1 E2
      go_wp2_with fail
      have E0p := Lib.hid (Below.drew E3.out)
      go_region_held3 (fun w' => w'.cell? ⟨w2.heap.size, 0, none⟩ = some (.slice a1 n1 c1) ∧ w'.cell? ⟨w2.heap.size, 1, none⟩ = some (.slice a2 n2 c2) ∧ w'.cell? ⟨w2.heap.size, 2, none⟩ = some (.slice a3 n3 c3) ∧ w'.cell? ⟨w3.heap.size, 0, none⟩ = some (.slice b1 m1 d1) ∧ w'.cell? ⟨w3.heap.size, 1, none⟩ = some (.slice b2 m2 d2) ∧ w'.cell? ⟨w3.heap.size, 2, none⟩ = some (.slice b3 m3 d3) ∧ w'.cell? ⟨w4.heap.size, 0, none⟩ = some (.slice e1 l1 f1) ∧ w'.cell? ⟨w4.heap.size, 1, none⟩ = some (.slice e2 l2 f2) ∧ w'.cell? ⟨w4.heap.size, 2, none⟩ = some (.slice e3 l3 f3))
        (first | with_reducible exact ALL.out _ E3p.out | with_reducible exact ALL.out _ E2p.out | with_reducible exact ALL.out _ E1p.out | with_reducible exact ALL.out _ E0p.out)
        (first
          | (go_at_call 25; refine (SM.out _ E0p.out).mono ?_; rintro e wa ⟨rfl, ha⟩; have E1p := Lib.hid (E0p.out.trans (ha.mono E0p.out.size)))
          | (go_at_call 26; refine (KI.out _ E1p.out).mono ?_; rintro e wb ⟨rfl, hb⟩; have E2p := Lib.hid (E1p.out.trans (hb.mono E1p.out.size)))
          | (go_at_call 27; refine (KS.out _ E2p.out).mono ?_; rintro e wc ⟨rfl, hc⟩; have E3p := Lib.hid (E2p.out.trans (hc.mono E2p.out.size))))
      have B9 := B4.trans (E3p.out.mono B4.size)
      clear ha hb hc E0p E1p E2p E3p E3
      go_wp2_with fail
      go_ret
      exact ⟨rfl, B9⟩
  · have HQ := Lib.hid hq
    have hkb : (kb != kb) = false := bne_self_eq_false kb
    all_goals
      go_wp2_with fail
      clear hW hq
      have E0 := Lib.hid (Below.drew (Below.refl W.heap.size W))
      go_region_held3 (fun w' => w'.cell? ⟨w2.heap.size, 0, none⟩ = some (.slice a1 n1 c1) ∧ w'.cell? ⟨w2.heap.size, 1, none⟩ = some (.slice a2 n2 c2) ∧ w'.cell? ⟨w2.heap.size, 2, none⟩ = some (.slice a3 n3 c3) ∧ w'.cell? ⟨w3.heap.size, 0, none⟩ = some (.slice b1 m1 d1) ∧ w'.cell? ⟨w3.heap.size, 1, none⟩ = some (.slice b2 m2 d2) ∧ w'.cell? ⟨w3.heap.size, 2, none⟩ = some (.slice b3 m3 d3) ∧ w'.cell? ⟨w4.heap.size, 0, none⟩ = some (.slice e1 l1 f1) ∧ w'.cell? ⟨w4.heap.size, 1, none⟩ = some (.slice e2 l2 f2) ∧ w'.cell? ⟨w4.heap.size, 2, none⟩ = some (.slice e3 l3 f3))
        (first | with_reducible exact ALL.out _ E3.out | with_reducible exact ALL.out _ E2.out | with_reducible exact ALL.out _ E1.out | with_reducible exact ALL.out _ E0.out)
        (first
          | (go_at_call 25; refine (SM.out _ E0.out).mono ?_; rintro e wa ⟨rfl, ha⟩; have E1 := Lib.hid (E0.out.trans (ha.mono E0.out.size)))
          | (go_at_call 26; refine (KI.out _ E1.out).mono ?_; rintro e wb ⟨rfl, hb⟩; have E2 := Lib.hid (E1.out.trans (hb.mono E1.out.size)))
          | (go_at_call 27; refine (KS.out _ E2.out).mono ?_; rintro e wc ⟨rfl, hc⟩; have E3 := Lib.hid (E2.out.trans (hc.mono E2.out.size))))
      clear ha hb hc E0 E1 E2
    all_goals
      obtain ⟨hl0, hi0, hz0⟩ := got_isS HG4.out
      obtain ⟨hl1, hi1, hz1⟩ := got_isS HS4.out.2.1
      obtain ⟨hl2, hi2, hz2'⟩ := got_isS HS4.out.2.2
      have hng : ng ≤ 81 := by have := hz0.1; omega
      have hP1 : (st1 ts).length = ng := by unfold st1; rw [if_pos HQ.out, sortH_len]; exact hl0
      have hP2 : (st2 ts).length = ng := by unfold st2; rw [if_pos HQ.out, sortH_len]; exact hl0
      obtain rfl : n2 = ng := hl1.symm.trans hP1
      obtain rfl : n3 = n2 := hl2.symm.trans hP2
      have HI1 := Lib.hid hi1
      have HI2 := Lib.hid hi2
      have HL1 := Lib.hid hP1
      have HL2 := Lib.hid hP2
      have HR1 : Hid (RisingH 1 (st1 ts)) := Lib.hid (by unfold st1; rw [if_pos HQ.out]; exact sortH_rising (graph_nodup HQ.out))
      have HR2 : Hid (RisingH 2 (st2 ts)) := Lib.hid (by unfold st2; rw [if_pos HQ.out]; exact sortH_rising (graph_nodup HQ.out))
      have HLG := Lib.hid hl0
      have E3' := E3.out
      clear hl0 hl1 hl2 hi0 hi1 hi2 hz0 hz1 hz2' hP1 hP2 KI KS SM HX4 HR4 HC4 HD4
      go_wp2_with fail
      go_loopw [9] (fun i wr => ∃ k : Nat, 1 ≤ k ∧ k ≤ n3 + 1 ∧ i = .int .i64 k ∧ Hid (Below W.heap.size W wr)) (fun i _ => n3 + 1 - (intOf i).toNat)
      case atStart => exact ⟨1, Nat.le_refl _, by omega, rfl, Lib.hid E3'⟩
      case round =>
        obtain ⟨k, hk1, hk, rfl, hfr⟩ := hrel
        obtain ⟨x0, x1, x2, _⟩ := ALL.out _ hfr.out
        clear E3'
        by_cases hlt : k < n3
        · obtain ⟨j, rfl⟩ : ∃ j, k = j + 1 := ⟨k - 1, by omega⟩
          have hj1 : ((j + 1 : Nat) : Int) - 1 = (j : Int) := by omega
          have hj2 : IntKind.i64.wrap (((j + 1 : Nat) : Int) - 1) = (j : Int) := by rw [hj1]; exact IntWalk.i64_in _ (by omega)
          have hk8 : (0 : Int) ≤ (j : Int) + 1 := by omega
          have hk9 : (j : Int) + 1 < (n3 : Int) := by omega
          have hj6 : (0 : Int) ≤ (j : Int) := by omega
          have hj7 : (j : Int) < (n3 : Int) := by omega
          have hj8 : IntKind.i64.wrap (j : Int) = (j : Int) := IntWalk.i64_in _ (by omega)
          have hj4 : (j : Int) + 1 - 1 = (j : Int) := by omega
          have hj5 : IntKind.i64.wrap ((j : Int) + 1 - 1) = (j : Int) := by rw [hj4]; exact IntWalk.i64_in _ (by omega)
          obtain ⟨p1, o1, rfl, hp1, _, _, _, hc1⟩ := (HI1.out.next hfr.out).cells (by omega)
          obtain ⟨p2, o2, rfl, hp2, _, _, _, hc2⟩ := (HI2.out.next hfr.out).cells (by omega)
          have ta : (st1 ts)[j]? = some ((st1 ts)[j]'(by have := HL1.out; omega)) := List.getElem?_eq_getElem _
          have tb : (st1 ts)[j + 1]? = some ((st1 ts)[j + 1]'(by have := HL1.out; omega)) := List.getElem?_eq_getElem _
          have tc : (st2 ts)[j]? = some ((st2 ts)[j]'(by have := HL2.out; omega)) := List.getElem?_eq_getElem _
          have td : (st2 ts)[j + 1]? = some ((st2 ts)[j + 1]'(by have := HL2.out; omega)) := List.getElem?_eq_getElem _
          obtain ⟨a0, a1', a2', u1, u2, u3⟩ := hc1 j _ ta
          obtain ⟨b0, b1', b2', u4, u5, u6⟩ := hc1 (j + 1) _ tb
          obtain ⟨c0, c1', c2', u7, u8, u9⟩ := hc2 j _ tc
          obtain ⟨d0, d1', d2', v1, v2, v3⟩ := hc2 (j + 1) _ td
          have r1 := (List.pairwise_iff_getElem.1 HR1.out) j (j + 1) (by have := HL1.out; omega) (by have := HL1.out; omega) (by omega)
          have r2 := (List.pairwise_iff_getElem.1 HR2.out) j (j + 1) (by have := HL2.out; omega) (by have := HL2.out; omega) (by omega)
          clear u1 u2 u3 u4 u5 u6 u7 u8 u9 v1 v2 v3 ta tb tc td hc1 hc2
          generalize (st1 ts)[j]'(by have := HL1.out; omega) = ta at a0 a1' a2' r1
          generalize (st1 ts)[j + 1]'(by have := HL1.out; omega) = tb at b0 b1' b2' r1
          generalize (st2 ts)[j]'(by have := HL2.out; omega) = tc at c0 c1' c2' r2
          generalize (st2 ts)[j + 1]'(by have := HL2.out; omega) = td at d0 d1' d2' r2
          obtain ⟨ka, kp, ko⟩ := ta
          obtain ⟨la, lp, lo⟩ := tb
          obtain ⟨ma, mp, mo⟩ := tc
          obtain ⟨na, np, no⟩ := td
          simp only at a0 a1' a2' b0 b1' b2' c0 c1' c2' d0 d1' d2'
          have gcase := not_more (x := kp) (y := lp) (p := ko) (q := lo) (s := ka) (t := la) r1
          have hcase := not_more (x := mo) (y := no) (p := ma) (q := na) (s := mp) (t := np) r2
          clear r1 r2
          have E0 := hfr.out
          obtain ⟨Wa, hWa⟩ : ∃ W', wr.alloc (.cells #[.string ka, .string kp, .string ko] 46) = W' := ⟨_, rfl⟩
          have Fa := (Below.refl wr.heap.size wr).alloc (Nat.le_refl _) (.cells #[.string ka, .string kp, .string ko] 46)
          have Xa := Box.new wr (.string ka) (.string kp) (.string ko) 46
          rw [hWa] at Fa Xa
          have E1 := E0.trans (Fa.mono E0.size)
          obtain ⟨Wb, hWb⟩ : ∃ W', Wa.alloc (.cells #[.string la, .string lp, .string lo] 46) = W' := ⟨_, rfl⟩
          have Fb := (Below.refl Wa.heap.size Wa).alloc (Nat.le_refl _) (.cells #[.string la, .string lp, .string lo] 46)
          have Xb := Box.new Wa (.string la) (.string lp) (.string lo) 46
          rw [hWb] at Fb Xb
          have E2 := E1.trans (Fb.mono E1.size)
          obtain ⟨Wc, hWc⟩ : ∃ W', Wb.alloc (.cells #[.string ma, .string mp, .string mo] 46) = W' := ⟨_, rfl⟩
          have Fc := (Below.refl Wb.heap.size Wb).alloc (Nat.le_refl _) (.cells #[.string ma, .string mp, .string mo] 46)
          have Xc := Box.new Wb (.string ma) (.string mp) (.string mo) 46
          rw [hWc] at Fc Xc
          have E3 := E2.trans (Fc.mono E2.size)
          obtain ⟨Wd, hWd⟩ : ∃ W', Wc.alloc (.cells #[.string na, .string np, .string no] 46) = W' := ⟨_, rfl⟩
          have Fd := (Below.refl Wc.heap.size Wc).alloc (Nat.le_refl _) (.cells #[.string na, .string np, .string no] 46)
          have Xd := Box.new Wc (.string na) (.string np) (.string no) 46
          rw [hWd] at Fd Xd
          have E4 := E3.trans (Fd.mono E3.size)
          obtain ⟨y0, y1, y2, _⟩ := ALL.out _ E1
          obtain ⟨z0, z1, z2, _⟩ := ALL.out _ E2
          obtain ⟨w0', w1', w2', _⟩ := ALL.out _ E3
          rw [← Fa.cell (p := ⟨p1, _, none⟩) hp1] at b0 b1' b2'
          have hp2a : p2 < Wa.heap.size := Nat.lt_of_lt_of_le hp2 Fa.size
          have hp2b : p2 < Wb.heap.size := Nat.lt_of_lt_of_le hp2a Fb.size
          rw [← Fa.cell (p := ⟨p2, _, none⟩) hp2, ← Fb.cell (p := ⟨p2, _, none⟩) hp2a] at c0 c1' c2'
          rw [← Fa.cell (p := ⟨p2, _, none⟩) hp2, ← Fb.cell (p := ⟨p2, _, none⟩) hp2a, ← Fc.cell (p := ⟨p2, _, none⟩) hp2b] at d0 d1' d2'
          have Ya := ((Xa.next Fb).next Fc).next Fd
          have Yb := (Xb.next Fc).next Fd
          have Yc := Xc.next Fd
          obtain ⟨aa0, aa1, aa2⟩ := Ya.cells
          obtain ⟨bb0, bb1, bb2⟩ := Yb.cells
          obtain ⟨cc0, cc1, cc2⟩ := Yc.cells
          obtain ⟨dd0, dd1, dd2⟩ := Xd.cells
          have HE := Lib.hid E4
          clear E0 E1 E2 E3 E4 Fa Fb Fc Fd Xa Xb Xc Xd Ya Yb Yc
          rcases gcase with ⟨g1, g2⟩ | ⟨g1, g2, g3, g4⟩ | ⟨g1, g2, g3, g4⟩
          all_goals
            rcases hcase with ⟨i1, i2⟩ | ⟨i1, i2, i3, i4⟩ | ⟨i1, i2, i3, i4⟩
            all_goals
              go_wp2_with fail
              go_roundw
              case rel => exact ⟨j + 1 + 1, by omega, by omega, by go_num, HE⟩
              case measure => simp [intOf]; omega
        · have hnl : ¬ (k : Int) < (n3 : Int) := by omega
          have KO' := implStoreOkG (HS4.out.next hfr.out)
          rw [store_right HQ.out] at KO'
          have KO := Lib.hid KO'
          have h0 : st0 ts = ts := by unfold st0; rw [if_pos HQ.out]
          have HSG : Hid (GotG W (.slice a1 n1 c1) ts) := Lib.hid (by have := HS4.out.1; rwa [h0] at this)
          have HW1 : Hid (inAll (st1 ts) ts = true) := Lib.hid (inAll_of (fun t ht => by unfold st1 at ht; rw [if_pos HQ.out] at ht; exact sortH_mem.1 ht))
          have HW2 : Hid (inAll (st2 ts) ts = true) := Lib.hid (inAll_of (fun t ht => by unfold st2 at ht; rw [if_pos HQ.out] at ht; exact sortH_mem.1 ht))
          clear KO' h0
          go_wp2_with fail
          clear x0 x1 x2
          refine KO.out.mono ?_
          rintro e w5 ⟨rfl, hb⟩
          have E5 := Lib.hid (hfr.out.trans (hb.mono hfr.out.size))
          clear hb hfr KO
          obtain ⟨x0, x1, x2, _⟩ := ALL.out _ E5.out
          have CW := withinG (HS4.out.next E5.out).2.1 (HG4.out.next E5.out)
          rw [HW1.out] at CW
          have HCW := Lib.hid CW
          clear CW
          go_wp2_with fail
          clear x0 x1 x2
          refine HCW.out.mono ?_
          rintro e w6 ⟨rfl, hb⟩
          have E6 := Lib.hid (E5.out.trans (hb.mono E5.out.size))
          clear hb E5 HCW
          obtain ⟨x0, x1, x2, _⟩ := ALL.out _ E6.out
          have CW := withinG (HS4.out.next E6.out).2.2 (HG4.out.next E6.out)
          rw [HW2.out] at CW
          have HCW := Lib.hid CW
          clear CW
          go_wp2_with fail
          clear x0 x1 x2
          refine HCW.out.mono ?_
          rintro e w7 ⟨rfl, hb⟩
          have E7 := Lib.hid (E6.out.trans (hb.mono E6.out.size))
          clear hb E6 HCW
          obtain ⟨x0, x1, x2, _⟩ := ALL.out _ E7.out
          have HSS := Lib.hid (sameT (HSG.out.next E7.out) (HG4.out.next E7.out))
          go_wp2_with fail
          clear x0 x1 x2
          refine HSS.out.mono ?_
          rintro e w8 ⟨rfl, hb⟩
          have E8 := Lib.hid (E7.out.trans (hb.mono E7.out.size))
          clear hb E7 HSS
          obtain ⟨x0, x1, x2, _⟩ := ALL.out _ E8.out
          have B8 := B4.trans (E8.out.mono B4.size)
          go_wp2_with fail
          go_ret
          exact ⟨rfl, B8⟩
end fnStores
end Go.Proofs.Yteejpceliodcfaa
