/- Drawn patterns: a slice of the call's own, that may be twice itself. -/
import Derived.Test.YtmiiaebelncdhaaGreatG15
import Derived.Test.YtmiiaebelncdhaaGreatG12
import Derived.Test.YtmiiaebelncdhaaGreatG35
import Derived.Test.YtmiiaebelncdhaaGreatG29
namespace Go.Proofs.YtmiiaebelncdhaaGreat
open Go.RowKit Go.WideShapes
theorem tri_news {w : World} {x : Addr} {ts : List Tri3} (h : ∀ (i : Nat) (t : Tri3), ts[i]? = some t → TriAt w x i t) : ∀ (j : Nat) (u : Value), (flat ts)[j]? = some u → w.cell? (x.add j) = some u := by
  intro j u hu
  have hj : j < ts.length * 3 := by have := (List.getElem?_eq_some_iff.1 hu).1; rwa [flat_len] at this
  have hq : j / 3 < ts.length := by omega
  have ht : ts[j / 3]? = some ts[j / 3] := List.getElem?_eq_getElem hq
  obtain ⟨c0, c1, c2, _⟩ := h _ _ ht
  obtain ⟨f0, f1, f2⟩ := flat_at ts _ _ ht
  obtain e | e | e : j = 3 * (j / 3) ∨ j = 3 * (j / 3) + 1 ∨ j = 3 * (j / 3) + 2 := by omega
  · rw [Nat.mul_comm, ← e] at f0
    rw [← e] at c0
    rw [c0, ← hu, f0]
  · rw [Nat.mul_comm, ← e] at f1
    rw [← e] at c1
    rw [c1, ← hu, f1]
  · rw [Nat.mul_comm, ← e] at f2
    rw [← e] at c2
    rw [c2, ← hu, f2]
set_option maxRecDepth 100000 in
set_option maxHeartbeats 1600000 in
theorem rdBgp (B g : Nat) (w : World) (h : Rd B w g) :
    Calls Tryz.prog 57 #[.pointer (some ⟨g, 0, none⟩)] w fun e w' => ∃ (u : Value) (ps : List Tri3), e = .returned u ∧ ps.length ≤ 3 ∧ SmA ps ∧ OwnT w.heap.size w' u ps ∧ Rd B w' g ∧ w.grownBy w' (some g) := by
  obtain ⟨i0, hi, hz0, hz1, hzB⟩ := info_parts infoTri
  have hgw := h.2.1
  have hBg := h.1
  have R0 := h.alloc (.cells #[] 42)
  have G0 := World.grownBy_alloc w (.cells #[] 42) (some g)
  have O0 : OwnT w.heap.size (w.alloc (.cells #[] 42)) (.slice (some ⟨w.heap.size, 0, none⟩) 0 0) [] := World.ownsRow_lit (size := 3) (e := 42) w #[] 0 (Nat.le_refl _) (by decide) rfl
  have HRB := Lib.hid (rdBelow B g _ R0 3 (by omega) (by omega))
  have HU := Lib.hid O0
  clear O0 R0
  go_enter Tryz.func57, Tryz.ntmps57
  go_wp2_with fail
  refine HRB.out.mono ?_
  rintro e w1 ⟨m, hm0, hm1, rfl, r1, g1⟩
  have G1 := G0.trans g1
  have O1 := own_rd HU.out g1 hgw (Nat.le_refl _)
  obtain ⟨m, rfl⟩ := Int.eq_ofNat_of_zero_le hm0
  have hm2 : m ≤ 2 := by omega
  have HR1 := Lib.hid r1
  have HO1 := Lib.hid O1
  clear g1 G0 HU O1 r1 HRB hm0 hm1
  go_wp2_with fail
  go_loopw [3, 4] (fun u' i wr => ∃ (k : Nat) (u : Value) (ps : List Tri3), k ≤ 3 ∧ i = .int .i64 k ∧ u = u' ∧ Hid (ps.length + k ≤ 3 ∧ SmA ps) ∧ Hid (OwnT w.heap.size wr u ps) ∧ Hid (Rd B wr g) ∧ w.grownBy wr (some g)) (fun _ i _ => (intOf i).toNat)
  case atStart => exact ⟨1 + m, _, [], by omega, by go_num, rfl, Lib.hid ⟨by simp; omega, fun t ht => by simp at ht⟩, HO1, HR1, G1⟩
  case round =>
    obtain ⟨k, u, ps, hk, rfl, rfl, hsm, hown, hrd, hg⟩ := hrel
    clear HO1 HR1 G1 hm2
    obtain ⟨x, y, rfl, _⟩ := hown.out.is hsm.out.2.max
    obtain ⟨L, hL⟩ : ∃ L, ps.length = L := ⟨_, rfl⟩
    rw [hL] at hown ⊢
    have HL := Lib.hid hL
    have hL3 : L + k ≤ 3 := by have := hsm.out.1; omega
    clear hL
    by_cases hk0 : 0 < k
    · have hk1 : (0 : Int) < (k : Int) := by omega
      have HP := Lib.hid (rdPattern B g wr hrd.out)
      go_wp2_with fail
      refine HP.out.mono ?_
      rintro e w3 ⟨s, p, o, z1, z2, z3, rfl, r3, g3⟩
      have G3 := hg.trans g3
      have O3 := own_far hown.out HL.out g3 hgw
      have hlt := fun q hq => (World.ownsRow.lt O3.2 q hq).1
      have OA := Lib.hid (World.ownsRow.alloc O3.2 (.cells #[.string s, .string p, .string o] 42))
      have RA := Lib.hid (r3.alloc (.cells #[.string s, .string p, .string o] 42))
      have GA := G3.trans (World.grownBy_alloc w3 (.cells #[.string s, .string p, .string o] 42) (some g))
      have hz3 := (G3).size
      have HH := Lib.hid (three_cell (w := w3) (u := .string s) (v := .string p) (z := .string o) (e := 42))
      have HQ := Lib.hid (And.intro z1 (And.intro z2 z3))
      clear hg g3 r3 hown hrd HP O3 G3 z1 z2 z3
      go_wp2_with (at_builtin; refine wpList_append_own _ rfl _ _ 24 rfl w.heap.size 42 i0 (.agg #[.string ⟨#[]⟩, .string ⟨#[]⟩, .string ⟨#[]⟩]) 3 48 Tryz.underlying24 hi hz0 hz1 hzB rfl (by decide) _ _ _ rfl OA.out ⟨w3.heap.size, 0, none⟩ 1 _ [.string s, .string p, .string o] rfl rfl HH.out (by intro z hz; simp at hz; rcases hz with rfl | rfl | rfl <;> rfl) ?h63 ?h48 ?hbs ?_)
      case h63 => unfold maxLen; omega
      case h48 => omega
      case hbs => simp only [World.size_alloc]; omega
      intro v5 w5 hown5 hg5 _
      have O5 : OwnT w.heap.size w5 v5 (ps ++ [(s, p, o)]) := own3_snoc (t := (s, p, o)) (by rw [HL.out]; exact hown5)
      have R5 := Lib.hid (RA.out.grown hg5 (fun q e => by have := hlt q e; omega))
      have G5 := grown_off GA hg5 (fun q e => hlt q e)
      have HO5 := Lib.hid O5
      clear hown5 hg5 OA RA HH GA O5
      go_wp2_with fail
      go_roundw
      case rel => exact ⟨k - 1, v5, ps ++ [(s, p, o)], by omega, by rw [show ((k - 1 : Nat) : Int) = (k : Int) - 1 from by omega], rfl, Lib.hid ⟨by simp [HL.out]; omega, hsm.out.2.snoc HQ.out.1 HQ.out.2.1 HQ.out.2.2⟩, HO5, R5, G5⟩
      case measure => simp [intOf]; omega
    · obtain rfl : k = 0 := by omega
      go_wp2_with fail
      go_ret
      exact ⟨_, ps, rfl, by rw [HL.out]; omega, hsm.out.2, hown.out, hrd.out, hg⟩
theorem SmA.twice {ps : List Tri3} (h : SmA ps) : SmA (ps ++ ps) := fun t ht => by
  rcases List.mem_append.1 ht with h' | h' <;> exact h t h'
set_option maxRecDepth 100000 in
set_option maxHeartbeats 1600000 in
theorem drawBgpOk (w : World) (a : Option Addr) (len cap : Nat) (zs : List Int) (hrow : Frame.IsRow .u8 w a len cap zs) :
    Calls Tryz.prog 14 #[.slice a len cap] w fun e w' => ∃ (x : Option Addr) (n c : Nat) (ts : List Tri3), e = .returned (.slice x n c) ∧ IsTris w' x n c ts ∧ SmG ts ∧ w.grownBy w' none := by
  obtain ⟨i0, hi, hz0, hz1, hzB⟩ := info_parts infoTri
  have HR := Lib.hid hrow
  clear hrow
  go_enter Tryz.func14, Tryz.ntmps14
  go_wp2_with fail
  refine (rdOpen _ _ _ _ _ HR.out).mono ?_
  rintro e w1 ⟨rfl, hr1, hg1⟩
  have l1 := hr1.2.1
  have hz1' := hg1.size
  go_wp2_with fail
  refine (rdBgp _ _ _ hr1).mono ?_
  rintro e w2 ⟨v, ts, rfl, hL, hS, hO, hr2, hg2⟩
  have G2 : w.grownBy w2 none := hg1.andThen hg2 (by intro j hj; simp at hj; omega)
  obtain ⟨a1, c1, rfl, _⟩ := hO.is hS.max
  have hz2 := hg2.size
  clear hg1 hg2 hr1
  go_wp2_with fail
  refine (rdOnce _ _ _ hr2 6 (by omega) (by omega)).mono ?_
  rintro e w3 ⟨b, rfl, hr3, hg3⟩
  have G3 : w.grownBy w3 none := G2.andThen hg3 (by intro j hj; simp at hj; omega)
  have o3 := own_rd hO hg3 l1 (Nat.le_refl _)
  have hz3 := hg3.size
  obtain ⟨a', c', e', i3⟩ := o3.is hS.max
  cases e'
  clear hg3 hr2 hr3 G2 hO
  cases b
  · have I3 := Lib.hid i3
    clear o3 i3
    go_wp2_with fail
    go_ret
    exact ⟨_, _, _, ts, rfl, I3.out, ⟨by omega, hS⟩, G3⟩
  · have O3 := Lib.hid o3
    have I3 := Lib.hid i3
    rcases i3 with ⟨rfl, h0, rfl, rfl⟩ | ⟨x, rfl, h1, h2, h3, h4⟩
    · clear o3
      go_wp2_with (at_builtin; refine wpList_append_own_none rfl _ _ 24 rfl w1.heap.size 42 i0 3 Tryz.underlying24 hi _ _ _ rfl O3.out rfl ?_)
      go_wp2_with fail
      go_ret
      exact ⟨_, _, _, [], rfl, I3.out, ⟨by simp, by simp⟩, G3⟩
    · have A := Lib.hid (tri_news h4)
      unfold OwnT at o3 O3
      have hlt := fun j hj => (World.ownsRow.lt o3 j hj).1
      clear o3 h4 h3
      go_wp2_with (at_builtin; refine wpList_append_own _ rfl _ _ 24 rfl w1.heap.size 42 i0 (.agg #[.string ⟨#[]⟩, .string ⟨#[]⟩, .string ⟨#[]⟩]) 3 48 Tryz.underlying24 hi hz0 hz1 hzB rfl (by decide) _ _ _ rfl O3.out x ts.length c1 (flat ts) rfl ?qc1 A.out (flat_one ts) ?qc4 ?qc5 ?qc6 ?_)
      case qc1 => rw [flat_len]
      case qc4 => unfold maxLen; omega
      case qc5 => omega
      case qc6 => omega
      intro v' w4 hown hgrow _
      have O4 : OwnT w1.heap.size w4 v' (ts ++ ts) := by
        unfold OwnT
        rw [flat_append, List.length_append]
        exact hown
      have G4 := G3.andThen hgrow (by intro j hj; have := hlt j hj; omega)
      obtain ⟨a4, c4, rfl, i4⟩ := O4.is hS.twice.max
      have I4 := Lib.hid i4
      clear hown hgrow O4 i4
      go_wp2_with fail
      go_ret
      exact ⟨_, _, _, ts ++ ts, rfl, I4.out, ⟨by rw [List.length_append]; omega, hS.twice⟩, G4⟩
end Go.Proofs.YtmiiaebelncdhaaGreat
/- The laws' own way to hold texts against each other. -/
namespace Go.Proofs.YtmiiaebelncdhaaGreat
open Go.RowKit Go.WideShapes
set_option maxRecDepth 100000 in
set_option maxHeartbeats 1600000 in
theorem lawTextsSame (a b : Option Addr) (la ca lb cb : Nat) (ts : List ByteArray) (w : World) (h : IsStrs w a la ca ts) (k : IsStrs w b lb cb ts) (hl : la ≤ 1048576) :
    Calls Tryz.prog 16 #[.slice a la ca, .slice b lb cb] w fun e w' => e = .returned (.bool true) ∧ Below w.heap.size w w' := by
  have hlb : lb = la := by rw [← h.len, ← k.len]
  subst hlb
  have H := Lib.hid h
  have K := Lib.hid k
  clear h k
  go_enter Tryz.func16, Tryz.ntmps16
  go_wp2_with fail
  go_loopw [5] (fun i wr => ∃ j : Nat, j ≤ lb ∧ i = .int .i64 j ∧ Below w.heap.size w wr) (fun i _ => lb - (intOf i).toNat)
  case atStart => exact ⟨0, Nat.zero_le _, rfl, Below.refl _ _⟩
  case round =>
    obtain ⟨j, hj, rfl, hnx⟩ := hrel
    have hj6 : (0 : Int) ≤ (j : Int) := by omega
    by_cases hlt : j < lb
    · have hj7 : (j : Int) < (lb : Int) := by omega
      obtain ⟨b1, off, rfl, hb, hl1, hm1, hts, hcs⟩ := (H.out.next hnx).cells (by omega)
      obtain ⟨b2, off2, rfl, hb2, hl2, hm2, hts2, hcs2⟩ := (K.out.next hnx).cells (by omega)
      have ht : ts[j]? = some (ts[j]'(by omega)) := List.getElem?_eq_getElem (by omega)
      have c0 := hcs j _ ht
      have d0 := hcs2 j _ ht
      generalize ts[j]'(by omega) = t at ht c0 d0
      have HB : Hid (∀ n, Below w.heap.size w (wr.drewN n)) := Lib.hid (fun n => below_drewN hnx n)
      have EQ : (t.toList == t.toList) = true := by simp
      have EN : (t.toList != t.toList) = false := by simp
      clear ht hts hts2 hcs hcs2 hm1 hm2 hl1 hl2 hnx
      go_wp2_with fail
      go_quiet (fail)
      clear EQ EN
      go_wp2_with fail
      go_roundw
      case rel => exact ⟨j + 1, by omega, by go_num, HB.out _⟩
      case measure => simp [intOf]; omega
    · obtain rfl : j = lb := by omega
      go_wp2_with fail
      go_ret
      exact ⟨rfl, hnx⟩
end Go.Proofs.YtmiiaebelncdhaaGreat
/- The variables of patterns: the specification. -/
namespace Go.Proofs.YtmiiaebelncdhaaGreat
open Go.RowKit Go.WideShapes Go.Maps
set_option maxRecDepth 100000 in
theorem specVarsOf (a : Option Addr) (len cap : Nat) (ts : List Tri3) (w : World) (h : IsTris w a len cap ts) (hsm : Sm ts) :
    Calls Tryz.prog 17 #[.slice a len cap] w fun e w' => ∃ v, e = .returned v ∧ OwnS w.heap.size w' v ((varsT ts).map bs) ∧ Below w.heap.size w w' := by
  have C' := specBgpOk a len cap ts w h hsm
  have HL := Lib.hid h.len
  have HM := Lib.hid hsm
  have H := Lib.hid h
  clear h hsm
  cases hq : bgpOk ts
  · have HV : Hid (varsT ts = []) := Lib.hid (by unfold varsT; rw [hq]; rfl)
    rw [hq] at C'
    have C := Lib.hid C'
    clear C' hq
    go_enter Tryz.func17, Tryz.ntmps17
    go_wp2_with fail
    refine C.out.mono ?_
    rintro e w1 ⟨rfl, hb⟩
    have O0 : Hid (OwnS w1.heap.size (w1.alloc (.cells #[] 9)) (.slice (some ⟨w1.heap.size, 0, none⟩) 0 0) []) := Lib.hid (World.ownsRow_lit (size := 1) (e := 9) w1 #[] 0 (Nat.le_refl _) (by decide) rfl)
    go_wp2_with fail
    go_ret
    exact ⟨_, rfl, by rw [HV.out]; exact ownS_base O0.out hb.size, hb.alloc hb.size _⟩
  · have hl4 : ts.length ≤ 4 := by have hq' := hq; unfold bgpOk at hq'; simp only [Bool.and_eq_true, decide_eq_true_eq] at hq'; exact hq'.1
    have HV : Hid (varsT ts = allVars ts) := Lib.hid (varsT_is hq)
    rw [hq] at C'
    have C := Lib.hid C'
    clear C' hq
    go_enter Tryz.func17, Tryz.ntmps17
    go_wp2_with fail
    refine C.out.mono ?_
    rintro e w1 ⟨rfl, hb⟩
    go_wp2_with fail
    refine (specVars a len cap ts w1 (H.out.next hb) HM.out (by have := HL.out; omega)).mono ?_
    rintro e w2 ⟨g, n, c, rfl, o2, hl2, hb2⟩
    go_wp2_with fail
    go_ret
    exact ⟨_, rfl, by rw [HV.out]; exact ownS_base o2 hb.size, hb.trans (hb2.mono hb.size)⟩
end Go.Proofs.YtmiiaebelncdhaaGreat
