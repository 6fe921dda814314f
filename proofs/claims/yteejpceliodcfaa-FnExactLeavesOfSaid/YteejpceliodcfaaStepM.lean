/- Numbers and steps that are marked. -/
import Derived.Test.YteejpceliodcfaaStepD
import Derived.Test.YteejpceliodcfaaMarkO
namespace Go.Proofs.Yteejpceliodcfaa
open Go.RowKit Go.WideShapes
set_option maxRecDepth 100000 in
set_option maxHeartbeats 1600000 in
theorem markInts (B : Nat) (v : Value) (zs : List Int) (w : World) (h : OwnI B w v zs) (hl : zs.length ≤ 1048576) (k0 : Nat) (hk1 : k0 ≤ 8000000) :
    Calls Try.prog 97 #[v, .int .i64 k0] w fun e w' => e = .returned (.int .i64 ((k0 + zs.length : Nat) : Int)) ∧ w.grownBy w' v.ownBlock := by
  obtain ⟨n, hn⟩ : ∃ n, zs.length = n := ⟨_, rfl⟩
  rw [hn] at hl ⊢
  by_cases hz : n = 0
  · subst hz
    obtain rfl : zs = [] := List.length_eq_zero_iff.1 hn
    obtain ⟨a, c, rfl⟩ : ∃ a c, v = .slice a 0 c := by
      rcases h.2 with ⟨rfl, _⟩ | ⟨g, c, cur, rfl, _⟩
      · exact ⟨_, _, rfl⟩
      · exact ⟨_, _, rfl⟩
    clear h hn
    go_enter Try.func97, Try.ntmps97
    go_wp2_with fail
    refine wp_loop_rounds 1 ?_
    rw [rounds_succ]
    go_wp2_with fail
    go_ret
    exact ⟨rfl, World.grownBy.refl _ _⟩
  unfold OwnI at h
  rw [hn] at h
  obtain ⟨g, c, rfl⟩ : ∃ g c, v = .slice (some ⟨g, 0, none⟩) n c := by
    rcases h.2 with ⟨_, e⟩ | ⟨g, c, cur, rfl, _⟩
    · exact absurd e hz
    · exact ⟨g, c, rfl⟩
  have O0 := h
  obtain ⟨xs0, hxs⟩ : ∃ xs, zs.map intV = xs := ⟨_, rfl⟩
  rw [hxs] at O0
  clear h hxs hn
  go_enter Try.func97, Try.ntmps97
  go_wp2_with fail
  go_loopw [1, 5] (fun q i wr => ∃ k : Nat, k ≤ n ∧ i = .int .i64 k ∧ q = .int .i64 ((k0 + k : Nat) : Int) ∧ (∃ xs : List Value, wr.ownsRow B 2 1 (.slice (some ⟨g, 0, none⟩) n c) n xs) ∧ w.grownBy wr (some g)) (fun _ i _ => n - (intOf i).toNat)
  case atStart => exact ⟨0, Nat.zero_le _, rfl, by rw [Nat.add_zero], ⟨_, O0⟩, World.grownBy.refl _ _⟩
  case round =>
    obtain ⟨k, hk, rfl, rfl, ⟨xs, hown⟩, hnx⟩ := hrel
    by_cases hlt : k < n
    · have hk6 : (0 : Int) ≤ (k : Int) := by omega
      have hk7 : (k : Int) < (n : Int) := by omega
      have hxl : xs.length = n := by have := hown.1; omega
      have e0 : wr.cell? ⟨g, k, none⟩ = some (xs[k]'(by omega)) := by rw [hown.cellAt _ (by omega), List.getElem?_eq_getElem (by omega)]
      have f0 := hown.frozenAt k
      obtain ⟨q, hq⟩ : ∃ q : Nat, k0 + k = q := ⟨_, rfl⟩
      rw [hq]
      have P2 := (hown.stored k (.int .i64 (q : Int))).1
      have G2 := grown_set hnx k (.int .i64 (q : Int))
      have hqs : q ≤ 10000000 := by omega
      have hq3 : ((k0 + (k + 1) : Nat) : Int) = (q : Int) + 1 := by omega
      have HQ3 := Lib.hid hq3
      generalize xs[k]'(by omega) = z0 at e0
      clear hq hq3 hxl hown hnx
      go_wp2_with fail
      go_roundw
      case rel => exact ⟨k + 1, by omega, by go_num, by rw [HQ3.out], ⟨_, P2⟩, G2⟩
      case measure => simp [intOf]; omega
    · obtain rfl : k = n := by omega
      go_wp2_with fail
      go_ret
      exact ⟨rfl, hnx⟩
/-- Only what lies between two blocks, and what is new, is changed. -/
def Betw (B C : Nat) (w w' : World) : Prop := Below B w w' ∧ ∀ k, C ≤ k → k < w.heap.size → w'.heap[k]? = w.heap[k]?
theorem Betw.refl (B C : Nat) (w : World) : Betw B C w w := ⟨Below.refl _ _, fun _ _ _ => rfl⟩
theorem Betw.grown {B C : Nat} {w wr w' : World} {row : Option Nat} (h : Betw B C w wr) (hg : wr.grownBy w' row) (hB : B ≤ w.heap.size) (hr : ∀ j, row = some j → B ≤ j ∧ j < C) : Betw B C w w' :=
  ⟨h.1.grown hg (Nat.le_trans hB h.1.size) (fun j hj => (hr j hj).1), fun k hk hl => (hg.block k (Nat.lt_of_lt_of_le hl h.1.size) (fun e => by have := hr k e.symm; omega)).trans (h.2 k hk hl)⟩
theorem Betw.next {B C : Nat} {w wr w' : World} (h : Betw B C w wr) (hb : Below wr.heap.size wr w') (hB : B ≤ w.heap.size) : Betw B C w w' := h.grown (grown_of_below hb) hB (by simp)
theorem Betw.set {B C : Nat} {w wr : World} (h : Betw B C w wr) (hB : B ≤ w.heap.size) {g : Nat} (h1 : B ≤ g) (h2 : g < C) (j : Nat) (q : Value) : Betw B C w (wr.setCell ⟨g, j, none⟩ q) :=
  h.grown (grown_set (World.grownBy.refl wr (some g)) j q) hB (fun i e => by cases e; exact ⟨h1, h2⟩)
set_option maxRecDepth 100000 in
set_option maxHeartbeats 3200000 in
theorem markSteps (B C : Nat) (len : Nat) (ts : List StepV) (us : List Value) (w : World) (h : w.ownsRow B 117 5 (.slice (some ⟨B, 0, none⟩) len len) len (flat5 ts us)) (hi : Inn (B + 1) w ts us) (hC : ∀ u ∈ us, ∀ j, u.ownBlock = some j → j < C) (hBC : B < C) (hl : len + tot ts ≤ 1048576) (hts : ts.length = len) :
    Calls Try.prog 48 #[.slice (some ⟨B, 0, none⟩) len len, .int .i64 1] w fun e w' => (∃ m : Nat, e = .returned (.int .i64 m)) ∧ Betw B C w w' := by
  have hBw : B < w.heap.size := (World.ownsRow.lt h B (by simp [Value.ownBlock])).2
  have HT := Lib.hid hts
  have HC := Lib.hid hC
  have HUL : Hid (us.length = len) := Lib.hid (by have := hi.1; omega)
  have HPW := Lib.hid hi.2.2
  have HF : Hid (∀ j u, 0 ≤ j → us[j]? = some u → (flat5 ts us)[j * 5 + 4]? = some u) := Lib.hid (fun j u _ hu => by
    have hjl := (List.getElem?_eq_some_iff.1 hu).1
    have ht : ts[j]? = some (ts[j]'(by have := hi.1; omega)) := List.getElem?_eq_getElem _
    exact (flat5_at ts us hi.1 j _ u ht hu).2.2.2.2)
  have HI : Hid (∀ j u t, 0 ≤ j → us[j]? = some u → ts[j]? = some t → OwnI (B + 1) w u t.2.2) := Lib.hid (fun j u t _ hu ht => hi.2.1 j u t hu ht)
  have O0 := h
  generalize flat5 ts us = xs0 at O0 HF
  clear h hi hC hts
  go_enter Try.func48, Try.ntmps48
  go_wp2_with fail
  go_loopw [1, 5] (fun q i wr => ∃ k : Nat, k ≤ len ∧ i = .int .i64 k ∧ (∃ m : Nat, q = .int .i64 (m : Int) ∧ 1 ≤ m ∧ m ≤ 1 + 4 * k + tot (ts.take k)) ∧ (∃ xs : List Value, wr.ownsRow B 117 5 (.slice (some ⟨B, 0, none⟩) len len) len xs ∧ Hid (∀ j u, k ≤ j → us[j]? = some u → xs[j * 5 + 4]? = some u)) ∧ Hid (∀ j u t, k ≤ j → us[j]? = some u → ts[j]? = some t → OwnI (B + 1) wr u t.2.2) ∧ Hid (Betw B C w wr)) (fun _ i _ => len - (intOf i).toNat)
  case atStart => exact ⟨0, Nat.zero_le _, rfl, ⟨1, rfl, Nat.le_refl _, by simp [tot]⟩, ⟨_, O0, HF⟩, HI, Lib.hid (Betw.refl _ _ _)⟩
  case round =>
    obtain ⟨k, hk, rfl, ⟨m, rfl, hm1, hm2⟩, ⟨xs, hown, hxs⟩, hin, hbt⟩ := hrel
    clear O0 HF HI
    have hk6 : (0 : Int) ≤ (k : Int) := by omega
    by_cases hlt : k < len
    · have hk7 : (k : Int) < (len : Int) := by omega
      have hu : us[k]? = some (us[k]'(by have := HUL.out; omega)) := List.getElem?_eq_getElem _
      have ht : ts[k]? = some (ts[k]'(by have := HT.out; omega)) := List.getElem?_eq_getElem _
      have hcu := HC.out _ (List.mem_of_getElem? hu)
      have hxu := hxs.out k _ (Nat.le_refl _) hu
      have hou := hin.out k _ _ (Nat.le_refl _) hu ht
      have hpw : Hid (∀ j u', k < j → us[j]? = some u' → ∀ b, (us[k]'(by have := HUL.out; omega)).ownBlock = some b → u'.ownBlock ≠ some b) := Lib.hid (fun j u' hj hu' b hb => by
        have hjl := (List.getElem?_eq_some_iff.1 hu').1
        have := (List.pairwise_iff_getElem.1 HPW.out) k j (by have := HUL.out; omega) hjl hj b hb
        rw [(List.getElem?_eq_some_iff.1 hu').2] at this
        exact this)
      have HS : Hid (tot (ts.take (k + 1)) = tot (ts.take k) + (ts[k]'(by have := HT.out; omega)).2.2.length) := Lib.hid (by rw [List.take_succ_eq_append_getElem (by have := HT.out; omega), tot_snoc])
      have hle : tot (ts.take (k + 1)) ≤ tot ts := by
        have e := List.take_append_drop (k + 1) ts
        have e2 : tot (ts.take (k + 1) ++ ts.drop (k + 1)) = tot (ts.take (k + 1)) + tot (ts.drop (k + 1)) := by
          unfold tot
          rw [List.map_append, List.sum_append]
        rw [e] at e2
        omega
      generalize us[k]'(by have := HUL.out; omega) = u at hu hcu hxu hou hpw
      generalize ts[k]'(by have := HT.out; omega) = t at ht hou HS
      obtain ⟨⟨s, p, o⟩, r, zs⟩ := t
      simp only at hou HS
      have hzl : zs.length ≤ 1048576 := by have := HS.out; omega
      obtain ⟨ua, uc, rfl, _⟩ := hou.is
      have hmb : m ≤ 6000000 := by have := HS.out; omega
      have m0 := markText m (by omega) (by omega)
      have m1 := markText (m + 1) (by omega) (by omega)
      have m2 := markText (m + 2) (by omega) (by omega)
      have c1 : ((m + 1 : Nat) : Int) = (m : Int) + 1 := by omega
      have c2 : ((m + 2 : Nat) : Int) = (m : Int) + 1 + 1 := by omega
      rw [c1] at m1
      rw [c2] at m2
      have M0 := Lib.hid m0
      have M1 := Lib.hid m1
      have M2 := Lib.hid m2
      have HOU := Lib.hid hou
      have HTT := Lib.hid ht
      have HUU := Lib.hid hu
      have hxl : xs.length = len * 5 := hown.1
      have HCU := Lib.hid hcu
      have HXU := Lib.hid hxu
      have hBw2 : B ≤ w.heap.size := Nat.le_of_lt hBw
      clear m0 m1 m2 c1 c2 hou hcu hxu ht hu hle
      go_wp2_with fail
      refine (M0.out _).mono ?_
      rintro e w1 ⟨rfl, hb1⟩
      have T1 := hbt.out.next hb1 hBw2
      have P1 := hown.kept (grown_of_below hb1) (.inr (by simp [Value.ownBlock]))
      have N1 : Hid (∀ j u t, k ≤ j → us[j]? = some u → ts[j]? = some t → OwnI (B + 1) w1 u t.2.2) := Lib.hid (fun j u t hj hu ht => (hin.out j u t hj hu ht).kept hb1)
      have e0 : w1.cell? ⟨B, k * 5, none⟩ = some (xs[k * 5]'(by omega)) := by rw [P1.cellAt _ (by omega), List.getElem?_eq_getElem (by omega)]
      have f0 := P1.frozenAt (k * 5)
      have P2 := (P1.stored (k * 5) (.string (mark m))).1
      have T2 := T1.set hBw2 (Nat.le_refl B) hBC (k * 5) (.string (mark m))
      generalize xs[k * 5]'(by omega) = z0 at e0
      clear hb1 hown P1 T1 hbt hin
      go_wp2_with fail
      refine (M1.out _).mono ?_
      rintro e w2 ⟨rfl, hb2⟩
      have T3 := T2.next hb2 hBw2
      have P3 := P2.kept (grown_of_below hb2) (.inr (by simp [Value.ownBlock]))
      have N3 : Hid (∀ j u t, k ≤ j → us[j]? = some u → ts[j]? = some t → OwnI (B + 1) w2 u t.2.2) := Lib.hid (fun j u t hj hu ht => ((N1.out j u t hj hu ht).set (Nat.lt_succ_self _) (k * 5) (.string (mark m))).kept hb2)
      obtain ⟨ys, hys⟩ : ∃ ys, xs.set (k * 5) (.string (mark m)) = ys := ⟨_, rfl⟩
      rw [hys] at P3
      have HYS := Lib.hid hys
      have hyl : ys.length = len * 5 := P3.1
      have e1 : w2.cell? ⟨B, k * 5 + 1, none⟩ = some (ys[k * 5 + 1]'(by omega)) := by rw [P3.cellAt _ (by omega), List.getElem?_eq_getElem (by omega)]
      have f1 := P3.frozenAt (k * 5 + 1)
      have P4 := (P3.stored (k * 5 + 1) (.string (mark (m + 1)))).1
      have T4 := T3.set hBw2 (Nat.le_refl B) hBC (k * 5 + 1) (.string (mark (m + 1)))
      generalize ys[k * 5 + 1]'(by omega) = z1 at e1
      clear hb2 P2 P3 T2 T3 e0 f0 hys N1
      go_wp2_with fail
      refine (M2.out _).mono ?_
      rintro e w3 ⟨rfl, hb3⟩
      have T5 := T4.next hb3 hBw2
      have P5 := P4.kept (grown_of_below hb3) (.inr (by simp [Value.ownBlock]))
      have N5 : Hid (∀ j u t, k ≤ j → us[j]? = some u → ts[j]? = some t → OwnI (B + 1) w3 u t.2.2) := Lib.hid (fun j u t hj hu ht => ((N3.out j u t hj hu ht).set (Nat.lt_succ_self _) (k * 5 + 1) (.string (mark (m + 1)))).kept hb3)
      obtain ⟨vs, hvs⟩ : ∃ vs, ys.set (k * 5 + 1) (.string (mark (m + 1))) = vs := ⟨_, rfl⟩
      rw [hvs] at P5
      have HVS := Lib.hid hvs
      have hvl : vs.length = len * 5 := P5.1
      have e2 : w3.cell? ⟨B, k * 5 + 2, none⟩ = some (vs[k * 5 + 2]'(by omega)) := by rw [P5.cellAt _ (by omega), List.getElem?_eq_getElem (by omega)]
      have e3 : w3.cell? ⟨B, k * 5 + 3, none⟩ = some (vs[k * 5 + 3]'(by omega)) := by rw [P5.cellAt _ (by omega), List.getElem?_eq_getElem (by omega)]
      have hv4 : vs[k * 5 + 4]? = some (.slice ua zs.length uc) := by
        rw [← HVS.out, ← HYS.out, List.getElem?_set_ne (by omega), List.getElem?_set_ne (by omega)]; exact HXU.out
      have e4 : w3.cell? ⟨B, k * 5 + 4, none⟩ = some (.slice ua zs.length uc) := by rw [P5.cellAt _ (by omega), hv4]
      have f2 := P5.frozenAt (k * 5 + 2)
      have f3 := P5.frozenAt (k * 5 + 3)
      have P7 := ((P5.stored (k * 5 + 2) (.string (mark (m + 2)))).1.stored (k * 5 + 3) (.int .i64 ((m : Int) + 1 + 1 + 1))).1
      have T7 := (T5.set hBw2 (Nat.le_refl B) hBC (k * 5 + 2) (.string (mark (m + 2)))).set hBw2 (Nat.le_refl B) hBC (k * 5 + 3) (.int .i64 ((m : Int) + 1 + 1 + 1))
      have N7 : Hid (∀ j u t, k ≤ j → us[j]? = some u → ts[j]? = some t → OwnI (B + 1) ((w3.setCell ⟨B, k * 5 + 2, none⟩ (.string (mark (m + 2)))).setCell ⟨B, k * 5 + 3, none⟩ (.int .i64 ((m : Int) + 1 + 1 + 1))) u t.2.2) := Lib.hid (fun j u t hj hu ht => ((N5.out j u t hj hu ht).set (Nat.lt_succ_self _) (k * 5 + 2) (.string (mark (m + 2)))).set (Nat.lt_succ_self _) (k * 5 + 3) (.int .i64 ((m : Int) + 1 + 1 + 1)))
      have hq3 : ((m + 4 : Nat) : Int) = (m : Int) + 1 + 1 + 1 + 1 := by omega
      have MI := markInts (B + 1) (.slice ua zs.length uc) zs _ (N7.out k _ _ (Nat.le_refl _) HUU.out HTT.out) hzl (m + 4) (by omega)
      rw [hq3] at MI
      have HMI := Lib.hid MI
      generalize vs[k * 5 + 2]'(by omega) = z2 at e2
      generalize vs[k * 5 + 3]'(by omega) = z3 at e3
      have HV4 := Lib.hid hv4
      clear hb3 P4 P5 T4 T5 e1 f1 hvs N3 N5 MI hq3 hv4
      go_wp2_with fail
      clear e2 e3 e4 f2 f3
      refine HMI.out.mono ?_
      rintro e w5 ⟨rfl, hg⟩
      have hlu := (World.ownsRow.lt HOU.out)
      have O9 := P7.kept hg (.inr (by
        intro e
        have := (hlu B (by rw [← e]; simp [Value.ownBlock])).1
        omega))
      have T9 := T7.grown hg hBw2 (fun j hj => ⟨by have := (hlu j hj).1; omega, HCU.out j hj⟩)
      have N9 : Hid (∀ j u t, k + 1 ≤ j → us[j]? = some u → ts[j]? = some t → OwnI (B + 1) w5 u t.2.2) := Lib.hid (fun j u t hj hu ht => World.ownsRow.kept (N7.out j u t (by omega) hu ht) hg (by
        rcases hb : u.ownBlock with _ | b
        · exact .inl rfl
        · exact .inr (fun e => hpw.out j u (by omega) hu b e.symm hb)))
      have X9 : Hid (∀ j u, k + 1 ≤ j → us[j]? = some u → ((vs.set (k * 5 + 2) (.string (mark (m + 2)))).set (k * 5 + 3) (.int .i64 ((m : Int) + 1 + 1 + 1)))[j * 5 + 4]? = some u) := Lib.hid (fun j u hj hu => by
        rw [List.getElem?_set_ne (by omega), List.getElem?_set_ne (by omega), ← HVS.out, ← HYS.out, List.getElem?_set_ne (by omega), List.getElem?_set_ne (by omega)]
        exact hxs.out j u (by omega) hu)
      clear hg P7 T7 N7 HMI
      go_wp2_with fail
      go_roundw
      case rel => exact ⟨k + 1, by omega, by go_num, ⟨m + 4 + zs.length, rfl, by omega, by rw [HS.out]; omega⟩, ⟨_, O9, X9⟩, N9, Lib.hid T9⟩
      case measure => simp [intOf]; omega
    · go_wp2_with fail
      go_ret
      exact ⟨⟨m, rfl⟩, hbt.out⟩
end Go.Proofs.Yteejpceliodcfaa
