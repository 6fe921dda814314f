/- Pairs that are marked, one by one. -/
import Derived.Test.YtmiiaebelncdhaaGreatG13
import Derived.Test.YtmiiaebelncdhaaGreatG16
import Derived.Deep.RegionHeld3
namespace Go.Proofs.YtmiiaebelncdhaaGreat
open Go.RowKit Go.WideShapes
def markP (i : Nat) : Pre2 := (mark (1 + 2 * i), mark (1 + 2 * i + 1))
def marksP (n : Nat) : List Pre2 := (List.range n).map markP
theorem marksP_succ (n : Nat) : marksP (n + 1) = marksP n ++ [markP n] := by unfold marksP; rw [List.range_succ, List.map_append]; rfl
theorem marksP_len (n : Nat) : (marksP n).length = n := by simp [marksP]
theorem marksP_at {n i : Nat} (h : i < n) : (marksP n)[i]? = some (markP i) := by unfold marksP; rw [List.getElem?_map, List.getElem?_range h]; rfl
theorem own_keep2 {B e g n c : Nat} {w w' : World} {xs : List Value} (h : w.ownsRow B e 2 (.slice (some ⟨g, 0, none⟩) n c) n xs) (hb : Below w.heap.size w w') : w'.ownsRow B e 2 (.slice (some ⟨g, 0, none⟩) n c) n xs := h.kept (grown_of_below hb) (.inr (by simp [Value.ownBlock]))
set_option maxRecDepth 100000 in
set_option maxHeartbeats 1600000 in
theorem markPairS (B : Nat) (v : Value) (ts : List Pre2) (w : World) (h : OwnP B w v ts) (hl : ts.length ≤ 12) :
    Calls Tryz.prog 89 #[v, .int .i64 1] w fun e w' => e = .returned (.int .i64 (1 + 2 * ts.length)) ∧ OwnP B w' v (marksP ts.length) ∧ w.grownBy w' v.ownBlock := by
  obtain ⟨n, hn⟩ : ∃ n, ts.length = n := ⟨_, rfl⟩
  have h0 := h
  rw [hn] at hl ⊢
  by_cases hz : n = 0
  · subst hz
    obtain rfl : ts = [] := List.length_eq_zero_iff.1 hn
    obtain ⟨a, c, rfl⟩ : ∃ a c, v = .slice a 0 c := by
      rcases h.2 with ⟨rfl, _⟩ | ⟨g, c, cur, rfl, _⟩
      · exact ⟨_, _, rfl⟩
      · exact ⟨_, _, rfl⟩
    go_enter Tryz.func89, Tryz.ntmps89
    go_wp2_with fail
    refine wp_loop_rounds 1 ?_
    rw [rounds_succ]
    go_wp2_with fail
    go_ret
    exact ⟨rfl, h0, World.grownBy.refl _ _⟩
  unfold OwnP at h
  rw [hn] at h
  obtain ⟨g, c, rfl⟩ : ∃ g c, v = .slice (some ⟨g, 0, none⟩) n c := by
    rcases h.2 with ⟨_, e⟩ | ⟨g, c, cur, rfl, _⟩
    · exact absurd e hz
    · exact ⟨g, c, rfl⟩
  have hg := (h.lt g (by simp [Value.ownBlock])).2
  have O0 := h
  obtain ⟨xs0, hxs⟩ : ∃ xs, flatP ts = xs := ⟨_, rfl⟩
  rw [hxs] at O0
  clear h h0 hxs hn
  go_enter Tryz.func89, Tryz.ntmps89
  go_wp2_with fail
  go_loopw [1, 5] (fun q i wr => ∃ k : Nat, k ≤ n ∧ i = .int .i64 k ∧ q = .int .i64 ((1 + 2 * k : Nat) : Int) ∧ (∃ xs : List Value, wr.ownsRow B 39 2 (.slice (some ⟨g, 0, none⟩) n c) n xs ∧ Hid (xs.take (k * 2) = flatP (marksP k))) ∧ w.grownBy wr (some g)) (fun _ i _ => n - (intOf i).toNat)
  case atStart => exact ⟨0, Nat.zero_le _, rfl, rfl, ⟨_, O0, Lib.hid (by simp [flatP, marksP])⟩, World.grownBy.refl _ _⟩
  case round =>
    obtain ⟨k, hk, rfl, rfl, ⟨xs, hown, hx⟩, hnx⟩ := hrel
    by_cases hlt : k < n
    · have hk6 : (0 : Int) ≤ (k : Int) := by omega
      have hk7 : (k : Int) < (n : Int) := by omega
      have m0 := markText (1 + 2 * k) (by omega) (by omega)
      have m1 := markText (1 + 2 * k + 1) (by omega) (by omega)
      obtain ⟨q, hq⟩ : ∃ q : Nat, 1 + 2 * k = q := ⟨_, rfl⟩
      rw [hq] at m0 m1
      have c1 : ((q + 1 : Nat) : Int) = (q : Int) + 1 := by omega
      rw [c1] at m1
      have M0 := Lib.hid m0
      have M1 := Lib.hid m1
      have hxl : xs.length = n * 2 := hown.1
      have HX : Hid (((xs.set (k * 2) (.string (mark q))).set (k * 2 + 1) (.string (mark (q + 1)))).take ((k + 1) * 2) = flatP (marksP (k + 1))) := Lib.hid (by
        rw [marksP_succ, flatP_snoc, ← hq]; exact set2 _ _ hx.out (by omega))
      clear m0 m1 c1
      rw [hq]
      have hqs : q ≤ 25 := by omega
      have hq3 : ((1 + 2 * (k + 1) : Nat) : Int) = (q : Int) + 1 + 1 := by omega
      clear hq
      go_wp2_with fail
      refine (M0.out _).mono ?_
      rintro e w1 ⟨rfl, hb1⟩
      have G1 := hnx.trans (grown_any (grown_of_below hb1) (some g))
      have P1 := own_keep2 hown hb1
      have e0 : w1.cell? ⟨g, k * 2, none⟩ = some (xs[k * 2]'(by omega)) := by rw [P1.cellAt _ (by omega), List.getElem?_eq_getElem (by omega)]
      have f0 := P1.frozenAt (k * 2)
      have P2 := (P1.stored (k * 2) (.string (mark q))).1
      have G2 := grown_set G1 (k * 2) (.string (mark q))
      generalize xs[k * 2]'(by omega) = z0 at e0
      clear hb1 hnx hown P1 G1
      go_wp2_with fail
      refine (M1.out _).mono ?_
      rintro e w2 ⟨rfl, hb2⟩
      have G3 := G2.trans (grown_any (grown_of_below hb2) (some g))
      have P3 := own_keep2 P2 hb2
      obtain ⟨ys, hys⟩ : ∃ ys, xs.set (k * 2) (.string (mark q)) = ys := ⟨_, rfl⟩
      rw [hys] at P3 HX
      have hyl : ys.length = n * 2 := P3.1
      have e1 : w2.cell? ⟨g, k * 2 + 1, none⟩ = some (ys[k * 2 + 1]'(by omega)) := by rw [P3.cellAt _ (by omega), List.getElem?_eq_getElem (by omega)]
      have f1 := P3.frozenAt (k * 2 + 1)
      have P4 := (P3.stored (k * 2 + 1) (.string (mark (q + 1)))).1
      have G4 := grown_set G3 (k * 2 + 1) (.string (mark (q + 1)))
      generalize ys[k * 2 + 1]'(by omega) = z1 at e1
      clear hb2 P2 P3 G2 G3 e0 f0 hys
      go_wp2_with fail
      go_roundw
      case rel => exact ⟨k + 1, by omega, by go_num, by rw [hq3], ⟨_, P4, HX⟩, G4⟩
      case measure => simp [intOf]; omega
    · obtain rfl : k = n := by omega
      have HX : Hid (xs = flatP (marksP k)) := Lib.hid (by
        have := hx.out
        have hxl : xs.length = k * 2 := hown.1
        rwa [List.take_of_length_le (by rw [hxl]; omega)] at this)
      have hv : ((1 + 2 * k : Nat) : Int) = 1 + 2 * (k : Int) := by omega
      go_wp2_with fail
      go_ret
      refine ⟨by rw [← hv]; rfl, ?_, hnx⟩
      unfold OwnP
      rw [← HX.out, marksP_len]
      exact hown
end Go.Proofs.YtmiiaebelncdhaaGreat
/- Pairs of whatever number that are marked, from whatever number on. -/
namespace Go.Proofs.YtmiiaebelncdhaaGreat
open Go.RowKit Go.WideShapes
set_option maxRecDepth 100000 in
set_option maxHeartbeats 1600000 in
theorem markAnyP (B : Nat) (v : Value) (ts : List Pre2) (w : World) (h : OwnP B w v ts) (hl : ts.length ≤ 1048576) (k0 : Nat) (hk0 : 0 < k0) (hk1 : k0 ≤ 4000000) :
    Calls Tryz.prog 89 #[v, .int .i64 k0] w fun e w' => e = .returned (.int .i64 ((k0 + 2 * ts.length : Nat) : Int)) ∧ w.grownBy w' v.ownBlock := by
  obtain ⟨n, hn⟩ : ∃ n, ts.length = n := ⟨_, rfl⟩
  rw [hn] at hl ⊢
  by_cases hz : n = 0
  · subst hz
    obtain rfl : ts = [] := List.length_eq_zero_iff.1 hn
    obtain ⟨a, c, rfl⟩ : ∃ a c, v = .slice a 0 c := by
      rcases h.2 with ⟨rfl, _⟩ | ⟨g, c, cur, rfl, _⟩
      · exact ⟨_, _, rfl⟩
      · exact ⟨_, _, rfl⟩
    clear h hn
    go_enter Tryz.func89, Tryz.ntmps89
    go_wp2_with fail
    refine wp_loop_rounds 1 ?_
    rw [rounds_succ]
    go_wp2_with fail
    go_ret
    exact ⟨rfl, World.grownBy.refl _ _⟩
  unfold OwnP at h
  rw [hn] at h
  obtain ⟨g, c, rfl⟩ : ∃ g c, v = .slice (some ⟨g, 0, none⟩) n c := by
    rcases h.2 with ⟨_, e⟩ | ⟨g, c, cur, rfl, _⟩
    · exact absurd e hz
    · exact ⟨g, c, rfl⟩
  have O0 := h
  obtain ⟨xs0, hxs⟩ : ∃ xs, flatP ts = xs := ⟨_, rfl⟩
  rw [hxs] at O0
  clear h hxs hn
  go_enter Tryz.func89, Tryz.ntmps89
  go_wp2_with fail
  go_loopw [1, 5] (fun q i wr => ∃ k : Nat, k ≤ n ∧ i = .int .i64 k ∧ q = .int .i64 ((k0 + 2 * k : Nat) : Int) ∧ (∃ xs : List Value, wr.ownsRow B 39 2 (.slice (some ⟨g, 0, none⟩) n c) n xs) ∧ w.grownBy wr (some g)) (fun _ i _ => n - (intOf i).toNat)
  case atStart => exact ⟨0, Nat.zero_le _, rfl, by rw [Nat.mul_zero, Nat.add_zero], ⟨_, O0⟩, World.grownBy.refl _ _⟩
  case round =>
    obtain ⟨k, hk, rfl, rfl, ⟨xs, hown⟩, hnx⟩ := hrel
    by_cases hlt : k < n
    · have hk6 : (0 : Int) ≤ (k : Int) := by omega
      have hk7 : (k : Int) < (n : Int) := by omega
      have m0 := markText (k0 + 2 * k) (by omega) (by omega)
      have m1 := markText (k0 + 2 * k + 1) (by omega) (by omega)
      obtain ⟨q, hq⟩ : ∃ q : Nat, k0 + 2 * k = q := ⟨_, rfl⟩
      rw [hq] at m0 m1
      have c1 : ((q + 1 : Nat) : Int) = (q : Int) + 1 := by omega
      rw [c1] at m1
      have M0 := Lib.hid m0
      have M1 := Lib.hid m1
      have hxl : xs.length = n * 2 := hown.1
      clear m0 m1 c1
      rw [hq]
      have hqs : q ≤ 8000000 := by omega
      have hq3 : ((k0 + 2 * (k + 1) : Nat) : Int) = (q : Int) + 1 + 1 := by omega
      have HQ3 := Lib.hid hq3
      clear hq hq3
      go_wp2_with fail
      refine (M0.out _).mono ?_
      rintro e w1 ⟨rfl, hb1⟩
      have G1 := hnx.trans (grown_any (grown_of_below hb1) (some g))
      have P1 := own_keep2 hown hb1
      have e0 : w1.cell? ⟨g, k * 2, none⟩ = some (xs[k * 2]'(by omega)) := by rw [P1.cellAt _ (by omega), List.getElem?_eq_getElem (by omega)]
      have f0 := P1.frozenAt (k * 2)
      have P2 := (P1.stored (k * 2) (.string (mark q))).1
      have G2 := grown_set G1 (k * 2) (.string (mark q))
      generalize xs[k * 2]'(by omega) = z0 at e0
      clear hb1 hnx hown P1 G1
      go_wp2_with fail
      refine (M1.out _).mono ?_
      rintro e w2 ⟨rfl, hb2⟩
      have G3 := G2.trans (grown_any (grown_of_below hb2) (some g))
      have P3 := own_keep2 P2 hb2
      obtain ⟨ys, hys⟩ : ∃ ys, xs.set (k * 2) (.string (mark q)) = ys := ⟨_, rfl⟩
      rw [hys] at P3
      have hyl : ys.length = n * 2 := P3.1
      have e1 : w2.cell? ⟨g, k * 2 + 1, none⟩ = some (ys[k * 2 + 1]'(by omega)) := by rw [P3.cellAt _ (by omega), List.getElem?_eq_getElem (by omega)]
      have f1 := P3.frozenAt (k * 2 + 1)
      have P4 := (P3.stored (k * 2 + 1) (.string (mark (q + 1)))).1
      have G4 := grown_set G3 (k * 2 + 1) (.string (mark (q + 1)))
      generalize ys[k * 2 + 1]'(by omega) = z1 at e1
      clear hb2 P2 P3 G2 G3 e0 f0 hys
      go_wp2_with fail
      go_roundw
      case rel => exact ⟨k + 1, by omega, by go_num, by rw [HQ3.out], ⟨_, P4⟩, G4⟩
      case measure => simp [intOf]; omega
    · obtain rfl : k = n := by omega
      go_wp2_with fail
      go_ret
      exact ⟨rfl, hnx⟩
end Go.Proofs.YtmiiaebelncdhaaGreat
/- Pairs that are marked: what they hold. -/
namespace Go.Proofs.YtmiiaebelncdhaaGreat
open Go.RowKit Go.WideShapes
set_option maxRecDepth 100000 in
set_option maxHeartbeats 1600000 in
theorem heldPairS (a : Option Addr) (n cap : Nat) (w : World) (h : IsPres w a n cap (marksP n)) (hl : n ≤ 12) :
    Calls Tryz.prog 90 #[.slice a n cap, .int .i64 1] w fun e w' => e = .returned (.int .i64 (1 + 2 * n)) ∧ Below w.heap.size w w' := by
  have H := Lib.hid h
  clear h
  go_enter Tryz.func90, Tryz.ntmps90
  go_wp2_with fail
  go_loopw [1, 5] (fun q i wr => ∃ k : Nat, k ≤ n ∧ i = .int .i64 k ∧ q = .int .i64 ((1 + 2 * k : Nat) : Int) ∧ Below w.heap.size w wr) (fun _ i _ => n - (intOf i).toNat)
  case atStart => exact ⟨0, Nat.zero_le _, rfl, rfl, Below.refl _ _⟩
  case round =>
    obtain ⟨k, hk, rfl, rfl, hnx⟩ := hrel
    by_cases hlt : k < n
    · obtain ⟨b, off, rfl, hb, _, _, _, hc⟩ := H.out.cells (by omega)
      obtain ⟨c0, c1, _, _⟩ := hc k _ (marksP_at hlt)
      have hk6 : (0 : Int) ≤ (k : Int) := by omega
      have hk7 : (k : Int) < (n : Int) := by omega
      have l0 : b < wr.heap.size := Nat.lt_of_lt_of_le hb hnx.size
      have m0 := markText (1 + 2 * k) (by omega) (by omega)
      have m1 := markText (1 + 2 * k + 1) (by omega) (by omega)
      unfold markP at c0 c1
      simp only at c0 c1
      obtain ⟨q, hq⟩ : ∃ q : Nat, 1 + 2 * k = q := ⟨_, rfl⟩
      rw [hq] at m0 m1 c0 c1
      have d1 : ((q + 1 : Nat) : Int) = (q : Int) + 1 := by omega
      rw [d1] at m1
      have M0 := Lib.hid m0
      have M1 := Lib.hid m1
      rw [hq]
      have hqs : q ≤ 25 := by omega
      have hq3 : ((1 + 2 * (k + 1) : Nat) : Int) = (q : Int) + 1 + 1 := by omega
      generalize mark q = t0 at *
      generalize mark (q + 1) = t1 at *
      clear hq m0 m1 d1 hc
      go_wp2_with fail
      have KK := c0
      rw [← hnx.cell (p := ⟨b, _, none⟩) hb] at KK
      have LL : b < wr.heap.size := Nat.lt_of_lt_of_le hb hnx.size
      go_region_held3 (fun w' => w'.cell? ⟨b, off + k * 2, none⟩ = some (.string t0))
        (first | go_keep | (rw [ha0.cell (by first | (simp; done) | exact World.block_lt_of_cell? _ _ (by assumption))]; assumption))
        (first | (go_at_call 88; refine (M0.out _).mono ?_; rintro e wa0 ⟨rfl, ha0⟩))
      have B0 : Below w.heap.size w wa0 := (Below.drew hnx).trans (ha0.mono hnx.size)
      clear ha0 KK LL hnx
      go_wp2_with fail
      have KK := c1
      rw [← B0.cell (p := ⟨b, _, none⟩) hb] at KK
      have LL : b < wa0.heap.size := Nat.lt_of_lt_of_le hb B0.size
      go_region_held3 (fun w' => w'.cell? ⟨b, off + k * 2 + 1, none⟩ = some (.string t1))
        (first | go_keep | (rw [ha1.cell (by first | (simp; done) | exact World.block_lt_of_cell? _ _ (by assumption))]; assumption))
        (first | (go_at_call 88; refine (M1.out _).mono ?_; rintro e wa1 ⟨rfl, ha1⟩))
      have B1 : Below w.heap.size w wa1 := (Below.drew B0).trans (ha1.mono B0.size)
      clear ha1 KK LL B0
      go_wp2_with fail
      go_roundw
      case rel => exact ⟨k + 1, by omega, by go_num, by rw [hq3], B1⟩
      case measure => simp [intOf]; omega
    · obtain rfl : k = n := by omega
      have hv : ((1 + 2 * k : Nat) : Int) = 1 + 2 * (k : Int) := by omega
      go_wp2_with fail
      go_ret
      exact ⟨by rw [← hv]; rfl, hnx⟩
end Go.Proofs.YtmiiaebelncdhaaGreat
