/- A slice of triples of whatever length that is marked, from whatever number on. -/
import Derived.Test.YtkcbgppplgkkbaaGreatMarkO
namespace Go.Proofs.YtkcbgppplgkkbaaGreat
open Go.RowKit Go.WideShapes
set_option maxRecDepth 100000 in
set_option maxHeartbeats 1600000 in
theorem markAny (B : Nat) (v : Value) (ts : List Tri3) (w : World) (h : OwnT B w v ts) (hl : ts.length ≤ 1048576) (k0 : Nat) (hk0 : 0 < k0) (hk1 : k0 ≤ 4000000) :
    Calls Tryz.prog 29 #[v, .int .i64 k0] w fun e w' => e = .returned (.int .i64 ((k0 + 3 * ts.length : Nat) : Int)) ∧ w.grownBy w' v.ownBlock := by
  obtain ⟨n, hn⟩ : ∃ n, ts.length = n := ⟨_, rfl⟩
  rw [hn] at hl ⊢
  by_cases hz : n = 0
  · subst hz
    obtain rfl : ts = [] := List.length_eq_zero_iff.1 hn
    obtain ⟨a, c, rfl⟩ : ∃ a c, v = .slice a 0 c := by
      rcases h.2 with ⟨rfl, _⟩ | ⟨g, c, cur, rfl, _⟩
      · exact ⟨_, _, rfl⟩
      · exact ⟨_, _, rfl⟩
    clear h hn
    go_enter Tryz.func29, Tryz.ntmps29
    go_wp2_with fail
    refine wp_loop_rounds 1 ?_
    rw [rounds_succ]
    go_wp2_with fail
    go_ret
    exact ⟨rfl, World.grownBy.refl _ _⟩
  unfold OwnT at h
  rw [hn] at h
  obtain ⟨g, c, rfl⟩ : ∃ g c, v = .slice (some ⟨g, 0, none⟩) n c := by
    rcases h.2 with ⟨_, e⟩ | ⟨g, c, cur, rfl, _⟩
    · exact absurd e hz
    · exact ⟨g, c, rfl⟩
  have O0 := h
  obtain ⟨xs0, hxs⟩ : ∃ xs, flat ts = xs := ⟨_, rfl⟩
  rw [hxs] at O0
  clear h hxs hn
  go_enter Tryz.func29, Tryz.ntmps29
  go_wp2_with fail
  go_loopw [1, 5] (fun q i wr => ∃ k : Nat, k ≤ n ∧ i = .int .i64 k ∧ q = .int .i64 ((k0 + 3 * k : Nat) : Int) ∧ (∃ xs : List Value, wr.ownsRow B 31 3 (.slice (some ⟨g, 0, none⟩) n c) n xs) ∧ w.grownBy wr (some g)) (fun _ i _ => n - (intOf i).toNat)
  case atStart => exact ⟨0, Nat.zero_le _, rfl, by rw [Nat.mul_zero, Nat.add_zero], ⟨_, O0⟩, World.grownBy.refl _ _⟩
  case round =>
    obtain ⟨k, hk, rfl, rfl, ⟨xs, hown⟩, hnx⟩ := hrel
    by_cases hlt : k < n
    · have hk6 : (0 : Int) ≤ (k : Int) := by omega
      have hk7 : (k : Int) < (n : Int) := by omega
      have m0 := markText (k0 + 3 * k) (by omega) (by omega)
      have m1 := markText (k0 + 3 * k + 1) (by omega) (by omega)
      have m2 := markText (k0 + 3 * k + 2) (by omega) (by omega)
      obtain ⟨q, hq⟩ : ∃ q : Nat, k0 + 3 * k = q := ⟨_, rfl⟩
      rw [hq] at m0 m1 m2
      have c1 : ((q + 1 : Nat) : Int) = (q : Int) + 1 := by omega
      have c2 : ((q + 2 : Nat) : Int) = (q : Int) + 1 + 1 := by omega
      rw [c1] at m1
      rw [c2] at m2
      have M0 := Lib.hid m0
      have M1 := Lib.hid m1
      have M2 := Lib.hid m2
      have hxl : xs.length = n * 3 := hown.1
      clear m0 m1 m2 c1 c2
      rw [hq]
      have hqs : q ≤ 8000000 := by omega
      have hq3 : ((k0 + 3 * (k + 1) : Nat) : Int) = (q : Int) + 1 + 1 + 1 := by omega
      have HQ3 := Lib.hid hq3
      clear hq hq3
      go_wp2_with fail
      refine (M0.out _).mono ?_
      rintro e w1 ⟨rfl, hb1⟩
      have G1 := hnx.trans (grown_any (grown_of_below hb1) (some g))
      have P1 := own_keep hown hb1
      have e0 : w1.cell? ⟨g, k * 3, none⟩ = some (xs[k * 3]'(by omega)) := by rw [P1.cellAt _ (by omega), List.getElem?_eq_getElem (by omega)]
      have f0 := P1.frozenAt (k * 3)
      have P2 := (P1.stored (k * 3) (.string (mark q))).1
      have G2 := grown_set G1 (k * 3) (.string (mark q))
      generalize xs[k * 3]'(by omega) = z0 at e0
      clear hb1 hnx hown P1 G1
      go_wp2_with fail
      refine (M1.out _).mono ?_
      rintro e w2 ⟨rfl, hb2⟩
      have G3 := G2.trans (grown_any (grown_of_below hb2) (some g))
      have P3 := own_keep P2 hb2
      obtain ⟨ys, hys⟩ : ∃ ys, xs.set (k * 3) (.string (mark q)) = ys := ⟨_, rfl⟩
      rw [hys] at P3
      have hyl : ys.length = n * 3 := P3.1
      have e1 : w2.cell? ⟨g, k * 3 + 1, none⟩ = some (ys[k * 3 + 1]'(by omega)) := by rw [P3.cellAt _ (by omega), List.getElem?_eq_getElem (by omega)]
      have f1 := P3.frozenAt (k * 3 + 1)
      have P4 := (P3.stored (k * 3 + 1) (.string (mark (q + 1)))).1
      have G4 := grown_set G3 (k * 3 + 1) (.string (mark (q + 1)))
      generalize ys[k * 3 + 1]'(by omega) = z1 at e1
      clear hb2 P2 P3 G2 G3 e0 f0 hys
      go_wp2_with fail
      refine (M2.out _).mono ?_
      rintro e w3 ⟨rfl, hb3⟩
      have G5 := G4.trans (grown_any (grown_of_below hb3) (some g))
      have P5 := own_keep P4 hb3
      obtain ⟨us, hus⟩ : ∃ us, ys.set (k * 3 + 1) (.string (mark (q + 1))) = us := ⟨_, rfl⟩
      rw [hus] at P5
      have hul : us.length = n * 3 := P5.1
      have e2 : w3.cell? ⟨g, k * 3 + 2, none⟩ = some (us[k * 3 + 2]'(by omega)) := by rw [P5.cellAt _ (by omega), List.getElem?_eq_getElem (by omega)]
      have f2 := P5.frozenAt (k * 3 + 2)
      have P6 := (P5.stored (k * 3 + 2) (.string (mark (q + 2)))).1
      have G6 := grown_set G5 (k * 3 + 2) (.string (mark (q + 2)))
      generalize us[k * 3 + 2]'(by omega) = z2 at e2
      clear hb3 P4 P5 G4 G5 e1 f1 hus
      go_wp2_with fail
      go_roundw
      case rel => exact ⟨k + 1, by omega, by go_num, by rw [HQ3.out], ⟨_, P6⟩, G6⟩
      case measure => simp [intOf]; omega
    · obtain rfl : k = n := by omega
      go_wp2_with fail
      go_ret
      exact ⟨rfl, hnx⟩
theorem dig_len : ∀ n : Nat, (dig n).length ≤ n := by
  intro n
  induction n using Nat.strongRecOn with
  | _ n ih =>
    rcases Nat.eq_zero_or_pos n with rfl | h
    · rw [dig_zero]; simp
    · rw [dig_step h, List.length_append, List.length_singleton]
      have := ih (n / 10) (by omega)
      omega
theorem marks_small (n : Nat) (hn : n ≤ 80) : ∀ t ∈ marksT n, t.1.size ≤ maxLen ∧ t.2.1.size ≤ maxLen ∧ t.2.2.size ≤ maxLen := by
  intro t ht
  unfold marksT at ht
  obtain ⟨i, hi, rfl⟩ := List.mem_map.1 ht
  have hi := List.mem_range.1 hi
  have a := dig_len (1 + 3 * i)
  have b := dig_len (1 + 3 * i + 1)
  have c := dig_len (1 + 3 * i + 2)
  unfold markT mark maxLen
  simp only [bs_size, List.length_cons]
  omega
end Go.Proofs.YtkcbgppplgkkbaaGreat
