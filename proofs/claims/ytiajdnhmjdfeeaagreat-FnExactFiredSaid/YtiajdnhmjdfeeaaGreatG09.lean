/- The exact laws' own marks: their texts, and a slice of triples that is marked and looked at again. -/
import Derived.Test.YtiajdnhmjdfeeaaGreatG08
import Derived.Deep.RegionHeld3
namespace Go.Proofs.YtiajdnhmjdfeeaaGreat
open Go.RowKit Go.WideShapes
theorem graphOk_le {ts : List Tri3} (h : graphOk ts = true) : ts.length ≤ 80 := by
  unfold graphOk at h
  simp only [Bool.and_eq_true, decide_eq_true_eq] at h
  exact h.1
def dig (n : Nat) : List UInt8 := if _h : n = 0 then [] else dig (n / 10) ++ [UInt8.ofNat (48 + n % 10)]
termination_by n
decreasing_by omega
theorem dig_zero : dig 0 = [] := by unfold dig; simp
theorem dig_step {n : Nat} (h : 0 < n) : dig n = dig (n / 10) ++ [UInt8.ofNat (48 + n % 10)] := by
  conv => lhs; unfold dig
  rw [dif_neg (by omega)]
def mark (n : Nat) : ByteArray := bs (109 :: dig n)
theorem mark_text (o : ByteArray) : { data := #[109] } ++ o = bs (109 :: o.data.toList) := by
  apply bs_eq
  simp
set_option maxRecDepth 100000 in
set_option maxHeartbeats 1600000 in
theorem markText (n : Nat) (h0 : 0 < n) (h1 : n ≤ 8000000) (w : World) :
    Calls Tryz.prog 58 #[.int .i64 n] w fun e w' => e = .returned (.string (mark n)) ∧ Below w.heap.size w w' := by
  have h2 : ¬ (n : Int) ≤ 0 := by omega
  go_enter Tryz.func58, Tryz.ntmps58
  go_wp2_with fail
  go_loopw [0, 3] (fun k o wr => ∃ (m : Nat) (O : ByteArray), k = .int .i64 m ∧ o = .string O ∧ m + O.size ≤ n ∧ Hid (dig m ++ O.data.toList = dig n) ∧ Below w.heap.size w wr) (fun k _ _ => (intOf k).toNat)
  case atStart => exact ⟨n, ⟨#[]⟩, rfl, rfl, Nat.le_refl _, Lib.hid (by simp), Below.refl _ _⟩
  case round =>
    obtain ⟨m, O, rfl, rfl, hm, hd, hnx⟩ := hrel
    by_cases g : 0 < m
    · have g2 : (0 : Int) < (m : Int) := by omega
      have hcv := run_convert_bytes_arg (P := Tryz.prog) (wr.alloc (.cells #[.int .u8 (48 + (m : Int) % 10)] 5)) 43 5 Tryz.underlying43 Tryz.underlying5 wr.heap.size 0 1 1 [48 + (m : Int) % 10] rfl (fun i hi => by
        obtain rfl : i = 0 := by omega
        simp [List.getD]) 9 Tryz.underlying9
      obtain ⟨D, hD⟩ : ∃ D, strOfNums [48 + (m : Int) % 10] = D := ⟨_, rfl⟩
      rw [hD] at hcv
      have hDl : D.data.toList = [UInt8.ofNat (48 + m % 10)] := by
        rw [← hD]
        have e : (48 + (m : Int) % 10).toNat = 48 + m % 10 := by omega
        simp [strOfNums, e]
      have hDs : D.size = 1 := by rw [← size_len, hDl]; rfl
      have hO : O.size ≤ 8000000 := by omega
      have hDO : (D ++ O).size = O.size + 1 := by rw [ByteArray.size_append]; omega
      have HD : Hid (dig (m / 10) ++ (D ++ O).data.toList = dig n) := Lib.hid (by
        rw [← hd.out, dig_step g, ByteArray.data_append, Array.toList_append, hDl]; simp)
      have hq : ((m / 10 : Nat) : Int) = (m : Int) / 10 := by omega
      have B1 := hnx.alloc hnx.size (.cells #[.int .u8 (48 + (m : Int) % 10)] 5)
      clear hD hDl hd hnx
      go_wp2_with fail
      go_roundw
      case rel => exact ⟨m / 10, D ++ O, by rw [hq], rfl, by omega, HD, B1⟩
      case measure => simp [intOf]; omega
    · obtain rfl : m = 0 := by omega
      have HR : Hid ({ data := #[109] } ++ O = mark n) := Lib.hid (by have := hd.out; rw [dig_zero, List.nil_append] at this; rw [mark_text, this]; rfl)
      have hO : O.size ≤ 8000000 := by omega
      go_wp2_with fail
      go_ret
      exact ⟨by rw [← HR.out]; rfl, hnx⟩
def markT (i : Nat) : Tri3 := (mark (1 + 3 * i), mark (1 + 3 * i + 1), mark (1 + 3 * i + 2))
def marksT (n : Nat) : List Tri3 := (List.range n).map markT
theorem marksT_succ (n : Nat) : marksT (n + 1) = marksT n ++ [markT n] := by unfold marksT; rw [List.range_succ, List.map_append]; rfl
theorem marksT_len (n : Nat) : (marksT n).length = n := by simp [marksT]
theorem marksT_at {n i : Nat} (h : i < n) : (marksT n)[i]? = some (markT i) := by unfold marksT; rw [List.getElem?_map, List.getElem?_range h]; rfl
theorem grown_set {w w' : World} {g : Nat} (h : w.grownBy w' (some g)) (j : Nat) (u : Value) : w.grownBy (w'.setCell ⟨g, j, none⟩ u) (some g) := by
  refine ⟨h.os, h.tape, h.output, by have := h.size; simp [World.setCell]; omega, fun k hk hne => ?_⟩
  rw [Below.heap_setCell _ _ _ _ (by intro e; exact hne (by rw [e]))]
  exact h.block k hk hne
theorem grown_any {w w' : World} (h : w.grownBy w' none) (r : Option Nat) : w.grownBy w' r := ⟨h.os, h.tape, h.output, h.size, fun k hk _ => h.block k hk (by simp)⟩
theorem own_keep {B e g n c : Nat} {w w' : World} {xs : List Value} (h : w.ownsRow B e 3 (.slice (some ⟨g, 0, none⟩) n c) n xs) (hb : Below w.heap.size w w') : w'.ownsRow B e 3 (.slice (some ⟨g, 0, none⟩) n c) n xs := h.kept (grown_of_below hb) (.inr (by simp [Value.ownBlock]))
set_option maxRecDepth 100000 in
set_option maxHeartbeats 1600000 in
theorem markTriS (B : Nat) (v : Value) (ts : List Tri3) (w : World) (h : OwnT B w v ts) (hl : ts.length ≤ 80) :
    Calls Tryz.prog 17 #[v, .int .i64 1] w fun e w' => e = .returned (.int .i64 (1 + 3 * ts.length)) ∧ OwnT B w' v (marksT ts.length) ∧ w.grownBy w' v.ownBlock := by
  obtain ⟨n, hn⟩ : ∃ n, ts.length = n := ⟨_, rfl⟩
  have h0 := h
  rw [hn] at hl ⊢
  by_cases hz : n = 0
  · subst hz
    obtain rfl : ts = [] := List.length_eq_zero_iff.1 hn
    obtain ⟨a, c, rfl⟩ : ∃ a c, v = .slice a 0 c := by
      rcases h.2 with ⟨rfl, _⟩ | ⟨g, c, cur, rfl, _⟩
      · exact ⟨_, _, rfl⟩
      · exact ⟨_, _, rfl⟩
    go_enter Tryz.func17, Tryz.ntmps17
    go_wp2_with fail
    refine wp_loop_rounds 1 ?_
    rw [rounds_succ]
    go_wp2_with fail
    go_ret
    exact ⟨rfl, h0, World.grownBy.refl _ _⟩
  unfold OwnT at h
  rw [hn] at h
  obtain ⟨g, c, rfl⟩ : ∃ g c, v = .slice (some ⟨g, 0, none⟩) n c := by
    rcases h.2 with ⟨_, e⟩ | ⟨g, c, cur, rfl, _⟩
    · exact absurd e hz
    · exact ⟨g, c, rfl⟩
  have hg := (h.lt g (by simp [Value.ownBlock])).2
  have O0 := h
  obtain ⟨xs0, hxs⟩ : ∃ xs, flat ts = xs := ⟨_, rfl⟩
  rw [hxs] at O0
  clear h h0 hxs hn
  go_enter Tryz.func17, Tryz.ntmps17
  go_wp2_with fail
  go_loopw [1, 5] (fun q i wr => ∃ k : Nat, k ≤ n ∧ i = .int .i64 k ∧ q = .int .i64 ((1 + 3 * k : Nat) : Int) ∧ (∃ xs : List Value, wr.ownsRow B 65 3 (.slice (some ⟨g, 0, none⟩) n c) n xs ∧ Hid (xs.take (k * 3) = flat (marksT k))) ∧ w.grownBy wr (some g)) (fun _ i _ => n - (intOf i).toNat)
  case atStart => exact ⟨0, Nat.zero_le _, rfl, rfl, ⟨_, O0, Lib.hid (by simp [flat, marksT])⟩, World.grownBy.refl _ _⟩
  case round =>
    obtain ⟨k, hk, rfl, rfl, ⟨xs, hown, hx⟩, hnx⟩ := hrel
    by_cases hlt : k < n
    · have hk6 : (0 : Int) ≤ (k : Int) := by omega
      have hk7 : (k : Int) < (n : Int) := by omega
      have m0 := markText (1 + 3 * k) (by omega) (by omega)
      have m1 := markText (1 + 3 * k + 1) (by omega) (by omega)
      have m2 := markText (1 + 3 * k + 2) (by omega) (by omega)
      obtain ⟨q, hq⟩ : ∃ q : Nat, 1 + 3 * k = q := ⟨_, rfl⟩
      rw [hq] at m0 m1 m2
      have c1 : ((q + 1 : Nat) : Int) = (q : Int) + 1 := by omega
      have c2 : ((q + 2 : Nat) : Int) = (q : Int) + 1 + 1 := by omega
      rw [c1] at m1
      rw [c2] at m2
      have M0 := Lib.hid m0
      have M1 := Lib.hid m1
      have M2 := Lib.hid m2
      have hxl : xs.length = n * 3 := hown.1
      have HX : Hid ((((xs.set (k * 3) (.string (mark q))).set (k * 3 + 1) (.string (mark (q + 1)))).set (k * 3 + 2) (.string (mark (q + 2)))).take ((k + 1) * 3) = flat (marksT (k + 1))) := Lib.hid (by
        rw [marksT_succ, flat_snoc, ← hq]; exact set3 _ _ _ hx.out (by omega))
      clear m0 m1 m2 c1 c2
      rw [hq]
      have hqs : q ≤ 241 := by omega
      have hq3 : ((1 + 3 * (k + 1) : Nat) : Int) = (q : Int) + 1 + 1 + 1 := by omega
      clear hq
      go_wp2_with fail
      refine (M0.out _).mono ?_
      rintro e w1 ⟨rfl, hb1⟩
      have G1 := hnx.trans (grown_any (grown_of_below hb1) (some g))
      have P1 := own_keep hown hb1
      have e0 : w1.cell? ⟨g, k * 3, none⟩ = some (xs[k * 3]'(by omega)) := by rw [P1.cellAt _ (by omega), List.getElem?_eq_getElem (by omega)]
      have f0 := P1.frozenAt (k * 3)
      have P2 := (P1.stored (k * 3) (.string (mark q))).1
      have G2 := grown_set G1 (k * 3) (.string (mark q))
      generalize xs[k * 3]'(by omega) = z0 at e0
      clear hb1 hnx hown P1 G1
      go_wp2_with fail
      refine (M1.out _).mono ?_
      rintro e w2 ⟨rfl, hb2⟩
      have G3 := G2.trans (grown_any (grown_of_below hb2) (some g))
      have P3 := own_keep P2 hb2
      obtain ⟨ys, hys⟩ : ∃ ys, xs.set (k * 3) (.string (mark q)) = ys := ⟨_, rfl⟩
      rw [hys] at P3 HX
      have hyl : ys.length = n * 3 := P3.1
      have e1 : w2.cell? ⟨g, k * 3 + 1, none⟩ = some (ys[k * 3 + 1]'(by omega)) := by rw [P3.cellAt _ (by omega), List.getElem?_eq_getElem (by omega)]
      have f1 := P3.frozenAt (k * 3 + 1)
      have P4 := (P3.stored (k * 3 + 1) (.string (mark (q + 1)))).1
      have G4 := grown_set G3 (k * 3 + 1) (.string (mark (q + 1)))
      generalize ys[k * 3 + 1]'(by omega) = z1 at e1
      clear hb2 P2 P3 G2 G3 e0 f0 hys
      go_wp2_with fail
      refine (M2.out _).mono ?_
      rintro e w3 ⟨rfl, hb3⟩
      have G5 := G4.trans (grown_any (grown_of_below hb3) (some g))
      have P5 := own_keep P4 hb3
      obtain ⟨us, hus⟩ : ∃ us, ys.set (k * 3 + 1) (.string (mark (q + 1))) = us := ⟨_, rfl⟩
      rw [hus] at P5 HX
      have hul : us.length = n * 3 := P5.1
      have e2 : w3.cell? ⟨g, k * 3 + 2, none⟩ = some (us[k * 3 + 2]'(by omega)) := by rw [P5.cellAt _ (by omega), List.getElem?_eq_getElem (by omega)]
      have f2 := P5.frozenAt (k * 3 + 2)
      have P6 := (P5.stored (k * 3 + 2) (.string (mark (q + 2)))).1
      have G6 := grown_set G5 (k * 3 + 2) (.string (mark (q + 2)))
      generalize us[k * 3 + 2]'(by omega) = z2 at e2
      clear hb3 P4 P5 G4 G5 e1 f1 hus
      go_wp2_with fail
      go_roundw
      case rel => exact ⟨k + 1, by omega, by go_num, by rw [hq3], ⟨_, P6, HX⟩, G6⟩
      case measure => simp [intOf]; omega
    · obtain rfl : k = n := by omega
      have HX : Hid (xs = flat (marksT k)) := Lib.hid (by
        have := hx.out
        have hxl : xs.length = k * 3 := hown.1
        rwa [List.take_of_length_le (by rw [hxl]; omega)] at this)
      have hv : ((1 + 3 * k : Nat) : Int) = 1 + 3 * (k : Int) := by omega
      go_wp2_with fail
      go_ret
      refine ⟨by rw [← hv]; rfl, ?_, hnx⟩
      unfold OwnT
      rw [← HX.out, marksT_len]
      exact hown
end Go.Proofs.YtiajdnhmjdfeeaaGreat
/- A slice of triples of whatever length that is marked, from whatever number on. -/
namespace Go.Proofs.YtiajdnhmjdfeeaaGreat
open Go.RowKit Go.WideShapes
set_option maxRecDepth 100000 in
set_option maxHeartbeats 1600000 in
theorem markAny (B : Nat) (v : Value) (ts : List Tri3) (w : World) (h : OwnT B w v ts) (hl : ts.length ≤ 1048576) (k0 : Nat) (hk0 : 0 < k0) (hk1 : k0 ≤ 4000000) :
    Calls Tryz.prog 17 #[v, .int .i64 k0] w fun e w' => e = .returned (.int .i64 ((k0 + 3 * ts.length : Nat) : Int)) ∧ w.grownBy w' v.ownBlock := by
  obtain ⟨n, hn⟩ : ∃ n, ts.length = n := ⟨_, rfl⟩
  rw [hn] at hl ⊢
  by_cases hz : n = 0
  · subst hz
    obtain rfl : ts = [] := List.length_eq_zero_iff.1 hn
    obtain ⟨a, c, rfl⟩ : ∃ a c, v = .slice a 0 c := by
      rcases h.2 with ⟨rfl, _⟩ | ⟨g, c, cur, rfl, _⟩
      · exact ⟨_, _, rfl⟩
      · exact ⟨_, _, rfl⟩
    clear h hn
    go_enter Tryz.func17, Tryz.ntmps17
    go_wp2_with fail
    refine wp_loop_rounds 1 ?_
    rw [rounds_succ]
    go_wp2_with fail
    go_ret
    exact ⟨rfl, World.grownBy.refl _ _⟩
  unfold OwnT at h
  rw [hn] at h
  obtain ⟨g, c, rfl⟩ : ∃ g c, v = .slice (some ⟨g, 0, none⟩) n c := by
    rcases h.2 with ⟨_, e⟩ | ⟨g, c, cur, rfl, _⟩
    · exact absurd e hz
    · exact ⟨g, c, rfl⟩
  have O0 := h
  obtain ⟨xs0, hxs⟩ : ∃ xs, flat ts = xs := ⟨_, rfl⟩
  rw [hxs] at O0
  clear h hxs hn
  go_enter Tryz.func17, Tryz.ntmps17
  go_wp2_with fail
  go_loopw [1, 5] (fun q i wr => ∃ k : Nat, k ≤ n ∧ i = .int .i64 k ∧ q = .int .i64 ((k0 + 3 * k : Nat) : Int) ∧ (∃ xs : List Value, wr.ownsRow B 65 3 (.slice (some ⟨g, 0, none⟩) n c) n xs) ∧ w.grownBy wr (some g)) (fun _ i _ => n - (intOf i).toNat)
  case atStart => exact ⟨0, Nat.zero_le _, rfl, by rw [Nat.mul_zero, Nat.add_zero], ⟨_, O0⟩, World.grownBy.refl _ _⟩
  case round =>
    obtain ⟨k, hk, rfl, rfl, ⟨xs, hown⟩, hnx⟩ := hrel
    by_cases hlt : k < n
    · have hk6 : (0 : Int) ≤ (k : Int) := by omega
      have hk7 : (k : Int) < (n : Int) := by omega
      have m0 := markText (k0 + 3 * k) (by omega) (by omega)
      have m1 := markText (k0 + 3 * k + 1) (by omega) (by omega)
      have m2 := markText (k0 + 3 * k + 2) (by omega) (by omega)
      obtain ⟨q, hq⟩ : ∃ q : Nat, k0 + 3 * k = q := ⟨_, rfl⟩
      rw [hq] at m0 m1 m2
      have c1 : ((q + 1 : Nat) : Int) = (q : Int) + 1 := by omega
      have c2 : ((q + 2 : Nat) : Int) = (q : Int) + 1 + 1 := by omega
      rw [c1] at m1
      rw [c2] at m2
      have M0 := Lib.hid m0
      have M1 := Lib.hid m1
      have M2 := Lib.hid m2
      have hxl : xs.length = n * 3 := hown.1
      clear m0 m1 m2 c1 c2
      rw [hq]
      have hqs : q ≤ 8000000 := by omega
      have hq3 : ((k0 + 3 * (k + 1) : Nat) : Int) = (q : Int) + 1 + 1 + 1 := by omega
      have HQ3 := Lib.hid hq3
      clear hq hq3
      go_wp2_with fail
      refine (M0.out _).mono ?_
      rintro e w1 ⟨rfl, hb1⟩
      have G1 := hnx.trans (grown_any (grown_of_below hb1) (some g))
      have P1 := own_keep hown hb1
      have e0 : w1.cell? ⟨g, k * 3, none⟩ = some (xs[k * 3]'(by omega)) := by rw [P1.cellAt _ (by omega), List.getElem?_eq_getElem (by omega)]
      have f0 := P1.frozenAt (k * 3)
      have P2 := (P1.stored (k * 3) (.string (mark q))).1
      have G2 := grown_set G1 (k * 3) (.string (mark q))
      generalize xs[k * 3]'(by omega) = z0 at e0
      clear hb1 hnx hown P1 G1
      go_wp2_with fail
      refine (M1.out _).mono ?_
      rintro e w2 ⟨rfl, hb2⟩
      have G3 := G2.trans (grown_any (grown_of_below hb2) (some g))
      have P3 := own_keep P2 hb2
      obtain ⟨ys, hys⟩ : ∃ ys, xs.set (k * 3) (.string (mark q)) = ys := ⟨_, rfl⟩
      rw [hys] at P3
      have hyl : ys.length = n * 3 := P3.1
      have e1 : w2.cell? ⟨g, k * 3 + 1, none⟩ = some (ys[k * 3 + 1]'(by omega)) := by rw [P3.cellAt _ (by omega), List.getElem?_eq_getElem (by omega)]
      have f1 := P3.frozenAt (k * 3 + 1)
      have P4 := (P3.stored (k * 3 + 1) (.string (mark (q + 1)))).1
      have G4 := grown_set G3 (k * 3 + 1) (.string (mark (q + 1)))
      generalize ys[k * 3 + 1]'(by omega) = z1 at e1
      clear hb2 P2 P3 G2 G3 e0 f0 hys
      go_wp2_with fail
      refine (M2.out _).mono ?_
      rintro e w3 ⟨rfl, hb3⟩
      have G5 := G4.trans (grown_any (grown_of_below hb3) (some g))
      have P5 := own_keep P4 hb3
      obtain ⟨us, hus⟩ : ∃ us, ys.set (k * 3 + 1) (.string (mark (q + 1))) = us := ⟨_, rfl⟩
      rw [hus] at P5
      have hul : us.length = n * 3 := P5.1
      have e2 : w3.cell? ⟨g, k * 3 + 2, none⟩ = some (us[k * 3 + 2]'(by omega)) := by rw [P5.cellAt _ (by omega), List.getElem?_eq_getElem (by omega)]
      have f2 := P5.frozenAt (k * 3 + 2)
      have P6 := (P5.stored (k * 3 + 2) (.string (mark (q + 2)))).1
      have G6 := grown_set G5 (k * 3 + 2) (.string (mark (q + 2)))
      generalize us[k * 3 + 2]'(by omega) = z2 at e2
      clear hb3 P4 P5 G4 G5 e1 f1 hus
      go_wp2_with fail
      go_roundw
      case rel => exact ⟨k + 1, by omega, by go_num, by rw [HQ3.out], ⟨_, P6⟩, G6⟩
      case measure => simp [intOf]; omega
    · obtain rfl : k = n := by omega
      go_wp2_with fail
      go_ret
      exact ⟨rfl, hnx⟩
theorem dig_len : ∀ n : Nat, (dig n).length ≤ n := by
  intro n
  induction n using Nat.strongRecOn with
  | _ n ih =>
    rcases Nat.eq_zero_or_pos n with rfl | h
    · rw [dig_zero]; simp
    · rw [dig_step h, List.length_append, List.length_singleton]
      have := ih (n / 10) (by omega)
      omega
theorem marks_small (n : Nat) (hn : n ≤ 80) : ∀ t ∈ marksT n, t.1.size ≤ maxLen ∧ t.2.1.size ≤ maxLen ∧ t.2.2.size ≤ maxLen := by
  intro t ht
  unfold marksT at ht
  obtain ⟨i, hi, rfl⟩ := List.mem_map.1 ht
  have hi := List.mem_range.1 hi
  have a := dig_len (1 + 3 * i)
  have b := dig_len (1 + 3 * i + 1)
  have c := dig_len (1 + 3 * i + 2)
  unfold markT mark maxLen
  simp only [bs_size, List.length_cons]
  omega
end Go.Proofs.YtiajdnhmjdfeeaaGreat
/- A slice of triples that is marked from whatever number on, and looked at again. -/
namespace Go.Proofs.YtiajdnhmjdfeeaaGreat
open Go.RowKit Go.WideShapes
set_option maxRecDepth 100000 in
set_option maxHeartbeats 1600000 in
theorem markTextB (n : Nat) (h0 : 0 < n) (h1 : n ≤ 80000000) (w : World) :
    Calls Tryz.prog 58 #[.int .i64 n] w fun e w' => e = .returned (.string (mark n)) ∧ Below w.heap.size w w' := by
  have h2 : ¬ (n : Int) ≤ 0 := by omega
  go_enter Tryz.func58, Tryz.ntmps58
  go_wp2_with fail
  go_loopw [0, 3] (fun k o wr => ∃ (m : Nat) (O : ByteArray), k = .int .i64 m ∧ o = .string O ∧ m + O.size ≤ n ∧ Hid (dig m ++ O.data.toList = dig n) ∧ Below w.heap.size w wr) (fun k _ _ => (intOf k).toNat)
  case atStart => exact ⟨n, ⟨#[]⟩, rfl, rfl, Nat.le_refl _, Lib.hid (by simp), Below.refl _ _⟩
  case round =>
    obtain ⟨m, O, rfl, rfl, hm, hd, hnx⟩ := hrel
    by_cases g : 0 < m
    · have g2 : (0 : Int) < (m : Int) := by omega
      have hcv := run_convert_bytes_arg (P := Tryz.prog) (wr.alloc (.cells #[.int .u8 (48 + (m : Int) % 10)] 5)) 43 5 Tryz.underlying43 Tryz.underlying5 wr.heap.size 0 1 1 [48 + (m : Int) % 10] rfl (fun i hi => by
        obtain rfl : i = 0 := by omega
        simp [List.getD]) 9 Tryz.underlying9
      obtain ⟨D, hD⟩ : ∃ D, strOfNums [48 + (m : Int) % 10] = D := ⟨_, rfl⟩
      rw [hD] at hcv
      have hDl : D.data.toList = [UInt8.ofNat (48 + m % 10)] := by
        rw [← hD]
        have e : (48 + (m : Int) % 10).toNat = 48 + m % 10 := by omega
        simp [strOfNums, e]
      have hDs : D.size = 1 := by rw [← size_len, hDl]; rfl
      have hO : O.size ≤ 80000000 := by omega
      have hDO : (D ++ O).size = O.size + 1 := by rw [ByteArray.size_append]; omega
      have HD : Hid (dig (m / 10) ++ (D ++ O).data.toList = dig n) := Lib.hid (by
        rw [← hd.out, dig_step g, ByteArray.data_append, Array.toList_append, hDl]; simp)
      have hq : ((m / 10 : Nat) : Int) = (m : Int) / 10 := by omega
      have B1 := hnx.alloc hnx.size (.cells #[.int .u8 (48 + (m : Int) % 10)] 5)
      clear hD hDl hd hnx
      go_wp2_with fail
      go_roundw
      case rel => exact ⟨m / 10, D ++ O, by rw [hq], rfl, by omega, HD, B1⟩
      case measure => simp [intOf]; omega
    · obtain rfl : m = 0 := by omega
      have HR : Hid ({ data := #[109] } ++ O = mark n) := Lib.hid (by have := hd.out; rw [dig_zero, List.nil_append] at this; rw [mark_text, this]; rfl)
      have hO : O.size ≤ 80000000 := by omega
      go_wp2_with fail
      go_ret
      exact ⟨by rw [← HR.out]; rfl, hnx⟩
def markK (k0 i : Nat) : Tri3 := (mark (k0 + 3 * i), mark (k0 + 3 * i + 1), mark (k0 + 3 * i + 2))
def marksK (k0 n : Nat) : List Tri3 := (List.range n).map (markK k0)
theorem marksK_succ (k0 n : Nat) : marksK k0 (n + 1) = marksK k0 n ++ [markK k0 n] := by unfold marksK; rw [List.range_succ, List.map_append]; rfl
theorem marksK_len (k0 n : Nat) : (marksK k0 n).length = n := by simp [marksK]
theorem marksK_at {k0 n i : Nat} (h : i < n) : (marksK k0 n)[i]? = some (markK k0 i) := by unfold marksK; rw [List.getElem?_map, List.getElem?_range h]; rfl
theorem marksK_small (k0 n : Nat) (hn : n ≤ 1048576) (hk : k0 ≤ 40000000) : ∀ t ∈ marksK k0 n, t.1.size ≤ maxLen ∧ t.2.1.size ≤ maxLen ∧ t.2.2.size ≤ maxLen := by
  intro t ht
  unfold marksK at ht
  obtain ⟨i, hi, rfl⟩ := List.mem_map.1 ht
  have hi := List.mem_range.1 hi
  have a := dig_len (k0 + 3 * i)
  have b := dig_len (k0 + 3 * i + 1)
  have c := dig_len (k0 + 3 * i + 2)
  unfold markK mark maxLen
  simp only [bs_size, List.length_cons]
  omega
set_option maxRecDepth 100000 in
set_option maxHeartbeats 1600000 in
theorem markTriK (B : Nat) (v : Value) (ts : List Tri3) (w : World) (h : OwnT B w v ts) (hl : ts.length ≤ 1048576) (k0 : Nat) (hk0 : 0 < k0) (hk1 : k0 ≤ 40000000) :
    Calls Tryz.prog 17 #[v, .int .i64 k0] w fun e w' => e = .returned (.int .i64 ((k0 + 3 * ts.length : Nat) : Int)) ∧ OwnT B w' v (marksK k0 ts.length) ∧ w.grownBy w' v.ownBlock := by
  obtain ⟨n, hn⟩ : ∃ n, ts.length = n := ⟨_, rfl⟩
  have h0 := h
  rw [hn] at hl ⊢
  by_cases hz : n = 0
  · subst hz
    obtain rfl : ts = [] := List.length_eq_zero_iff.1 hn
    obtain ⟨a, c, rfl⟩ : ∃ a c, v = .slice a 0 c := by
      rcases h.2 with ⟨rfl, _⟩ | ⟨g, c, cur, rfl, _⟩
      · exact ⟨_, _, rfl⟩
      · exact ⟨_, _, rfl⟩
    have H0 := Lib.hid h0
    clear h hn h0
    go_enter Tryz.func17, Tryz.ntmps17
    go_wp2_with fail
    refine wp_loop_rounds 1 ?_
    rw [rounds_succ]
    go_wp2_with fail
    go_ret
    exact ⟨rfl, H0.out, World.grownBy.refl _ _⟩
  unfold OwnT at h
  rw [hn] at h
  obtain ⟨g, c, rfl⟩ : ∃ g c, v = .slice (some ⟨g, 0, none⟩) n c := by
    rcases h.2 with ⟨_, e⟩ | ⟨g, c, cur, rfl, _⟩
    · exact absurd e hz
    · exact ⟨g, c, rfl⟩
  have O0 := h
  obtain ⟨xs0, hxs⟩ : ∃ xs, flat ts = xs := ⟨_, rfl⟩
  rw [hxs] at O0
  clear h hxs hn h0
  go_enter Tryz.func17, Tryz.ntmps17
  go_wp2_with fail
  go_loopw [1, 5] (fun q i wr => ∃ k : Nat, k ≤ n ∧ i = .int .i64 k ∧ q = .int .i64 ((k0 + 3 * k : Nat) : Int) ∧ (∃ xs : List Value, wr.ownsRow B 65 3 (.slice (some ⟨g, 0, none⟩) n c) n xs ∧ Hid (xs.take (k * 3) = flat (marksK k0 k))) ∧ w.grownBy wr (some g)) (fun _ i _ => n - (intOf i).toNat)
  case atStart => exact ⟨0, Nat.zero_le _, rfl, by rw [Nat.mul_zero, Nat.add_zero], ⟨_, O0, Lib.hid (by simp [flat, marksK])⟩, World.grownBy.refl _ _⟩
  case round =>
    obtain ⟨k, hk, rfl, rfl, ⟨xs, hown, hx⟩, hnx⟩ := hrel
    by_cases hlt : k < n
    · have hk6 : (0 : Int) ≤ (k : Int) := by omega
      have hk7 : (k : Int) < (n : Int) := by omega
      have m0 := markTextB (k0 + 3 * k) (by omega) (by omega)
      have m1 := markTextB (k0 + 3 * k + 1) (by omega) (by omega)
      have m2 := markTextB (k0 + 3 * k + 2) (by omega) (by omega)
      obtain ⟨q, hq⟩ : ∃ q : Nat, k0 + 3 * k = q := ⟨_, rfl⟩
      rw [hq] at m0 m1 m2
      have c1 : ((q + 1 : Nat) : Int) = (q : Int) + 1 := by omega
      have c2 : ((q + 2 : Nat) : Int) = (q : Int) + 1 + 1 := by omega
      rw [c1] at m1
      rw [c2] at m2
      have M0 := Lib.hid m0
      have M1 := Lib.hid m1
      have M2 := Lib.hid m2
      have hxl : xs.length = n * 3 := hown.1
      have HX : Hid ((((xs.set (k * 3) (.string (mark q))).set (k * 3 + 1) (.string (mark (q + 1)))).set (k * 3 + 2) (.string (mark (q + 2)))).take ((k + 1) * 3) = flat (marksK k0 (k + 1))) := Lib.hid (by
        rw [marksK_succ, flat_snoc, ← hq]; exact set3 _ _ _ hx.out (by omega))
      clear m0 m1 m2 c1 c2
      rw [hq]
      have hqs : q ≤ 80000000 := by omega
      have hq3 : ((k0 + 3 * (k + 1) : Nat) : Int) = (q : Int) + 1 + 1 + 1 := by omega
      have HQ3 := Lib.hid hq3
      clear hq hq3
      go_wp2_with fail
      refine (M0.out _).mono ?_
      rintro e w1 ⟨rfl, hb1⟩
      have G1 := hnx.trans (grown_any (grown_of_below hb1) (some g))
      have P1 := own_keep hown hb1
      have e0 : w1.cell? ⟨g, k * 3, none⟩ = some (xs[k * 3]'(by omega)) := by rw [P1.cellAt _ (by omega), List.getElem?_eq_getElem (by omega)]
      have f0 := P1.frozenAt (k * 3)
      have P2 := (P1.stored (k * 3) (.string (mark q))).1
      have G2 := grown_set G1 (k * 3) (.string (mark q))
      generalize xs[k * 3]'(by omega) = z0 at e0
      clear hb1 hnx hown P1 G1
      go_wp2_with fail
      refine (M1.out _).mono ?_
      rintro e w2 ⟨rfl, hb2⟩
      have G3 := G2.trans (grown_any (grown_of_below hb2) (some g))
      have P3 := own_keep P2 hb2
      obtain ⟨ys, hys⟩ : ∃ ys, xs.set (k * 3) (.string (mark q)) = ys := ⟨_, rfl⟩
      rw [hys] at P3 HX
      have hyl : ys.length = n * 3 := P3.1
      have e1 : w2.cell? ⟨g, k * 3 + 1, none⟩ = some (ys[k * 3 + 1]'(by omega)) := by rw [P3.cellAt _ (by omega), List.getElem?_eq_getElem (by omega)]
      have f1 := P3.frozenAt (k * 3 + 1)
      have P4 := (P3.stored (k * 3 + 1) (.string (mark (q + 1)))).1
      have G4 := grown_set G3 (k * 3 + 1) (.string (mark (q + 1)))
      generalize ys[k * 3 + 1]'(by omega) = z1 at e1
      clear hb2 P2 P3 G2 G3 e0 f0 hys
      go_wp2_with fail
      refine (M2.out _).mono ?_
      rintro e w3 ⟨rfl, hb3⟩
      have G5 := G4.trans (grown_any (grown_of_below hb3) (some g))
      have P5 := own_keep P4 hb3
      obtain ⟨us, hus⟩ : ∃ us, ys.set (k * 3 + 1) (.string (mark (q + 1))) = us := ⟨_, rfl⟩
      rw [hus] at P5 HX
      have hul : us.length = n * 3 := P5.1
      have e2 : w3.cell? ⟨g, k * 3 + 2, none⟩ = some (us[k * 3 + 2]'(by omega)) := by rw [P5.cellAt _ (by omega), List.getElem?_eq_getElem (by omega)]
      have f2 := P5.frozenAt (k * 3 + 2)
      have P6 := (P5.stored (k * 3 + 2) (.string (mark (q + 2)))).1
      have G6 := grown_set G5 (k * 3 + 2) (.string (mark (q + 2)))
      generalize us[k * 3 + 2]'(by omega) = z2 at e2
      clear hb3 P4 P5 G4 G5 e1 f1 hus
      go_wp2_with fail
      go_roundw
      case rel => exact ⟨k + 1, by omega, by go_num, by rw [HQ3.out], ⟨_, P6, HX⟩, G6⟩
      case measure => simp [intOf]; omega
    · obtain rfl : k = n := by omega
      have HX : Hid (xs = flat (marksK k0 k)) := Lib.hid (by
        have := hx.out
        have hxl : xs.length = k * 3 := hown.1
        rwa [List.take_of_length_le (by rw [hxl]; omega)] at this)
      go_wp2_with fail
      go_ret
      refine ⟨rfl, ?_, hnx⟩
      unfold OwnT
      rw [← HX.out, marksK_len]
      exact hown
set_option maxRecDepth 100000 in
set_option maxHeartbeats 1600000 in
theorem heldTriK (a : Option Addr) (n cap : Nat) (w : World) (k0 : Nat) (h : IsTris w a n cap (marksK k0 n)) (hl : n ≤ 1048576) (hk0 : 0 < k0) (hk1 : k0 ≤ 40000000) :
    Calls Tryz.prog 38 #[.slice a n cap, .int .i64 k0] w fun e w' => e = .returned (.int .i64 ((k0 + 3 * n : Nat) : Int)) ∧ Below w.heap.size w w' := by
  have H := Lib.hid h
  clear h
  go_enter Tryz.func38, Tryz.ntmps38
  go_wp2_with fail
  go_loopw [1, 5] (fun q i wr => ∃ k : Nat, k ≤ n ∧ i = .int .i64 k ∧ q = .int .i64 ((k0 + 3 * k : Nat) : Int) ∧ Below w.heap.size w wr) (fun _ i _ => n - (intOf i).toNat)
  case atStart => exact ⟨0, Nat.zero_le _, rfl, by rw [Nat.mul_zero, Nat.add_zero], Below.refl _ _⟩
  case round =>
    obtain ⟨k, hk, rfl, rfl, hnx⟩ := hrel
    by_cases hlt : k < n
    · obtain ⟨b, off, rfl, hb, _, _, _, hc⟩ := H.out.cells (by omega)
      obtain ⟨c0, c1, c2, _, _, _⟩ := hc k _ (marksK_at hlt)
      have hk6 : (0 : Int) ≤ (k : Int) := by omega
      have hk7 : (k : Int) < (n : Int) := by omega
      have l0 : b < wr.heap.size := Nat.lt_of_lt_of_le hb hnx.size
      have m0 := markTextB (k0 + 3 * k) (by omega) (by omega)
      have m1 := markTextB (k0 + 3 * k + 1) (by omega) (by omega)
      have m2 := markTextB (k0 + 3 * k + 2) (by omega) (by omega)
      unfold markK at c0 c1 c2
      simp only at c0 c1 c2
      obtain ⟨q, hq⟩ : ∃ q : Nat, k0 + 3 * k = q := ⟨_, rfl⟩
      rw [hq] at m0 m1 m2 c0 c1 c2
      have d1 : ((q + 1 : Nat) : Int) = (q : Int) + 1 := by omega
      have d2 : ((q + 2 : Nat) : Int) = (q : Int) + 1 + 1 := by omega
      rw [d1] at m1
      rw [d2] at m2
      have M0 := Lib.hid m0
      have M1 := Lib.hid m1
      have M2 := Lib.hid m2
      rw [hq]
      have hqs : q ≤ 80000000 := by omega
      have HQ3 : Hid (((k0 + 3 * (k + 1) : Nat) : Int) = (q : Int) + 1 + 1 + 1) := Lib.hid (by omega)
      generalize mark q = t0 at *
      generalize mark (q + 1) = t1 at *
      generalize mark (q + 2) = t2 at *
      clear hq m0 m1 m2 d1 d2 hc
      go_wp2_with fail
      have KK := c0
      rw [← hnx.cell (p := ⟨b, _, none⟩) hb] at KK
      have LL : b < wr.heap.size := Nat.lt_of_lt_of_le hb hnx.size
      go_region_held3 (fun w' => w'.cell? ⟨b, off + k * 3, none⟩ = some (.string t0))
        (first | go_keep | (rw [ha0.cell (by first | (simp; done) | exact World.block_lt_of_cell? _ _ (by assumption))]; assumption))
        (first | (go_at_call 58; refine (M0.out _).mono ?_; rintro e wa0 ⟨rfl, ha0⟩))
      have B0 : Below w.heap.size w wa0 := (Below.drew hnx).trans (ha0.mono hnx.size)
      clear ha0 KK LL hnx
      go_wp2_with fail
      have KK := c1
      rw [← B0.cell (p := ⟨b, _, none⟩) hb] at KK
      have LL : b < wa0.heap.size := Nat.lt_of_lt_of_le hb B0.size
      go_region_held3 (fun w' => w'.cell? ⟨b, off + k * 3 + 1, none⟩ = some (.string t1))
        (first | go_keep | (rw [ha1.cell (by first | (simp; done) | exact World.block_lt_of_cell? _ _ (by assumption))]; assumption))
        (first | (go_at_call 58; refine (M1.out _).mono ?_; rintro e wa1 ⟨rfl, ha1⟩))
      have B1 : Below w.heap.size w wa1 := (Below.drew B0).trans (ha1.mono B0.size)
      clear ha1 KK LL B0
      go_wp2_with fail
      have KK := c2
      rw [← B1.cell (p := ⟨b, _, none⟩) hb] at KK
      have LL : b < wa1.heap.size := Nat.lt_of_lt_of_le hb B1.size
      go_region_held3 (fun w' => w'.cell? ⟨b, off + k * 3 + 2, none⟩ = some (.string t2))
        (first | go_keep | (rw [ha2.cell (by first | (simp; done) | exact World.block_lt_of_cell? _ _ (by assumption))]; assumption))
        (first | (go_at_call 58; refine (M2.out _).mono ?_; rintro e wa2 ⟨rfl, ha2⟩))
      have B2 : Below w.heap.size w wa2 := (Below.drew B1).trans (ha2.mono B1.size)
      clear ha2 KK LL B1
      go_wp2_with fail
      go_roundw
      case rel => exact ⟨k + 1, by omega, by go_num, by rw [HQ3.out], B2⟩
      case measure => simp [intOf]; omega
    · obtain rfl : k = n := by omega
      go_wp2_with fail
      go_ret
      exact ⟨rfl, hnx⟩
end Go.Proofs.YtiajdnhmjdfeeaaGreat
