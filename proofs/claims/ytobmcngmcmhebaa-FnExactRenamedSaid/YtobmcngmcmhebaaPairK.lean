/- Pairs that are marked, from whatever number on, and their second look. -/
import Derived.Test.YtobmcngmcmhebaaExactR2
import Derived.Test.YtobmcngmcmhebaaMarkK
import Derived.Deep.RegionHeld3
import Derived.Test.YtobmcngmcmhebaaTurn
namespace Go.Proofs.Ytobmcngmcmhebaa
open Go.RowKit Go.WideShapes
theorem own_keepP2 {B e g n c : Nat} {w w' : World} {xs : List Value} (h : w.ownsRow B e 2 (.slice (some ⟨g, 0, none⟩) n c) n xs) (hb : Below w.heap.size w w') : w'.ownsRow B e 2 (.slice (some ⟨g, 0, none⟩) n c) n xs := h.kept (grown_of_below hb) (.inr (by simp [Value.ownBlock]))
def markPK (k0 i : Nat) : Pre2 := (mark (k0 + 2 * i), mark (k0 + 2 * i + 1))
def marksPK (k0 n : Nat) : List Pre2 := (List.range n).map (markPK k0)
theorem marksPK_succ (k0 n : Nat) : marksPK k0 (n + 1) = marksPK k0 n ++ [markPK k0 n] := by unfold marksPK; rw [List.range_succ, List.map_append]; rfl
theorem marksPK_len (k0 n : Nat) : (marksPK k0 n).length = n := by simp [marksPK]
theorem marksPK_at {k0 n i : Nat} (h : i < n) : (marksPK k0 n)[i]? = some (markPK k0 i) := by unfold marksPK; rw [List.getElem?_map, List.getElem?_range h]; rfl
theorem marksPK_small (k0 n : Nat) (hn : n ≤ 1048576) (hk : k0 ≤ 40000000) : ∀ t ∈ marksPK k0 n, t.1.size ≤ maxLen ∧ t.2.size ≤ maxLen := by
  intro t ht
  unfold marksPK at ht
  obtain ⟨i, hi, rfl⟩ := List.mem_map.1 ht
  have hi := List.mem_range.1 hi
  have a := dig_len (k0 + 2 * i)
  have b := dig_len (k0 + 2 * i + 1)
  unfold markPK mark maxLen
  simp only [bs_size, List.length_cons]
  omega
set_option maxRecDepth 100000 in
set_option maxHeartbeats 1600000 in
theorem markPairK (B : Nat) (v : Value) (ts : List Pre2) (w : World) (h : OwnP B w v ts) (hl : ts.length ≤ 1048576) (k0 : Nat) (hk0 : 0 < k0) (hk1 : k0 ≤ 40000000) :
    Calls Try.prog 13 #[v, .int .i64 k0] w fun e w' => e = .returned (.int .i64 ((k0 + 2 * ts.length : Nat) : Int)) ∧ OwnP B w' v (marksPK k0 ts.length) ∧ w.grownBy w' v.ownBlock := by
  obtain ⟨n, hn⟩ : ∃ n, ts.length = n := ⟨_, rfl⟩
  have h0 := h
  rw [hn] at hl ⊢
  by_cases hz : n = 0
  · subst hz
    obtain rfl : ts = [] := List.length_eq_zero_iff.1 hn
    obtain ⟨a, c, rfl⟩ : ∃ a c, v = .slice a 0 c := by
      rcases h.2 with ⟨rfl, _⟩ | ⟨g, c, cur, rfl, _⟩
      · exact ⟨_, _, rfl⟩
      · exact ⟨_, _, rfl⟩
    have H0 := Lib.hid h0
    clear h hn h0
    go_enter Try.func13, Try.ntmps13
    go_wp2_with fail
    refine wp_loop_rounds 1 ?_
    rw [rounds_succ]
    go_wp2_with fail
    go_ret
    exact ⟨rfl, H0.out, World.grownBy.refl _ _⟩
  unfold OwnP at h
  rw [hn] at h
  obtain ⟨g, c, rfl⟩ : ∃ g c, v = .slice (some ⟨g, 0, none⟩) n c := by
    rcases h.2 with ⟨_, e⟩ | ⟨g, c, cur, rfl, _⟩
    · exact absurd e hz
    · exact ⟨g, c, rfl⟩
  have O0 := h
  obtain ⟨xs0, hxs⟩ : ∃ xs, flatP ts = xs := ⟨_, rfl⟩
  rw [hxs] at O0
  clear h hxs hn h0
  go_enter Try.func13, Try.ntmps13
  go_wp2_with fail
  go_loopw [1, 5] (fun q i wr => ∃ k : Nat, k ≤ n ∧ i = .int .i64 k ∧ q = .int .i64 ((k0 + 2 * k : Nat) : Int) ∧ (∃ xs : List Value, wr.ownsRow B 45 2 (.slice (some ⟨g, 0, none⟩) n c) n xs ∧ Hid (xs.take (k * 2) = flatP (marksPK k0 k))) ∧ w.grownBy wr (some g)) (fun _ i _ => n - (intOf i).toNat)
  case atStart => exact ⟨0, Nat.zero_le _, rfl, by rw [Nat.mul_zero, Nat.add_zero], ⟨_, O0, Lib.hid (by simp [flatP, marksPK])⟩, World.grownBy.refl _ _⟩
  case round =>
    obtain ⟨k, hk, rfl, rfl, ⟨xs, hown, hx⟩, hnx⟩ := hrel
    by_cases hlt : k < n
    · have hk6 : (0 : Int) ≤ (k : Int) := by omega
      have hk7 : (k : Int) < (n : Int) := by omega
      have m0 := markTextB (k0 + 2 * k) (by omega) (by omega)
      have m1 := markTextB (k0 + 2 * k + 1) (by omega) (by omega)
      obtain ⟨q, hq⟩ : ∃ q : Nat, k0 + 2 * k = q := ⟨_, rfl⟩
      rw [hq] at m0 m1
      have c1 : ((q + 1 : Nat) : Int) = (q : Int) + 1 := by omega
      rw [c1] at m1
      have M0 := Lib.hid m0
      have M1 := Lib.hid m1
      have hxl : xs.length = n * 2 := hown.1
      have HX : Hid (((xs.set (k * 2) (.string (mark q))).set (k * 2 + 1) (.string (mark (q + 1)))).take ((k + 1) * 2) = flatP (marksPK k0 (k + 1))) := Lib.hid (by
        rw [marksPK_succ, flatP_snoc, ← hq]; exact set2 _ _ hx.out (by omega))
      clear m0 m1 c1
      rw [hq]
      have hqs : q ≤ 80000000 := by omega
      have hq3 : ((k0 + 2 * (k + 1) : Nat) : Int) = (q : Int) + 1 + 1 := by omega
      have HQ3 := Lib.hid hq3
      clear hq hq3
      go_wp2_with fail
      refine (M0.out _).mono ?_
      rintro e w1 ⟨rfl, hb1⟩
      have G1 := hnx.trans (grown_any (grown_of_below hb1) (some g))
      have P1 := own_keepP2 hown hb1
      have e0 : w1.cell? ⟨g, k * 2, none⟩ = some (xs[k * 2]'(by omega)) := by rw [P1.cellAt _ (by omega), List.getElem?_eq_getElem (by omega)]
      have f0 := P1.frozenAt (k * 2)
      have P2 := (P1.stored (k * 2) (.string (mark q))).1
      have G2 := grown_set G1 (k * 2) (.string (mark q))
      generalize xs[k * 2]'(by omega) = z0 at e0
      clear hb1 hnx hown P1 G1
      go_wp2_with fail
      refine (M1.out _).mono ?_
      rintro e w2 ⟨rfl, hb2⟩
      have G3 := G2.trans (grown_any (grown_of_below hb2) (some g))
      have P3 := own_keepP2 P2 hb2
      obtain ⟨ys, hys⟩ : ∃ ys, xs.set (k * 2) (.string (mark q)) = ys := ⟨_, rfl⟩
      rw [hys] at P3 HX
      have hyl : ys.length = n * 2 := P3.1
      have e1 : w2.cell? ⟨g, k * 2 + 1, none⟩ = some (ys[k * 2 + 1]'(by omega)) := by rw [P3.cellAt _ (by omega), List.getElem?_eq_getElem (by omega)]
      have f1 := P3.frozenAt (k * 2 + 1)
      have P4 := (P3.stored (k * 2 + 1) (.string (mark (q + 1)))).1
      have G4 := grown_set G3 (k * 2 + 1) (.string (mark (q + 1)))
      generalize ys[k * 2 + 1]'(by omega) = z1 at e1
      clear hb2 P2 P3 G2 G3 e0 f0 hys
      go_wp2_with fail
      go_roundw
      case rel => exact ⟨k + 1, by omega, by go_num, by rw [HQ3.out], ⟨_, P4, HX⟩, G4⟩
      case measure => simp [intOf]; omega
    · obtain rfl : k = n := by omega
      have HX : Hid (xs = flatP (marksPK k0 k)) := Lib.hid (by
        have := hx.out
        have hxl : xs.length = k * 2 := hown.1
        rwa [List.take_of_length_le (by rw [hxl]; omega)] at this)
      go_wp2_with fail
      go_ret
      refine ⟨rfl, ?_, hnx⟩
      unfold OwnP
      rw [← HX.out, marksPK_len]
      exact hown
open Go.RowKit Go.WideShapes
def SmAllPr (ts : List Pre2) : Prop := ∀ t ∈ ts, t.1.size ≤ maxLen ∧ t.2.size ≤ maxLen
theorem pres_most {w : World} {a : Option Addr} {len cap : Nat} {ts : List Pre2} (h : IsPres w a len cap ts) : len ≤ 9223372036854775807 := by
  rcases h with ⟨_, rfl, _, _⟩ | ⟨_, _, h1, h2, _⟩
  · omega
  · unfold maxLen at h2; omega
/-- The call owns a slice of these pairs, between B and C. -/
def OwnPC (B C : Nat) (v : Value) (ts : List Pre2) (w : World) : Prop := OwnP B w v ts ∧ ∀ j, v.ownBlock = some j → j < C
theorem ownPC_lives {B C : Nat} {v : Value} {ts : List Pre2} : Lives B C (OwnPC B C v ts) := row_lives
theorem OwnPC.turn {B C : Nat} {v : Value} {ts : List Pre2} {w w' : World} (h : OwnPC B C v ts w) (hg : w.grownBy w' v.ownBlock) : Turn B C w w' := .of_grown hg (fun j hj => ⟨(World.ownsRow.lt h.1 j hj).1, h.2 j hj⟩)
theorem OwnPC.read {B C : Nat} {w : World} {a : Option Addr} {n c : Nat} {ts : List Pre2} (h : OwnPC B C (.slice a n c) ts w) (hm : SmAllPr ts) (hl : ts.length = n) : IsPres w a n c ts := by
  subst hl
  obtain ⟨x, y, e, i⟩ := h.1.is hm
  simp only [Value.slice.injEq, true_and] at e
  obtain ⟨rfl, rfl⟩ := e
  exact i
theorem exToPr (a : Option Addr) (n c : Nat) (ts : List Pre2) (w : World) (h : IsPres w a n c ts) (hs : n ≤ 1048576) (hl : ts.length = n) :
    Calls Try.prog 8 #[.slice a n c] w fun e w' => ∃ a' c', e = .returned (.slice a' n c') ∧ Holds w.heap.size w'.heap.size w' (OwnPC w.heap.size w'.heap.size (.slice a' n c') ts) ∧ Below w.heap.size w w' :=
  (toPairS a n c ts w h hs).mono fun e w' ⟨v, he, ho, hb⟩ => by
    have H : Holds w.heap.size w'.heap.size w' (OwnPC w.heap.size w'.heap.size v ts) := ⟨ownPC_lives, Nat.le_refl _, ho, fun j hj => (World.ownsRow.lt ho j hj).2⟩
    subst hl
    rcases ho.2 with ⟨rfl, e⟩ | ⟨g, c, cur, rfl, _⟩
    · exact ⟨none, 0, by rw [he, e], by rw [e]; exact H, hb⟩
    · exact ⟨_, _, he, H, hb⟩
theorem exMarkPr {B C : Nat} {a : Option Addr} {n c : Nat} {ts : List Pre2} {w : World} (h : Holds B C w (OwnPC B C (.slice a n c) ts)) (hs : n ≤ 1048576) (hl : ts.length = n) (k0 : Nat) (hk0 : 0 < k0) (hk1 : k0 ≤ 40000000) :
    Calls Try.prog 13 #[.slice a n c, .int .i64 k0] w fun e w' => e = .returned (.int .i64 ((k0 + 2 * n : Nat) : Int)) ∧ Holds B C w' (OwnPC B C (.slice a n c) (marksPK k0 n)) ∧ Turn B C w w' := by
  subst hl
  refine (markPairK B _ ts w h.now.1 hs k0 hk0 hk1).mono fun e w' ⟨he, ho, hg⟩ => ⟨he, ⟨ownPC_lives, Nat.le_trans h.le hg.size, ho, h.now.2⟩, h.now.turn hg⟩
end Go.Proofs.Ytobmcngmcmhebaa
