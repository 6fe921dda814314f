/- Pairs that are marked, from whatever number on, and their second look. -/
import Derived.Test.YtbhlenjcahonnaaGreatJExactSolutions25
import Derived.Test.YtbhlenjcahonnaaGreatJExactSolutions26
import Derived.Deep.RegionHeld3
namespace Go.Proofs.YtbhlenjcahonnaaGreat
open Go.RowKit Go.WideShapes
theorem own_keepP2 {B e g n c : Nat} {w w' : World} {xs : List Value} (h : w.ownsRow B e 2 (.slice (some ⟨g, 0, none⟩) n c) n xs) (hb : Below w.heap.size w w') : w'.ownsRow B e 2 (.slice (some ⟨g, 0, none⟩) n c) n xs := h.kept (grown_of_below hb) (.inr (by simp [Value.ownBlock]))
def markPK (k0 i : Nat) : Pre2 := (mark (k0 + 2 * i), mark (k0 + 2 * i + 1))
def marksPK (k0 n : Nat) : List Pre2 := (List.range n).map (markPK k0)
theorem marksPK_succ (k0 n : Nat) : marksPK k0 (n + 1) = marksPK k0 n ++ [markPK k0 n] := by unfold marksPK; rw [List.range_succ, List.map_append]; rfl
theorem marksPK_len (k0 n : Nat) : (marksPK k0 n).length = n := by simp [marksPK]
theorem marksPK_at {k0 n i : Nat} (h : i < n) : (marksPK k0 n)[i]? = some (markPK k0 i) := by unfold marksPK; rw [List.getElem?_map, List.getElem?_range h]; rfl
theorem marksPK_small (k0 n : Nat) (hn : n ≤ 1048576) (hk : k0 ≤ 40000000) : ∀ t ∈ marksPK k0 n, t.1.size ≤ maxLen ∧ t.2.size ≤ maxLen := by
  intro t ht
  unfold marksPK at ht
  obtain ⟨i, hi, rfl⟩ := List.mem_map.1 ht
  have hi := List.mem_range.1 hi
  have a := dig_len (k0 + 2 * i)
  have b := dig_len (k0 + 2 * i + 1)
  unfold markPK mark maxLen
  simp only [bs_size, List.length_cons]
  omega
set_option maxRecDepth 100000 in
set_option maxHeartbeats 1600000 in
theorem markPairK (B : Nat) (v : Value) (ts : List Pre2) (w : World) (h : OwnP B w v ts) (hl : ts.length ≤ 1048576) (k0 : Nat) (hk0 : 0 < k0) (hk1 : k0 ≤ 40000000) :
    Calls Tryz.prog 56 #[v, .int .i64 k0] w fun e w' => e = .returned (.int .i64 ((k0 + 2 * ts.length : Nat) : Int)) ∧ OwnP B w' v (marksPK k0 ts.length) ∧ w.grownBy w' v.ownBlock := by
  obtain ⟨n, hn⟩ : ∃ n, ts.length = n := ⟨_, rfl⟩
  have h0 := h
  rw [hn] at hl ⊢
  by_cases hz : n = 0
  · subst hz
    obtain rfl : ts = [] := List.length_eq_zero_iff.1 hn
    obtain ⟨a, c, rfl⟩ : ∃ a c, v = .slice a 0 c := by
      rcases h.2 with ⟨rfl, _⟩ | ⟨g, c, cur, rfl, _⟩
      · exact ⟨_, _, rfl⟩
      · exact ⟨_, _, rfl⟩
    have H0 := Lib.hid h0
    clear h hn h0
    go_enter Tryz.func56, Tryz.ntmps56
    go_wp2_with fail
    refine wp_loop_rounds 1 ?_
    rw [rounds_succ]
    go_wp2_with fail
    go_ret
    exact ⟨rfl, H0.out, World.grownBy.refl _ _⟩
  unfold OwnP at h
  rw [hn] at h
  obtain ⟨g, c, rfl⟩ : ∃ g c, v = .slice (some ⟨g, 0, none⟩) n c := by
    rcases h.2 with ⟨_, e⟩ | ⟨g, c, cur, rfl, _⟩
    · exact absurd e hz
    · exact ⟨g, c, rfl⟩
  have O0 := h
  obtain ⟨xs0, hxs⟩ : ∃ xs, flatP ts = xs := ⟨_, rfl⟩
  rw [hxs] at O0
  clear h hxs hn h0
  go_enter Tryz.func56, Tryz.ntmps56
  go_wp2_with fail
  go_loopw [1, 5] (fun q i wr => ∃ k : Nat, k ≤ n ∧ i = .int .i64 k ∧ q = .int .i64 ((k0 + 2 * k : Nat) : Int) ∧ (∃ xs : List Value, wr.ownsRow B 34 2 (.slice (some ⟨g, 0, none⟩) n c) n xs ∧ Hid (xs.take (k * 2) = flatP (marksPK k0 k))) ∧ w.grownBy wr (some g)) (fun _ i _ => n - (intOf i).toNat)
  case atStart => exact ⟨0, Nat.zero_le _, rfl, by rw [Nat.mul_zero, Nat.add_zero], ⟨_, O0, Lib.hid (by simp [flatP, marksPK])⟩, World.grownBy.refl _ _⟩
  case round =>
    obtain ⟨k, hk, rfl, rfl, ⟨xs, hown, hx⟩, hnx⟩ := hrel
    by_cases hlt : k < n
    · have hk6 : (0 : Int) ≤ (k : Int) := by omega
      have hk7 : (k : Int) < (n : Int) := by omega
      have m0 := markTextB (k0 + 2 * k) (by omega) (by omega)
      have m1 := markTextB (k0 + 2 * k + 1) (by omega) (by omega)
      obtain ⟨q, hq⟩ : ∃ q : Nat, k0 + 2 * k = q := ⟨_, rfl⟩
      rw [hq] at m0 m1
      have c1 : ((q + 1 : Nat) : Int) = (q : Int) + 1 := by omega
      rw [c1] at m1
      have M0 := Lib.hid m0
      have M1 := Lib.hid m1
      have hxl : xs.length = n * 2 := hown.1
      have HX : Hid (((xs.set (k * 2) (.string (mark q))).set (k * 2 + 1) (.string (mark (q + 1)))).take ((k + 1) * 2) = flatP (marksPK k0 (k + 1))) := Lib.hid (by
        rw [marksPK_succ, flatP_snoc, ← hq]; exact set2 _ _ hx.out (by omega))
      clear m0 m1 c1
      rw [hq]
      have hqs : q ≤ 80000000 := by omega
      have hq3 : ((k0 + 2 * (k + 1) : Nat) : Int) = (q : Int) + 1 + 1 := by omega
      have HQ3 := Lib.hid hq3
      clear hq hq3
      go_wp2_with fail
      refine (M0.out _).mono ?_
      rintro e w1 ⟨rfl, hb1⟩
      have G1 := hnx.trans (grown_any (grown_of_below hb1) (some g))
      have P1 := own_keepP2 hown hb1
      have e0 : w1.cell? ⟨g, k * 2, none⟩ = some (xs[k * 2]'(by omega)) := by rw [P1.cellAt _ (by omega), List.getElem?_eq_getElem (by omega)]
      have f0 := P1.frozenAt (k * 2)
      have P2 := (P1.stored (k * 2) (.string (mark q))).1
      have G2 := grown_set G1 (k * 2) (.string (mark q))
      generalize xs[k * 2]'(by omega) = z0 at e0
      clear hb1 hnx hown P1 G1
      go_wp2_with fail
      refine (M1.out _).mono ?_
      rintro e w2 ⟨rfl, hb2⟩
      have G3 := G2.trans (grown_any (grown_of_below hb2) (some g))
      have P3 := own_keepP2 P2 hb2
      obtain ⟨ys, hys⟩ : ∃ ys, xs.set (k * 2) (.string (mark q)) = ys := ⟨_, rfl⟩
      rw [hys] at P3 HX
      have hyl : ys.length = n * 2 := P3.1
      have e1 : w2.cell? ⟨g, k * 2 + 1, none⟩ = some (ys[k * 2 + 1]'(by omega)) := by rw [P3.cellAt _ (by omega), List.getElem?_eq_getElem (by omega)]
      have f1 := P3.frozenAt (k * 2 + 1)
      have P4 := (P3.stored (k * 2 + 1) (.string (mark (q + 1)))).1
      have G4 := grown_set G3 (k * 2 + 1) (.string (mark (q + 1)))
      generalize ys[k * 2 + 1]'(by omega) = z1 at e1
      clear hb2 P2 P3 G2 G3 e0 f0 hys
      go_wp2_with fail
      go_roundw
      case rel => exact ⟨k + 1, by omega, by go_num, by rw [HQ3.out], ⟨_, P4, HX⟩, G4⟩
      case measure => simp [intOf]; omega
    · obtain rfl : k = n := by omega
      have HX : Hid (xs = flatP (marksPK k0 k)) := Lib.hid (by
        have := hx.out
        have hxl : xs.length = k * 2 := hown.1
        rwa [List.take_of_length_le (by rw [hxl]; omega)] at this)
      go_wp2_with fail
      go_ret
      refine ⟨rfl, ?_, hnx⟩
      unfold OwnP
      rw [← HX.out, marksPK_len]
      exact hown
set_option maxRecDepth 100000 in
set_option maxHeartbeats 1600000 in
theorem heldPairK (a : Option Addr) (n cap : Nat) (w : World) (k0 : Nat) (h : IsPres w a n cap (marksPK k0 n)) (hl : n ≤ 1048576) (hk0 : 0 < k0) (hk1 : k0 ≤ 40000000) :
    Calls Tryz.prog 57 #[.slice a n cap, .int .i64 k0] w fun e w' => e = .returned (.int .i64 ((k0 + 2 * n : Nat) : Int)) ∧ Below w.heap.size w w' := by
  have H := Lib.hid h
  clear h
  go_enter Tryz.func57, Tryz.ntmps57
  go_wp2_with fail
  go_loopw [1, 5] (fun q i wr => ∃ k : Nat, k ≤ n ∧ i = .int .i64 k ∧ q = .int .i64 ((k0 + 2 * k : Nat) : Int) ∧ Below w.heap.size w wr) (fun _ i _ => n - (intOf i).toNat)
  case atStart => exact ⟨0, Nat.zero_le _, rfl, by rw [Nat.mul_zero, Nat.add_zero], Below.refl _ _⟩
  case round =>
    obtain ⟨k, hk, rfl, rfl, hnx⟩ := hrel
    by_cases hlt : k < n
    · obtain ⟨b, off, rfl, hb, _, _, _, hc⟩ := H.out.cells (by omega)
      obtain ⟨c0, c1, _, _⟩ := hc k _ (marksPK_at hlt)
      have hk6 : (0 : Int) ≤ (k : Int) := by omega
      have hk7 : (k : Int) < (n : Int) := by omega
      have l0 : b < wr.heap.size := Nat.lt_of_lt_of_le hb hnx.size
      have m0 := markTextB (k0 + 2 * k) (by omega) (by omega)
      have m1 := markTextB (k0 + 2 * k + 1) (by omega) (by omega)
      unfold markPK at c0 c1
      simp only at c0 c1
      obtain ⟨q, hq⟩ : ∃ q : Nat, k0 + 2 * k = q := ⟨_, rfl⟩
      rw [hq] at m0 m1 c0 c1
      have d1 : ((q + 1 : Nat) : Int) = (q : Int) + 1 := by omega
      rw [d1] at m1
      have M0 := Lib.hid m0
      have M1 := Lib.hid m1
      rw [hq]
      have hqs : q ≤ 80000000 := by omega
      have HQ3 : Hid (((k0 + 2 * (k + 1) : Nat) : Int) = (q : Int) + 1 + 1) := Lib.hid (by omega)
      generalize mark q = t0 at *
      generalize mark (q + 1) = t1 at *
      clear hq m0 m1 d1 hc
      go_wp2_with fail
      have KK := c0
      rw [← hnx.cell (p := ⟨b, _, none⟩) hb] at KK
      have LL : b < wr.heap.size := Nat.lt_of_lt_of_le hb hnx.size
      go_region_held3 (fun w' => w'.cell? ⟨b, off + k * 2, none⟩ = some (.string t0))
        (first | go_keep | (rw [ha0.cell (by first | (simp; done) | exact World.block_lt_of_cell? _ _ (by assumption))]; assumption))
        (first | (go_at_call 55; refine (M0.out _).mono ?_; rintro e wa0 ⟨rfl, ha0⟩))
      have B0 : Below w.heap.size w wa0 := (Below.drew hnx).trans (ha0.mono hnx.size)
      clear ha0 KK LL hnx
      go_wp2_with fail
      have KK := c1
      rw [← B0.cell (p := ⟨b, _, none⟩) hb] at KK
      have LL : b < wa0.heap.size := Nat.lt_of_lt_of_le hb B0.size
      go_region_held3 (fun w' => w'.cell? ⟨b, off + k * 2 + 1, none⟩ = some (.string t1))
        (first | go_keep | (rw [ha1.cell (by first | (simp; done) | exact World.block_lt_of_cell? _ _ (by assumption))]; assumption))
        (first | (go_at_call 55; refine (M1.out _).mono ?_; rintro e wa1 ⟨rfl, ha1⟩))
      have B1 : Below w.heap.size w wa1 := (Below.drew B0).trans (ha1.mono B0.size)
      clear ha1 KK LL B0
      go_wp2_with fail
      go_roundw
      case rel => exact ⟨k + 1, by omega, by go_num, by rw [HQ3.out], B1⟩
      case measure => simp [intOf]; omega
    · obtain rfl : k = n := by omega
      go_wp2_with fail
      go_ret
      exact ⟨rfl, hnx⟩
end Go.Proofs.YtbhlenjcahonnaaGreat
/- The exact laws' own copy of a slice of rows, what it owns, and texts copied. -/
namespace Go.Proofs.YtbhlenjcahonnaaGreat
open Go.RowKit Go.WideShapes
theorem infoRow : (Tryz.prog.info? 31).map (fun i => (i.zero, i.size, i.bytes)) = some (some (.slice none 0 0), 1, 24) := by kernel_rfl
theorem ownP_kept {B : Nat} {w w' : World} {v : Value} {ts : RowV} (h : OwnP B w v ts) (hb : Below w.heap.size w w') : OwnP B w' v ts := World.ownsRow.kept h (grown_of_below hb) (by
  rcases hv : v.ownBlock with _ | i
  · exact .inl rfl
  · exact .inr (by simp))
theorem ownP_base {B C : Nat} {w : World} {v : Value} {ts : RowV} (h : OwnP B w v ts) (hc : C ≤ B) : OwnP C w v ts := by
  obtain ⟨h1, h2⟩ := h
  refine ⟨h1, ?_⟩
  rcases h2 with h2 | ⟨g, cap, cur, e, hB, r⟩
  · exact .inl h2
  · exact .inr ⟨g, cap, cur, e, Nat.le_trans hc hB, r⟩
theorem ownP_set {B : Nat} {w : World} {v : Value} {ts : RowV} (h : OwnP B w v ts) {g : Nat} (hg : g < B) (j : Nat) (u : Value) : OwnP B (w.setCell ⟨g, j, none⟩ u) v ts := by
  refine World.ownsRow.kept h (row := some g) ⟨rfl, rfl, rfl, by simp [World.setCell], fun k _ hne => Below.heap_setCell _ _ _ _ (fun e => hne (by rw [e]))⟩ ?_
  rcases hv : v.ownBlock with _ | q
  · exact .inl rfl
  · exact .inr (fun e => by cases e; have := (World.ownsRow.lt h g hv).1; omega)
theorem setR {xs l : List Value} {k : Nat} (a : Value) (h : xs.take k = l) (hl : k < xs.length) : (xs.set k a).take (k + 1) = l ++ [a] := by
  subst h
  rw [List.take_add_one, List.take_set_of_le (Nat.le_refl _), List.getElem?_set_self hl]; rfl
/-- Rows, each in a block of its own, from B on. -/
def InnR (B : Nat) (w : World) (rs : List RowV) (us : List Value) : Prop :=
  us.length = rs.length ∧ (∀ (i : Nat) (u : Value) (r : RowV), us[i]? = some u → rs[i]? = some r → OwnP B w u r) ∧ us.Pairwise (fun u v => ∀ j, u.ownBlock = some j → v.ownBlock ≠ some j)
theorem InnR.nil (B : Nat) (w : World) : InnR B w [] [] := ⟨rfl, fun i u t h => by simp at h, .nil⟩
theorem InnR.next {B : Nat} {w w' : World} {rs : List RowV} {us : List Value} (h : InnR B w rs us) (hb : Below w.heap.size w w') : InnR B w' rs us := ⟨h.1, fun i u t hu ht => ownP_kept (h.2.1 i u t hu ht) hb, h.2.2⟩
theorem InnR.set {B : Nat} {w : World} {rs : List RowV} {us : List Value} (h : InnR B w rs us) {g : Nat} (hg : g < B) (j : Nat) (q : Value) : InnR B (w.setCell ⟨g, j, none⟩ q) rs us := ⟨h.1, fun i u t hu ht => ownP_set (h.2.1 i u t hu ht) hg j q, h.2.2⟩
theorem InnR.snoc {B : Nat} {w : World} {C : Nat} {rs : List RowV} {us : List Value} {r : RowV} {u : Value} (h : InnR B w rs us) (hl : ∀ v ∈ us, ∀ j, v.ownBlock = some j → j < C) (hBC : B ≤ C) (ho : OwnP C w u r) : InnR B w (rs ++ [r]) (us ++ [u]) := by
  obtain ⟨h1, h2, h3⟩ := h
  refine ⟨by simp [h1], fun i v s hv hs => ?_, List.pairwise_append.2 ⟨h3, List.pairwise_singleton _ _, fun v hv v' hv' j hj e => ?_⟩⟩
  · rcases Nat.lt_or_ge i us.length with g | g
    · rw [List.getElem?_append_left g] at hv
      rw [List.getElem?_append_left (by omega)] at hs
      exact h2 i v s hv hs
    · have hi : i = us.length := by
        have := (List.getElem?_eq_some_iff.1 hv).1
        simp at this; omega
      subst hi
      rw [List.getElem?_append_right (Nat.le_refl _)] at hv
      rw [h1, List.getElem?_append_right (Nat.le_refl _)] at hs
      simp at hv hs
      subst hv hs
      exact ownP_base ho hBC
  · obtain rfl : v' = u := by simpa using hv'
    have := hl v hv j hj
    have := (World.ownsRow.lt ho j e).1
    omega
theorem InnR.lt {B : Nat} {w : World} {rs : List RowV} {us : List Value} (h : InnR B w rs us) : ∀ v ∈ us, ∀ j, v.ownBlock = some j → B ≤ j ∧ j < w.heap.size := by
  intro v hv j hj
  obtain ⟨i, hi⟩ := List.mem_iff_getElem?.1 hv
  have hil := (List.getElem?_eq_some_iff.1 hi).1
  have ht : rs[i]? = some (rs[i]'(by have := h.1; omega)) := List.getElem?_eq_getElem _
  exact World.ownsRow.lt (h.2.1 i v _ hi ht) j hj
/-- The call owns a slice of rows and each of these, no two in one block. -/
def OwnRs (B : Nat) (w : World) (v : Value) (rs : List RowV) : Prop := ∃ us, w.ownsRow B 31 1 v rs.length us ∧ InnR B w rs us ∧ ∀ u ∈ us, ∀ j, u.ownBlock = some j → v.ownBlock ≠ some j
theorem OwnRs.is {B : Nat} {w : World} {v : Value} {rs : List RowV} (h : OwnRs B w v rs) (hm : ∀ r ∈ rs, ∀ t ∈ r, t.1.size ≤ maxLen ∧ t.2.size ≤ maxLen) : ∃ a cap, v = .slice a rs.length cap ∧ IsRows w a rs.length cap rs := by
  obtain ⟨us, ho, hi, _⟩ := h
  have h0 := ho
  obtain ⟨_, hc⟩ := ho
  rcases hc with ⟨rfl, hl⟩ | ⟨g, cap, cur, rfl, _, _, h1, h2, _⟩
  · exact ⟨none, 0, by rw [hl], .inl ⟨rfl, hl, rfl, List.length_eq_zero_iff.1 hl⟩⟩
  · refine ⟨_, cap, rfl, .inr ⟨_, rfl, h1, h2, rfl, fun i r hr => ?_⟩⟩
    have hil : i < rs.length := (List.getElem?_eq_some_iff.1 hr).1
    have hu : us[i]? = some (us[i]'(by have := hi.1; omega)) := List.getElem?_eq_getElem _
    have oi := hi.2.1 i _ r hu hr
    obtain ⟨a', c', ev, ii⟩ := oi.is (hm r (List.mem_of_getElem? hr))
    refine ⟨a', r.length, c', ?_, ii⟩
    rw [add_plain, Nat.zero_add]
    exact (h0.cellAt i (by omega)).trans (by rw [hu, ev])
theorem OwnRs.kept {B : Nat} {w w' : World} {v : Value} {rs : List RowV} (h : OwnRs B w v rs) (hb : Below w.heap.size w w') : OwnRs B w' v rs := by
  obtain ⟨us, ho, hi, hn⟩ := h
  exact ⟨us, ho.kept (grown_of_below hb) (by
    rcases hv : v.ownBlock with _ | i
    · exact .inl rfl
    · exact .inr (by simp)), hi.next hb, hn⟩
end Go.Proofs.YtbhlenjcahonnaaGreat
