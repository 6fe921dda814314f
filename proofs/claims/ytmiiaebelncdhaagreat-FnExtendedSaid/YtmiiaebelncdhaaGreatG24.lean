/- Pairs that are marked, from whatever number on, and their second look. -/
import Derived.Test.YtmiiaebelncdhaaGreatG23
import Derived.Deep.RegionHeld3
import Derived.Test.YtmiiaebelncdhaaGreatG22
namespace Go.Proofs.YtmiiaebelncdhaaGreat
open Go.RowKit Go.WideShapes
theorem own_keepP2 {B e g n c : Nat} {w w' : World} {xs : List Value} (h : w.ownsRow B e 2 (.slice (some ⟨g, 0, none⟩) n c) n xs) (hb : Below w.heap.size w w') : w'.ownsRow B e 2 (.slice (some ⟨g, 0, none⟩) n c) n xs := h.kept (grown_of_below hb) (.inr (by simp [Value.ownBlock]))
def markPK (k0 i : Nat) : Pre2 := (mark (k0 + 2 * i), mark (k0 + 2 * i + 1))
def marksPK (k0 n : Nat) : List Pre2 := (List.range n).map (markPK k0)
theorem marksPK_succ (k0 n : Nat) : marksPK k0 (n + 1) = marksPK k0 n ++ [markPK k0 n] := by unfold marksPK; rw [List.range_succ, List.map_append]; rfl
theorem marksPK_len (k0 n : Nat) : (marksPK k0 n).length = n := by simp [marksPK]
theorem marksPK_at {k0 n i : Nat} (h : i < n) : (marksPK k0 n)[i]? = some (markPK k0 i) := by unfold marksPK; rw [List.getElem?_map, List.getElem?_range h]; rfl
theorem marksPK_small (k0 n : Nat) (hn : n ≤ 1048576) (hk : k0 ≤ 40000000) : ∀ t ∈ marksPK k0 n, t.1.size ≤ maxLen ∧ t.2.size ≤ maxLen := by
  intro t ht
  unfold marksPK at ht
  obtain ⟨i, hi, rfl⟩ := List.mem_map.1 ht
  have hi := List.mem_range.1 hi
  have a := dig_len (k0 + 2 * i)
  have b := dig_len (k0 + 2 * i + 1)
  unfold markPK mark maxLen
  simp only [bs_size, List.length_cons]
  omega
set_option maxRecDepth 100000 in
set_option maxHeartbeats 1600000 in
theorem markPairK (B : Nat) (v : Value) (ts : List Pre2) (w : World) (h : OwnP B w v ts) (hl : ts.length ≤ 1048576) (k0 : Nat) (hk0 : 0 < k0) (hk1 : k0 ≤ 40000000) :
    Calls Tryz.prog 89 #[v, .int .i64 k0] w fun e w' => e = .returned (.int .i64 ((k0 + 2 * ts.length : Nat) : Int)) ∧ OwnP B w' v (marksPK k0 ts.length) ∧ w.grownBy w' v.ownBlock := by
  obtain ⟨n, hn⟩ : ∃ n, ts.length = n := ⟨_, rfl⟩
  have h0 := h
  rw [hn] at hl ⊢
  by_cases hz : n = 0
  · subst hz
    obtain rfl : ts = [] := List.length_eq_zero_iff.1 hn
    obtain ⟨a, c, rfl⟩ : ∃ a c, v = .slice a 0 c := by
      rcases h.2 with ⟨rfl, _⟩ | ⟨g, c, cur, rfl, _⟩
      · exact ⟨_, _, rfl⟩
      · exact ⟨_, _, rfl⟩
    have H0 := Lib.hid h0
    clear h hn h0
    go_enter Tryz.func89, Tryz.ntmps89
    go_wp2_with fail
    refine wp_loop_rounds 1 ?_
    rw [rounds_succ]
    go_wp2_with fail
    go_ret
    exact ⟨rfl, H0.out, World.grownBy.refl _ _⟩
  unfold OwnP at h
  rw [hn] at h
  obtain ⟨g, c, rfl⟩ : ∃ g c, v = .slice (some ⟨g, 0, none⟩) n c := by
    rcases h.2 with ⟨_, e⟩ | ⟨g, c, cur, rfl, _⟩
    · exact absurd e hz
    · exact ⟨g, c, rfl⟩
  have O0 := h
  obtain ⟨xs0, hxs⟩ : ∃ xs, flatP ts = xs := ⟨_, rfl⟩
  rw [hxs] at O0
  clear h hxs hn h0
  go_enter Tryz.func89, Tryz.ntmps89
  go_wp2_with fail
  go_loopw [1, 5] (fun q i wr => ∃ k : Nat, k ≤ n ∧ i = .int .i64 k ∧ q = .int .i64 ((k0 + 2 * k : Nat) : Int) ∧ (∃ xs : List Value, wr.ownsRow B 39 2 (.slice (some ⟨g, 0, none⟩) n c) n xs ∧ Hid (xs.take (k * 2) = flatP (marksPK k0 k))) ∧ w.grownBy wr (some g)) (fun _ i _ => n - (intOf i).toNat)
  case atStart => exact ⟨0, Nat.zero_le _, rfl, by rw [Nat.mul_zero, Nat.add_zero], ⟨_, O0, Lib.hid (by simp [flatP, marksPK])⟩, World.grownBy.refl _ _⟩
  case round =>
    obtain ⟨k, hk, rfl, rfl, ⟨xs, hown, hx⟩, hnx⟩ := hrel
    by_cases hlt : k < n
    · have hk6 : (0 : Int) ≤ (k : Int) := by omega
      have hk7 : (k : Int) < (n : Int) := by omega
      have m0 := markTextB (k0 + 2 * k) (by omega) (by omega)
      have m1 := markTextB (k0 + 2 * k + 1) (by omega) (by omega)
      obtain ⟨q, hq⟩ : ∃ q : Nat, k0 + 2 * k = q := ⟨_, rfl⟩
      rw [hq] at m0 m1
      have c1 : ((q + 1 : Nat) : Int) = (q : Int) + 1 := by omega
      rw [c1] at m1
      have M0 := Lib.hid m0
      have M1 := Lib.hid m1
      have hxl : xs.length = n * 2 := hown.1
      have HX : Hid (((xs.set (k * 2) (.string (mark q))).set (k * 2 + 1) (.string (mark (q + 1)))).take ((k + 1) * 2) = flatP (marksPK k0 (k + 1))) := Lib.hid (by
        rw [marksPK_succ, flatP_snoc, ← hq]; exact set2 _ _ hx.out (by omega))
      clear m0 m1 c1
      rw [hq]
      have hqs : q ≤ 80000000 := by omega
      have hq3 : ((k0 + 2 * (k + 1) : Nat) : Int) = (q : Int) + 1 + 1 := by omega
      have HQ3 := Lib.hid hq3
      clear hq hq3
      go_wp2_with fail
      refine (M0.out _).mono ?_
      rintro e w1 ⟨rfl, hb1⟩
      have G1 := hnx.trans (grown_any (grown_of_below hb1) (some g))
      have P1 := own_keepP2 hown hb1
      have e0 : w1.cell? ⟨g, k * 2, none⟩ = some (xs[k * 2]'(by omega)) := by rw [P1.cellAt _ (by omega), List.getElem?_eq_getElem (by omega)]
      have f0 := P1.frozenAt (k * 2)
      have P2 := (P1.stored (k * 2) (.string (mark q))).1
      have G2 := grown_set G1 (k * 2) (.string (mark q))
      generalize xs[k * 2]'(by omega) = z0 at e0
      clear hb1 hnx hown P1 G1
      go_wp2_with fail
      refine (M1.out _).mono ?_
      rintro e w2 ⟨rfl, hb2⟩
      have G3 := G2.trans (grown_any (grown_of_below hb2) (some g))
      have P3 := own_keepP2 P2 hb2
      obtain ⟨ys, hys⟩ : ∃ ys, xs.set (k * 2) (.string (mark q)) = ys := ⟨_, rfl⟩
      rw [hys] at P3 HX
      have hyl : ys.length = n * 2 := P3.1
      have e1 : w2.cell? ⟨g, k * 2 + 1, none⟩ = some (ys[k * 2 + 1]'(by omega)) := by rw [P3.cellAt _ (by omega), List.getElem?_eq_getElem (by omega)]
      have f1 := P3.frozenAt (k * 2 + 1)
      have P4 := (P3.stored (k * 2 + 1) (.string (mark (q + 1)))).1
      have G4 := grown_set G3 (k * 2 + 1) (.string (mark (q + 1)))
      generalize ys[k * 2 + 1]'(by omega) = z1 at e1
      clear hb2 P2 P3 G2 G3 e0 f0 hys
      go_wp2_with fail
      go_roundw
      case rel => exact ⟨k + 1, by omega, by go_num, by rw [HQ3.out], ⟨_, P4, HX⟩, G4⟩
      case measure => simp [intOf]; omega
    · obtain rfl : k = n := by omega
      have HX : Hid (xs = flatP (marksPK k0 k)) := Lib.hid (by
        have := hx.out
        have hxl : xs.length = k * 2 := hown.1
        rwa [List.take_of_length_le (by rw [hxl]; omega)] at this)
      go_wp2_with fail
      go_ret
      refine ⟨rfl, ?_, hnx⟩
      unfold OwnP
      rw [← HX.out, marksPK_len]
      exact hown
set_option maxRecDepth 100000 in
set_option maxHeartbeats 1600000 in
theorem heldPairK (a : Option Addr) (n cap : Nat) (w : World) (k0 : Nat) (h : IsPres w a n cap (marksPK k0 n)) (hl : n ≤ 1048576) (hk0 : 0 < k0) (hk1 : k0 ≤ 40000000) :
    Calls Tryz.prog 90 #[.slice a n cap, .int .i64 k0] w fun e w' => e = .returned (.int .i64 ((k0 + 2 * n : Nat) : Int)) ∧ Below w.heap.size w w' := by
  have H := Lib.hid h
  clear h
  go_enter Tryz.func90, Tryz.ntmps90
  go_wp2_with fail
  go_loopw [1, 5] (fun q i wr => ∃ k : Nat, k ≤ n ∧ i = .int .i64 k ∧ q = .int .i64 ((k0 + 2 * k : Nat) : Int) ∧ Below w.heap.size w wr) (fun _ i _ => n - (intOf i).toNat)
  case atStart => exact ⟨0, Nat.zero_le _, rfl, by rw [Nat.mul_zero, Nat.add_zero], Below.refl _ _⟩
  case round =>
    obtain ⟨k, hk, rfl, rfl, hnx⟩ := hrel
    by_cases hlt : k < n
    · obtain ⟨b, off, rfl, hb, _, _, _, hc⟩ := H.out.cells (by omega)
      obtain ⟨c0, c1, _, _⟩ := hc k _ (marksPK_at hlt)
      have hk6 : (0 : Int) ≤ (k : Int) := by omega
      have hk7 : (k : Int) < (n : Int) := by omega
      have l0 : b < wr.heap.size := Nat.lt_of_lt_of_le hb hnx.size
      have m0 := markTextB (k0 + 2 * k) (by omega) (by omega)
      have m1 := markTextB (k0 + 2 * k + 1) (by omega) (by omega)
      unfold markPK at c0 c1
      simp only at c0 c1
      obtain ⟨q, hq⟩ : ∃ q : Nat, k0 + 2 * k = q := ⟨_, rfl⟩
      rw [hq] at m0 m1 c0 c1
      have d1 : ((q + 1 : Nat) : Int) = (q : Int) + 1 := by omega
      rw [d1] at m1
      have M0 := Lib.hid m0
      have M1 := Lib.hid m1
      rw [hq]
      have hqs : q ≤ 80000000 := by omega
      have HQ3 : Hid (((k0 + 2 * (k + 1) : Nat) : Int) = (q : Int) + 1 + 1) := Lib.hid (by omega)
      generalize mark q = t0 at *
      generalize mark (q + 1) = t1 at *
      clear hq m0 m1 d1 hc
      go_wp2_with fail
      have KK := c0
      rw [← hnx.cell (p := ⟨b, _, none⟩) hb] at KK
      have LL : b < wr.heap.size := Nat.lt_of_lt_of_le hb hnx.size
      go_region_held3 (fun w' => w'.cell? ⟨b, off + k * 2, none⟩ = some (.string t0))
        (first | go_keep | (rw [ha0.cell (by first | (simp; done) | exact World.block_lt_of_cell? _ _ (by assumption))]; assumption))
        (first | (go_at_call 88; refine (M0.out _).mono ?_; rintro e wa0 ⟨rfl, ha0⟩))
      have B0 : Below w.heap.size w wa0 := (Below.drew hnx).trans (ha0.mono hnx.size)
      clear ha0 KK LL hnx
      go_wp2_with fail
      have KK := c1
      rw [← B0.cell (p := ⟨b, _, none⟩) hb] at KK
      have LL : b < wa0.heap.size := Nat.lt_of_lt_of_le hb B0.size
      go_region_held3 (fun w' => w'.cell? ⟨b, off + k * 2 + 1, none⟩ = some (.string t1))
        (first | go_keep | (rw [ha1.cell (by first | (simp; done) | exact World.block_lt_of_cell? _ _ (by assumption))]; assumption))
        (first | (go_at_call 88; refine (M1.out _).mono ?_; rintro e wa1 ⟨rfl, ha1⟩))
      have B1 : Below w.heap.size w wa1 := (Below.drew B0).trans (ha1.mono B0.size)
      clear ha1 KK LL B0
      go_wp2_with fail
      go_roundw
      case rel => exact ⟨k + 1, by omega, by go_num, by rw [HQ3.out], B1⟩
      case measure => simp [intOf]; omega
    · obtain rfl : k = n := by omega
      go_wp2_with fail
      go_ret
      exact ⟨rfl, hnx⟩
end Go.Proofs.YtmiiaebelncdhaaGreat
/- The exact laws' own copy of a slice of rows, what it owns, and texts copied. -/
namespace Go.Proofs.YtmiiaebelncdhaaGreat
open Go.RowKit Go.WideShapes
theorem infoRow : (Tryz.prog.info? 36).map (fun i => (i.zero, i.size, i.bytes)) = some (some (.slice none 0 0), 1, 24) := by kernel_rfl
theorem ownP_kept {B : Nat} {w w' : World} {v : Value} {ts : RowV} (h : OwnP B w v ts) (hb : Below w.heap.size w w') : OwnP B w' v ts := World.ownsRow.kept h (grown_of_below hb) (by
  rcases hv : v.ownBlock with _ | i
  · exact .inl rfl
  · exact .inr (by simp))
theorem ownP_base {B C : Nat} {w : World} {v : Value} {ts : RowV} (h : OwnP B w v ts) (hc : C ≤ B) : OwnP C w v ts := by
  obtain ⟨h1, h2⟩ := h
  refine ⟨h1, ?_⟩
  rcases h2 with h2 | ⟨g, cap, cur, e, hB, r⟩
  · exact .inl h2
  · exact .inr ⟨g, cap, cur, e, Nat.le_trans hc hB, r⟩
theorem ownP_set {B : Nat} {w : World} {v : Value} {ts : RowV} (h : OwnP B w v ts) {g : Nat} (hg : g < B) (j : Nat) (u : Value) : OwnP B (w.setCell ⟨g, j, none⟩ u) v ts := by
  refine World.ownsRow.kept h (row := some g) ⟨rfl, rfl, rfl, by simp [World.setCell], fun k _ hne => Below.heap_setCell _ _ _ _ (fun e => hne (by rw [e]))⟩ ?_
  rcases hv : v.ownBlock with _ | q
  · exact .inl rfl
  · exact .inr (fun e => by cases e; have := (World.ownsRow.lt h g hv).1; omega)
theorem setR {xs l : List Value} {k : Nat} (a : Value) (h : xs.take k = l) (hl : k < xs.length) : (xs.set k a).take (k + 1) = l ++ [a] := by
  subst h
  rw [List.take_add_one, List.take_set_of_le (Nat.le_refl _), List.getElem?_set_self hl]; rfl
/-- Rows, each in a block of its own, from B on. -/
def InnR (B : Nat) (w : World) (rs : List RowV) (us : List Value) : Prop :=
  us.length = rs.length ∧ (∀ (i : Nat) (u : Value) (r : RowV), us[i]? = some u → rs[i]? = some r → OwnP B w u r) ∧ us.Pairwise (fun u v => ∀ j, u.ownBlock = some j → v.ownBlock ≠ some j)
theorem InnR.nil (B : Nat) (w : World) : InnR B w [] [] := ⟨rfl, fun i u t h => by simp at h, .nil⟩
theorem InnR.next {B : Nat} {w w' : World} {rs : List RowV} {us : List Value} (h : InnR B w rs us) (hb : Below w.heap.size w w') : InnR B w' rs us := ⟨h.1, fun i u t hu ht => ownP_kept (h.2.1 i u t hu ht) hb, h.2.2⟩
theorem InnR.set {B : Nat} {w : World} {rs : List RowV} {us : List Value} (h : InnR B w rs us) {g : Nat} (hg : g < B) (j : Nat) (q : Value) : InnR B (w.setCell ⟨g, j, none⟩ q) rs us := ⟨h.1, fun i u t hu ht => ownP_set (h.2.1 i u t hu ht) hg j q, h.2.2⟩
theorem InnR.snoc {B : Nat} {w : World} {C : Nat} {rs : List RowV} {us : List Value} {r : RowV} {u : Value} (h : InnR B w rs us) (hl : ∀ v ∈ us, ∀ j, v.ownBlock = some j → j < C) (hBC : B ≤ C) (ho : OwnP C w u r) : InnR B w (rs ++ [r]) (us ++ [u]) := by
  obtain ⟨h1, h2, h3⟩ := h
  refine ⟨by simp [h1], fun i v s hv hs => ?_, List.pairwise_append.2 ⟨h3, List.pairwise_singleton _ _, fun v hv v' hv' j hj e => ?_⟩⟩
  · rcases Nat.lt_or_ge i us.length with g | g
    · rw [List.getElem?_append_left g] at hv
      rw [List.getElem?_append_left (by omega)] at hs
      exact h2 i v s hv hs
    · have hi : i = us.length := by
        have := (List.getElem?_eq_some_iff.1 hv).1
        simp at this; omega
      subst hi
      rw [List.getElem?_append_right (Nat.le_refl _)] at hv
      rw [h1, List.getElem?_append_right (Nat.le_refl _)] at hs
      simp at hv hs
      subst hv hs
      exact ownP_base ho hBC
  · obtain rfl : v' = u := by simpa using hv'
    have := hl v hv j hj
    have := (World.ownsRow.lt ho j e).1
    omega
theorem InnR.lt {B : Nat} {w : World} {rs : List RowV} {us : List Value} (h : InnR B w rs us) : ∀ v ∈ us, ∀ j, v.ownBlock = some j → B ≤ j ∧ j < w.heap.size := by
  intro v hv j hj
  obtain ⟨i, hi⟩ := List.mem_iff_getElem?.1 hv
  have hil := (List.getElem?_eq_some_iff.1 hi).1
  have ht : rs[i]? = some (rs[i]'(by have := h.1; omega)) := List.getElem?_eq_getElem _
  exact World.ownsRow.lt (h.2.1 i v _ hi ht) j hj
/-- The call owns a slice of rows and each of these, no two in one block. -/
def OwnRs (B : Nat) (w : World) (v : Value) (rs : List RowV) : Prop := ∃ us, w.ownsRow B 36 1 v rs.length us ∧ InnR B w rs us ∧ ∀ u ∈ us, ∀ j, u.ownBlock = some j → v.ownBlock ≠ some j
theorem OwnRs.is {B : Nat} {w : World} {v : Value} {rs : List RowV} (h : OwnRs B w v rs) (hm : ∀ r ∈ rs, ∀ t ∈ r, t.1.size ≤ maxLen ∧ t.2.size ≤ maxLen) : ∃ a cap, v = .slice a rs.length cap ∧ IsRows w a rs.length cap rs := by
  obtain ⟨us, ho, hi, _⟩ := h
  have h0 := ho
  obtain ⟨_, hc⟩ := ho
  rcases hc with ⟨rfl, hl⟩ | ⟨g, cap, cur, rfl, _, _, h1, h2, _⟩
  · exact ⟨none, 0, by rw [hl], .inl ⟨rfl, hl, rfl, List.length_eq_zero_iff.1 hl⟩⟩
  · refine ⟨_, cap, rfl, .inr ⟨_, rfl, h1, h2, rfl, fun i r hr => ?_⟩⟩
    have hil : i < rs.length := (List.getElem?_eq_some_iff.1 hr).1
    have hu : us[i]? = some (us[i]'(by have := hi.1; omega)) := List.getElem?_eq_getElem _
    have oi := hi.2.1 i _ r hu hr
    obtain ⟨a', c', ev, ii⟩ := oi.is (hm r (List.mem_of_getElem? hr))
    refine ⟨a', r.length, c', ?_, ii⟩
    rw [add_plain, Nat.zero_add]
    exact (h0.cellAt i (by omega)).trans (by rw [hu, ev])
theorem OwnRs.kept {B : Nat} {w w' : World} {v : Value} {rs : List RowV} (h : OwnRs B w v rs) (hb : Below w.heap.size w w') : OwnRs B w' v rs := by
  obtain ⟨us, ho, hi, hn⟩ := h
  exact ⟨us, ho.kept (grown_of_below hb) (by
    rcases hv : v.ownBlock with _ | i
    · exact .inl rfl
    · exact .inr (by simp)), hi.next hb, hn⟩
set_option maxRecDepth 100000 in
set_option maxHeartbeats 1600000 in
theorem toRows (a : Option Addr) (len cap : Nat) (rs : List RowV) (w : World) (h : IsRows w a len cap rs) (hs : len + totR rs ≤ 1048576) :
    Calls Tryz.prog 38 #[.slice a len cap] w fun e w' => ∃ v, e = .returned v ∧ OwnRs w.heap.size w' v rs ∧ Below w.heap.size w w' := by
  obtain ⟨i0, hi, hz0, hz1, hz2⟩ := info_parts infoRow
  have HT := Lib.hid h.len
  have H := Lib.hid h
  have HTOT : Hid (∀ r ∈ rs, r.length ≤ 1048576) := Lib.hid (fun r hr => by have := totR_mem hr; omega)
  clear h
  go_enter Tryz.func38, Tryz.ntmps38
  go_wp2_with (at_make; refine wpList_make_full _ rfl _ _ 27 rfl w.heap.size 36 i0 _ 1 Tryz.underlying27 hi hz0 hz1 .i64 .i64 _ _ len rfl rfl rfl rfl ?c1 ?c2 (Nat.le_refl _) ?_)
  case c1 => rw [hz2]; omega
  case c2 => unfold maxLen; omega
  intro w0 hown0 hg0
  have hb0 : Below w.heap.size w w0 := (Below.refl _ _).grown hg0 (Nat.le_refl _) (by simp)
  clear hg0
  go_wp2_with fail
  go_loopw [4] (fun i wr => ∃ k : Nat, k ≤ len ∧ i = .int .i64 k ∧ (∃ xs us : List Value, wr.ownsRow w.heap.size 36 1 (.slice (some ⟨w.heap.size, 0, none⟩) len len) len xs ∧ Hid (xs.take k = us ∧ InnR (w.heap.size + 1) wr (rs.take k) us)) ∧ Below w.heap.size w wr) (fun i _ => len - (intOf i).toNat)
  case atStart => exact ⟨0, Nat.zero_le _, rfl, ⟨_, [], hown0, Lib.hid ⟨by simp, InnR.nil _ _⟩⟩, hb0⟩
  case round =>
    obtain ⟨k, hk, rfl, ⟨xs, us, hown, hx⟩, hnx⟩ := hrel
    have hk6 : (0 : Int) ≤ (k : Int) := by omega
    by_cases hlt : k < len
    · obtain ⟨b, off, rfl, hb, hl, hm, hts, hc⟩ := (H.out.next hnx).cells (by omega)
      have ht : rs[k]? = some rs[k] := List.getElem?_eq_getElem (by omega)
      have HS : Hid (rs.take (k + 1) = rs.take k ++ [rs[k]]) := Lib.hid (List.take_succ_eq_append_getElem (by omega))
      obtain ⟨a', n, c, c0, hz⟩ := hc k _ ht
      have hzt := HTOT.out _ (List.getElem_mem (by omega : k < rs.length))
      generalize rs[k] = r at hz HS hzt
      have D := Lib.hid (toPairS a' n c r wr hz (by have := hz.len; omega))
      have hsm := Lib.hid hz.small
      have hlt2 : (k : Int) < (len : Int) := by omega
      clear ht hts hc hm hz hl
      go_wp2_with fail
      refine D.out.mono ?_
      rintro e wn ⟨u, rfl, ou, hbn⟩
      have B := hnx.trans (hbn.mono hnx.size)
      have O := hown.kept (grown_of_below hbn) (.inr (by simp [Value.ownBlock]))
      have hgt : w.heap.size < wr.heap.size := (World.ownsRow.lt hown w.heap.size (by simp [Value.ownBlock])).2
      have HIN : Hid (InnR (w.heap.size + 1) wn (rs.take k ++ [r]) (us ++ [u])) := Lib.hid (InnR.snoc (hx.out.2.next hbn) (fun v hv j hj => (hx.out.2.lt v hv j hj).2) hgt ou)
      obtain ⟨ua, uc, rfl, _⟩ := ou.is hsm.out
      clear hbn hown hnx c0 D ou
      have hxl : xs.length = len := by have := O.1; omega
      have e0 : wn.cell? ⟨w.heap.size, k, none⟩ = some (xs[k]'(by omega)) := by rw [O.cellAt _ (by omega), List.getElem?_eq_getElem (by omega)]
      have f0 := O.frozenAt k
      have O1 := (O.stored k (.slice ua r.length uc)).1
      have HX : Hid ((xs.set k (.slice ua r.length uc)).take (k + 1) = us ++ [.slice ua r.length uc]) := Lib.hid (setR _ hx.out.1 (by omega))
      have B3 := B.setCell (p := ⟨w.heap.size, k, none⟩) (Nat.le_refl _) (.slice ua r.length uc)
      have HI2 := Lib.hid (HIN.out.set (Nat.lt_succ_self _) k (.slice ua r.length uc))
      rw [← HS.out] at HI2
      generalize xs[k]'(by omega) = z0 at e0
      have O6 := Lib.hid O1
      clear O O1 hxl B HIN
      go_wp2_with fail
      go_roundw
      case rel => exact ⟨k + 1, by omega, by go_num, ⟨_, _, O6.out, Lib.hid ⟨HX.out, HI2.out⟩⟩, B3⟩
      case measure => simp [intOf]; omega
    · obtain rfl : k = len := by omega
      have e : rs.take k = rs := List.take_of_length_le (by rw [HT.out]; exact Nat.le_refl _)
      have HX : Hid (xs = us ∧ InnR (w.heap.size + 1) wr rs us) := Lib.hid (by
        have := hx.out
        have hxl : xs.length = k := by have := hown.1; omega
        rw [e, List.take_of_length_le (by omega)] at this
        exact this)
      go_wp2_with fail
      go_ret
      refine ⟨_, rfl, ⟨us, by rw [← HX.out.1, HT.out]; exact hown, ⟨HX.out.2.1, fun i u r hu hr => ownP_base (HX.out.2.2.1 i u r hu hr) (Nat.le_succ _), HX.out.2.2.2⟩, fun u hu j hj e2 => ?_⟩, hnx⟩
      have := (HX.out.2.lt u hu j hj).1
      simp [Value.ownBlock] at e2
      omega
end Go.Proofs.YtmiiaebelncdhaaGreat
/- The rows of a map in the order of their texts, each copied: the program's own. -/
namespace Go.Proofs.YtmiiaebelncdhaaGreat
open Go.RowKit Go.WideShapes Go.Maps
theorem InnR.grow {B : Nat} {w w' : World} {rs : List RowV} {us : List Value} {row : Option Nat} (h : InnR B w rs us) (hg : w.grownBy w' row) (hne : ∀ u ∈ us, u.ownBlock = none ∨ u.ownBlock ≠ row) : InnR B w' rs us :=
  ⟨h.1, fun i u t hu ht => World.ownsRow.kept (h.2.1 i u t hu ht) hg (hne u (List.mem_of_getElem? hu)), h.2.2⟩
theorem RowIn.next {w w' : World} {u : Value} {r : RowV} (h : RowIn w u r) (hb : Below w.heap.size w w') : RowIn w' u r := by
  obtain ⟨a, n, c, e, h⟩ := h
  exact ⟨a, n, c, e, h.next hb⟩
theorem one_cellV {w : World} {u : Value} {e g : Nat} (hg : g = w.heap.size) : ∀ (j : Nat) (x : Value), [u][j]? = some x → (w.alloc (.cells #[u] e)).cell? ((⟨g, 0, none⟩ : Addr).add j) = some x := by
  subst hg
  intro j x hj
  match j, hj with
  | 0, hj =>
    simp only [List.getElem?_cons_zero, Option.some.injEq] at hj
    subst hj
    have key : ∀ W : World, W.heap[w.heap.size]? = some (.cells #[u] e (0, 0)) → W.cell? ((⟨w.heap.size, 0, none⟩ : Addr).add 0) = some u := by
      intro W h
      simp [World.cell?, Addr.add, h]
    exact key _ (heap_alloc_new w _)
theorem one_slice (a : Option Addr) (n c : Nat) : ∀ u ∈ [Value.slice a n c], u.oneCell' = true := by
  intro u hu
  simp only [List.mem_cons, List.not_mem_nil, or_false] at hu
  subst hu; rfl
/-- The outer slice, its rows, no two in one block. -/
def OutR (B : Nat) (w : World) (v : Value) (rs : List RowV) (us : List Value) : Prop := w.ownsRow B 36 1 v rs.length us ∧ InnR B w rs us ∧ ∀ u ∈ us, ∀ j, u.ownBlock = some j → v.ownBlock ≠ some j
theorem OutR.own {B : Nat} {w : World} {v : Value} {rs : List RowV} {us : List Value} (h : OutR B w v rs us) : OwnRs B w v rs := ⟨us, h.1, h.2.1, h.2.2⟩
/-- One more row, copied into a block of its own, and put behind. -/
theorem OutR.more {B : Nat} {w w1 w2 : World} {v v' u : Value} {rs : List RowV} {us : List Value} {r : RowV} {T : TypeId} (h : OutR B w v rs us) (hB : B ≤ w.heap.size) (hb : Below w.heap.size w w1) (hu : OwnP w.heap.size w1 u r)
    (ho : w2.ownsRow B 36 1 v' (rs.length + 1) (us ++ [u])) (hg : (w1.alloc (.cells #[u] T)).grownBy w2 v.ownBlock) (hat : v'.ownBlock = v.ownBlock ∨ v'.ownBlock = some (w1.heap.size + 1)) : OutR B w2 v' (rs ++ [r]) (us ++ [u]) := by
  obtain ⟨h1, h2, h3⟩ := h
  have I1 : InnR B w1 (rs ++ [r]) (us ++ [u]) := InnR.snoc (h2.next hb) (fun x hx j hj => (h2.lt x hx j hj).2) hB hu
  have I2 := I1.next ((Below.refl w1.heap.size w1).alloc (Nat.le_refl _) (.cells #[u] T))
  have hfar : ∀ x ∈ us ++ [u], ∀ j, x.ownBlock = some j → v.ownBlock ≠ some j := by
    intro x hx j hj e
    rcases List.mem_append.1 hx with hx | hx
    · exact h3 x hx j hj e
    · obtain rfl : x = u := by simpa using hx
      have := (World.ownsRow.lt hu j hj).1
      have := (World.ownsRow.lt h1 j e).2
      omega
  refine ⟨by rw [List.length_append]; exact ho, I2.grow hg (fun x hx => ?_), fun x hx j hj e => ?_⟩
  · rcases hx' : x.ownBlock with _ | j
    · exact .inl rfl
    · exact .inr (fun e => hfar x hx j hx' e.symm)
  · rcases hat with hat | hat
    · exact hfar x hx j hj (hat ▸ e)
    · have := (I1.lt x hx j hj).2
      rw [hat] at e
      simp only [Option.some.injEq] at e
      omega
set_option maxRecDepth 100000 in
set_option maxHeartbeats 1600000 in
theorem implInOrderR (b m : Nat) (kvs : List (Txt × Value)) (row : Txt → RowV) (w : World) (hM : OwnMapV w b m kvs) (hn : kvs.length ≤ 1000000) (hR : ∀ p ∈ kvs, RowIn w p.2 (row p.1)) (hl : ∀ p ∈ kvs, (row p.1).length ≤ 1048576 ∧ p.1.length ≤ maxLen) :
    Calls Tryz.prog 50 #[.map (some b)] w fun e w' => ∃ v, e = .returned v ∧ OwnRs w.heap.size w' v (((kvs.map Prod.fst).mergeSort leB).map row) ∧ Below w.heap.size w w' := by
  obtain ⟨i0, hi, hz0, hz1, hz2⟩ := info_parts infoRow
  have hmap := hM
  obtain ⟨D, hown, hD⟩ := hmap
  have hlen := hown.len Tryz.underlying74
  rw [hD.size] at hlen
  obtain ⟨n, hkn⟩ : ∃ n, kvs.length = n := ⟨_, rfl⟩
  rw [hkn] at hlen hn
  clear hown hD
  obtain ⟨ks, hks⟩ : ∃ ks, (kvs.map Prod.fst).mergeSort leB = ks := ⟨_, rfl⟩
  rw [hks]
  go_enter Tryz.func50, Tryz.ntmps50
  go_wp2_with (at_make; refine wpList_make_own _ rfl _ _ 27 rfl w.heap.size 36 i0 _ 1 Tryz.underlying27 hi hz0 hz1 .i64 .i64 _ n rfl rfl rfl ?c1 ?c2 (Nat.le_refl _) ?_)
  case c1 => rw [hz2]; omega
  case c2 => unfold maxLen; omega
  intro w0 hown0 hg0
  have hb0 : Below w.heap.size w w0 := (Below.refl _ _).grown hg0 (Nat.le_refl _) (by simp)
  have M0 := hM.kept hg0 (by simp)
  clear hg0 hlen
  have K1 := Lib.hid (keysRow b w0)
  have K2 := Lib.hid (sortedRow b m kvs _ w0 M0 rfl (by rw [List.length_map, hkn]; omega))
  clear M0
  go_wp2_with fail
  refine K1.out.mono ?_
  rintro e w1 ⟨rfl, rfl⟩
  go_wp2_with fail
  refine K2.out.mono ?_
  rintro e w2 ⟨sv, rfl, os, hb2⟩
  have hkl : ((kvs.map Prod.fst).mergeSort leB).length = n := by rw [(List.mergeSort_perm _ leB).length_eq, List.length_map, hkn]
  have hkm : ∀ t ∈ (kvs.map Prod.fst).mergeSort leB, ∃ u, (t, u) ∈ kvs := by
    intro t ht
    obtain ⟨p, hp, rfl⟩ := List.mem_map.1 ((List.mergeSort_perm _ leB).mem_iff.1 ht)
    exact ⟨p.2, hp⟩
  rw [hks] at os hkl hkm
  have HS := Lib.hid os
  obtain ⟨sa, sc, rfl, _⟩ := os.is
  have hsl : (ks.map bs).length = n := by rw [List.length_map, hkl]
  rw [hsl] at HS ⊢
  have HKL := Lib.hid hkl
  have HKM := Lib.hid hkm
  have HM := Lib.hid hM
  have HR := Lib.hid hR
  have HLL := Lib.hid hl
  have hz0s : w.heap.size < w0.heap.size := (World.ownsRow.lt hown0 w.heap.size (by simp [Value.ownBlock])).2
  have O0 : OutR w.heap.size w2 (.slice (some ⟨w.heap.size, 0, none⟩) 0 n) [] [] := ⟨hown0.kept (grown_of_below hb2) (.inr (by simp [Value.ownBlock])), InnR.nil _ _, by simp⟩
  have B0 : Below w.heap.size w w2 := hb0.trans (hb2.mono (by omega))
  have hfar0 : ∀ j, (Value.slice (some ⟨w.heap.size, 0, none⟩) 0 n).ownBlock = some j → (Value.slice sa n sc).ownBlock ≠ some j := by
    intro j hj e
    simp [Value.ownBlock] at hj
    have := (World.ownsRow.lt HS.out j e).1
    omega
  have HF0 := Lib.hid hfar0
  clear os hown0 hb2 hb0 hkl hkm hM hR hl hsl hfar0 K1 K2
  go_wp2_with fail
  go_loopw [3, 13] (fun v' i wr => ∃ (k : Nat) (v : Value), k ≤ n ∧ i = .int .i64 k ∧ v = v' ∧ (∃ us, Hid (OutR w.heap.size wr v ((ks.take k).map row) us)) ∧ Hid (OwnS w0.heap.size wr (.slice sa n sc) (ks.map bs)) ∧ Hid (∀ j, v.ownBlock = some j → (Value.slice sa n sc).ownBlock ≠ some j) ∧ Below w.heap.size w wr) (fun _ i _ => n - (intOf i).toNat)
  case atStart => exact ⟨0, _, Nat.zero_le _, rfl, rfl, ⟨[], Lib.hid O0⟩, HS, HF0, B0⟩
  case round =>
    clear O0 B0 HS HF0
    obtain ⟨k, v, hk, rfl, rfl, ⟨us, HO⟩, HS, HF, hnx⟩ := hrel
    by_cases hlt : k < n
    · obtain ⟨sa', sc', hse, hss⟩ := HS.out.is
      rw [List.length_map, HKL.out] at hse hss
      cases hse
      obtain ⟨g, off, rfl, hgb, _, _, hts, hc⟩ := hss.cells (by omega)
      have ht : ks[k]? = some (ks[k]'(by have := HKL.out; omega)) := List.getElem?_eq_getElem _
      have HK : Hid (ks.take (k + 1) = ks.take k ++ [ks[k]'(by have := HKL.out; omega)]) := Lib.hid (List.take_succ_eq_append_getElem _)
      have c0 := hc k (bs (ks[k]'(by have := HKL.out; omega))) (by rw [List.getElem?_map, ht]; rfl)
      obtain ⟨u, hu⟩ := HKM.out _ (List.getElem_mem (by have := HKL.out; omega : k < ks.length))
      generalize ks[k]'(by have := HKL.out; omega) = t at HK c0 hu ht
      obtain ⟨a1, n1, c1, he1, hz⟩ := (HR.out _ hu).next hnx
      dsimp only at he1 hz
      subst he1
      have hll := HLL.out _ hu
      dsimp only at hll
      have hzl := hz.len
      have hzs := Lib.hid hz.small
      have E := Lib.hid (fun W (h : Below wr.heap.size wr W) => clonePair a1 n1 c1 (row t) W (hz.next h) (by omega))
      have MM := Lib.hid (HM.out.next hnx)
      have HU := Lib.hid hu
      have htm : (bs t).size ≤ maxLen := by rw [bs_size]; exact hll.2
      have htb : (bs t).data.toList = t := bs_toList t
      rw [← htb] at HU
      have HW := Lib.hid htb
      generalize bs t = x at c0 htm HU HW
      have hkn' : (ks.take k).length = k := by rw [List.length_take, HKL.out]; omega
      have HROW : Hid ((ks.take (k + 1)).map row = (ks.take k).map row ++ [row t]) := Lib.hid (by rw [HK.out]; simp)
      have HRL : Hid (((ks.take k).map row).length = k) := Lib.hid (by rw [List.length_map]; exact hkn')
      generalize (ks.take k).map row = rk at HO HROW HRL
      clear hts hc ht HK hu hll hz hkn' htb hss
      have ZZ : Hid (∀ w : World, (zeroValue 36).run Tryz.prog w = .ok (.slice none 0 0) w) := Lib.hid (fun w => by kernel_rfl)
      go_wp2_with (at_lookup; refine wpList_lookV _ rfl _ _ rfl b m kvs rfl MM.out x htm _ HU.out rfl (ZZ.out _) ?_)
      refine (E.out _ (by first | exact Below.refl _ _ | exact Below.drew (Below.refl _ _))).mono ?_
      rintro e wn ⟨u', rfl, ou, hbn⟩
      obtain ⟨ua, uc, hue, _⟩ := ou.is hzs.out
      rw [hzl] at hue
      subst hue
      have HBN := Lib.hid hbn
      have BN := hnx.trans (hbn.mono hnx.size)
      have hvk : v.ownBlock = none ∨ v.ownBlock ≠ (none : Option Nat) := by
        rcases hv : v.ownBlock with _ | j
        · exact .inl rfl
        · exact .inr (by simp)
      have OA := Lib.hid (World.ownsRow.alloc (HO.out.1.kept (grown_of_below hbn) hvk) (.cells #[.slice ua n1 uc] 36))
      have BA := Lib.hid (BN.alloc BN.size (.cells #[.slice ua n1 uc] 36))
      have hrl := HRL.out
      have HOU := Lib.hid ou
      have HNX := Lib.hid hnx
      clear hbn ou E hnx c0 hvk
      go_wp2_with (at_builtin; refine wpList_append_own_at _ rfl _ _ 27 rfl w.heap.size 36 i0 (.slice none 0 0) 1 24 Tryz.underlying27 hi hz0 hz1 hz2 rfl (by decide) _ _ _ rfl OA.out ⟨_, 0, none⟩ 1 1 [.slice ua n1 uc] rfl rfl ?d1 ?d2 ?d3 ?d4 ?d5 ?_)
      case d1 => exact one_cellV rfl
      case d2 => exact one_slice _ _ _
      case d3 => unfold maxLen; omega
      case d4 => omega
      case d5 => exact BA.out.size
      intro v2 w3 hown3 hg3 _ hat
      have HO3 := HO.out.more HNX.out.size HBN.out HOU.out (by rw [HRL.out]; exact hown3) hg3 hat
      rw [← HROW.out] at HO3
      have HO4 := Lib.hid HO3
      have B3 := BA.out.grown hg3 BA.out.size (fun j hj => (World.ownsRow.lt HO.out.1 j hj).1)
      have S1 := (HS.out.kept HBN.out).kept ((Below.refl wn.heap.size wn).alloc (Nat.le_refl _) (.cells #[.slice ua n1 uc] 36))
      have S3 : Hid (OwnS w0.heap.size w3 (.slice (some ⟨g, off, none⟩) n sc) (ks.map bs)) := Lib.hid (World.ownsRow.kept S1 hg3 (.inr (fun e => HF.out _ e.symm rfl)))
      have F3 : Hid (∀ j, v2.ownBlock = some j → (Value.slice (some ⟨g, off, none⟩) n sc).ownBlock ≠ some j) := Lib.hid (fun j hj e => by
        rcases hat with h | h
        · exact HF.out j (h ▸ hj) e
        · rw [h] at hj
          simp only [Option.some.injEq] at hj
          have h9 := (World.ownsRow.lt (HS.out.kept HBN.out) j e).2
          omega)
      clear hown3 hg3 hat HO3 HO S1 HS HF OA BA HBN HOU
      go_wp2_with fail
      go_roundw
      case rel => exact ⟨k + 1, _, by omega, by go_num, rfl, ⟨_, HO4⟩, S3, F3, B3⟩
      case measure => simp [intOf]; omega
    · have HE : Hid (OwnRs w.heap.size wr v (ks.map row)) := Lib.hid (by
        have h1 := HO.out.own
        rw [List.take_of_length_le (by rw [HKL.out]; omega)] at h1
        exact h1)
      clear HO HS HF
      go_wp2_with fail
      go_ret
      exact ⟨_, rfl, HE.out, hnx⟩
end Go.Proofs.YtmiiaebelncdhaaGreat
