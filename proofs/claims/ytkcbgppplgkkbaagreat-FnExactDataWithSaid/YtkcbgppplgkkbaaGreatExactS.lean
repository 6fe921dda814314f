/- The contracts of the exact laws' own helpers on slices of triples. -/
import Derived.Test.YtkcbgppplgkkbaaGreatTris
import Derived.Test.YtkcbgppplgkkbaaGreatExactT
namespace Go.Proofs.YtkcbgppplgkkbaaGreat
open Go.RowKit Go.WideShapes
/-- The place of a slice that has an element, and its cells. -/
theorem IsTris.cells {w : World} {a : Option Addr} {len cap : Nat} {ts : List Tri3} (h : IsTris w a len cap ts) (h0 : 0 < len) : ∃ b off, a = some ⟨b, off, none⟩ ∧ b < w.heap.size ∧ len ≤ cap ∧ cap ≤ maxLen ∧ ts.length = len ∧
    ∀ (i : Nat) (t : Tri3), ts[i]? = some t → w.cell? ⟨b, off + i * 3, none⟩ = some (.string t.1) ∧ w.cell? ⟨b, off + i * 3 + 1, none⟩ = some (.string t.2.1) ∧ w.cell? ⟨b, off + i * 3 + 2, none⟩ = some (.string t.2.2) ∧ t.1.size ≤ maxLen ∧ t.2.1.size ≤ maxLen ∧ t.2.2.size ≤ maxLen := by
  rcases h with ⟨_, rfl, _⟩ | ⟨x, rfl, h1, h2, h3, h4⟩
  · omega
  · obtain ⟨b, off, spot⟩ := x
    have ht : ts[0]? = some ts[0] := List.getElem?_eq_getElem (by omega)
    have hc := (h4 0 _ ht).1
    obtain rfl : spot = none := by simpa [Addr.add] using World.cell?_spot hc
    refine ⟨b, off, rfl, ?_, h1, h2, h3, fun i t hi => ?_⟩
    · have := World.block_lt_of_cell? _ _ hc
      simpa [Addr.add] using this
    · obtain ⟨c0, c1, c2, w0, w1, w2⟩ := h4 i t hi
      rw [add_plain] at c0 c1 c2
      rw [Nat.mul_comm] at c0 c1 c2
      exact ⟨c0, by rw [Nat.add_assoc]; exact c1, by rw [Nat.add_assoc]; exact c2, w0, w1, w2⟩
/-- What a size that is not below 0 says of the triples. -/
def Small (len : Nat) (ts : List Tri3) : Prop := len ≤ 1048576 ∧ ∀ t ∈ ts, t.1.size + t.2.1.size + t.2.2.size ≤ 1048576
def SzPost (left : Int) (len : Nat) (ts : List Tri3) (w : World) (e : Ending) (w' : World) : Prop :=
  ∃ n : Int, e = .returned (.int .i64 n) ∧ (n = -1 ∨ (0 ≤ n ∧ n ≤ left ∧ Small len ts)) ∧ Below w.heap.size w w'
set_option maxRecDepth 100000 in
set_option maxHeartbeats 1600000 in
theorem szTriS (a : Option Addr) (len cap : Nat) (ts : List Tri3) (w : World) (h : IsTris w a len cap ts) (left : Int) (h0 : 0 ≤ left) (h1 : left ≤ 1048576) (hlen : len ≤ 9223372036854775807) :
    Calls Tryz.prog 33 #[.slice a len cap, .int .i64 left] w (SzPost left len ts w) := by
  by_cases g : left - len < 0
  · clear h
    go_enter Tryz.func33, Tryz.ntmps33
    go_wp2_with fail
    go_ret
    exact ⟨-1, rfl, .inl rfl, Below.refl _ _⟩
  by_cases hz : len = 0
  · subst hz
    have hts : ts = [] := by
      rcases h with ⟨_, _, _, h⟩ | ⟨x, _, _, _, h, _⟩
      · exact h
      · exact List.length_eq_zero_iff.1 h
    subst hts
    clear h g
    go_enter Tryz.func33, Tryz.ntmps33
    go_wp2_with fail
    refine wp_loop_rounds 1 ?_
    rw [rounds_succ]
    go_wp2_with fail
    go_ret
    exact ⟨left, by simp, .inr ⟨h0, Int.le_refl _, by omega, by simp⟩, Below.refl _ _⟩
  · obtain ⟨b, off, rfl, hb, hl, hm, hts, hc⟩ := h.cells (by omega)
    unfold maxLen at hm hc
    have HC := Lib.hid hc
    have HT := Lib.hid hts
    clear hc h
    go_enter Tryz.func33, Tryz.ntmps33
    go_wp2_with fail
    go_loopw [1, 5] (fun l i wr => ∃ k : Nat, k ≤ len ∧ i = .int .i64 k ∧ (∃ q : Int, 0 ≤ q ∧ q ≤ left ∧ l = .int .i64 q) ∧ Hid (∀ t ∈ ts.take k, t.1.size + t.2.1.size + t.2.2.size ≤ 1048576) ∧ Below w.heap.size w wr) (fun _ i _ => len - (intOf i).toNat)
    case atStart => exact ⟨0, Nat.zero_le _, rfl, ⟨_, by omega, by omega, rfl⟩, Lib.hid (by simp), Below.refl _ _⟩
    case round =>
      obtain ⟨k, hk, rfl, ⟨q, hq0, hq1, rfl⟩, hsm, hnx⟩ := hrel
      by_cases hlt : k < len
      · have ht : ts[k]? = some ts[k] := List.getElem?_eq_getElem (by omega)
        have HS : Hid (ts.take (k + 1) = ts.take k ++ [ts[k]]) := Lib.hid (List.take_succ_eq_append_getElem (by omega))
        obtain ⟨c0, c1, c2, w0, w1, w2⟩ := HC.out k _ ht
        rw [← hnx.cell (p := ⟨b, _, none⟩) hb] at c0 c1 c2
        generalize ts[k] = t at c0 c1 c2 w0 w1 w2 HS
        clear ht
        have SZ := szTri t.1 t.2.1 t.2.2 q hq0 (by omega) w0 w1 w2
        by_cases hs : (t.1.size : Int) + t.2.1.size + t.2.2.size ≤ q
        · rw [szT_yes hs] at SZ
          have D := Lib.hid SZ
          have HN : Hid (∀ t ∈ ts.take (k + 1), t.1.size + t.2.1.size + t.2.2.size ≤ 1048576) := Lib.hid (by
            rw [HS.out]
            intro u hu
            rcases List.mem_append.1 hu with hu | hu
            · exact hsm.out u hu
            · obtain rfl : u = t := by simpa using hu
              omega)
          have hn0 : ¬ q - t.1.size - t.2.1.size - t.2.2.size < 0 := by omega
          clear SZ
          go_wp2_with fail
          refine (D.out _).mono ?_
          rintro e wn ⟨rfl, hbn⟩
          have B := hnx.trans (hbn.mono hnx.size)
          clear hbn hnx c0 c1 c2
          go_wp2_with fail
          go_roundw
          case rel => exact ⟨k + 1, by omega, by go_num, ⟨_, by omega, by omega, rfl⟩, HN, B⟩
          case measure => simp [intOf]; omega
        · rw [szT_no hs] at SZ
          have D := Lib.hid SZ
          clear SZ
          go_wp2_with fail
          refine (D.out _).mono ?_
          rintro e wn ⟨rfl, hbn⟩
          have B := hnx.trans (hbn.mono hnx.size)
          clear hbn hnx c0 c1 c2
          go_wp2_with fail
          go_ret
          exact ⟨-1, rfl, .inl rfl, B⟩
      · go_wp2_with fail
        go_ret
        exact ⟨q, rfl, .inr ⟨hq0, hq1, by omega, by have := hsm.out; rwa [List.take_of_length_le (by rw [HT.out]; omega)] at this⟩, hnx⟩
end Go.Proofs.YtkcbgppplgkkbaaGreat
