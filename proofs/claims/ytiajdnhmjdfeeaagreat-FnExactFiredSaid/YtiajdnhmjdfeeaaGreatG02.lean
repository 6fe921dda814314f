/- The contracts of the exact laws' own helpers on one triple. -/
import Derived.Test.YtiajdnhmjdfeeaaGreatG01
import Derived.Test.YtiajdnhmjdfeeaaGreatG00
namespace Go.Proofs.YtiajdnhmjdfeeaaGreat
open Go.RowKit
def szT (s p o : Nat) (left : Int) : Int := if left - s < 0 then -1 else if left - s - p < 0 then -1 else if left - s - p - o < 0 then -1 else left - s - p - o
theorem szT_yes {s p o : Nat} {left : Int} (h : (s : Int) + p + o ≤ left) : szT s p o left = left - s - p - o := by
  unfold szT; rw [if_neg (by omega), if_neg (by omega), if_neg (by omega)]
theorem szT_no {s p o : Nat} {left : Int} (h : ¬ (s : Int) + p + o ≤ left) : szT s p o left = -1 := by
  unfold szT; split; · rfl
  split; · rfl
  rw [if_pos (by omega)]
theorem toTri (s p o : ByteArray) (w : World) :
    Calls Tryz.prog 51 #[.agg #[.string s, .string p, .string o]] w fun e w' => e = .returned (.agg #[.string s, .string p, .string o]) ∧ Below w.heap.size w w' := by
  go_enter Tryz.func51, Tryz.ntmps51
  go_wp2
  refine bodyPost_ret (v := .agg #[.string s, .string p, .string o]) (by simp [results, Tryz.results51, go_sem]) rfl ⟨rfl, (((Below.refl _ _).alloc (Nat.le_refl _) _).alloc (by simp) _).alloc (by simp; omega) _⟩
theorem szTri (s p o : ByteArray) (left : Int) (h0 : 0 ≤ left) (h1 : left ≤ 1048576) (hs : s.size ≤ 9223372036854775807) (hp : p.size ≤ 9223372036854775807) (ho : o.size ≤ 9223372036854775807) (w : World) :
    Calls Tryz.prog 44 #[.agg #[.string s, .string p, .string o], .int .i64 left] w fun e w' => e = .returned (.int .i64 (szT s.size p.size o.size left)) ∧ Below w.heap.size w w' := by
  unfold szT
  by_cases g1 : left - s.size < 0
  · rw [if_pos g1]
    go_enter Tryz.func44, Tryz.ntmps44
    go_wp2
    go_ret
    exact ⟨rfl, (Below.refl _ _).alloc (Nat.le_refl _) _⟩
  rw [if_neg g1]
  by_cases g2 : left - s.size - p.size < 0
  · rw [if_pos g2]
    go_enter Tryz.func44, Tryz.ntmps44
    go_wp2
    go_ret
    exact ⟨rfl, (Below.refl _ _).alloc (Nat.le_refl _) _⟩
  rw [if_neg g2]
  by_cases g3 : left - s.size - p.size - o.size < 0
  · rw [if_pos g3]
    go_enter Tryz.func44, Tryz.ntmps44
    go_wp2
    go_ret
    exact ⟨rfl, (Below.refl _ _).alloc (Nat.le_refl _) _⟩
  · rw [if_neg g3]
    go_enter Tryz.func44, Tryz.ntmps44
    go_wp2
    go_ret
    exact ⟨rfl, (Below.refl _ _).alloc (Nat.le_refl _) _⟩
theorem eqTri (s p o : ByteArray) (w : World) :
    Calls Tryz.prog 56 #[.agg #[.string s, .string p, .string o], .agg #[.string s, .string p, .string o]] w fun e w' => e = .returned (.bool true) ∧ Below w.heap.size w w' := by
  go_enter Tryz.func56, Tryz.ntmps56
  go_wp2
  go_ret
  exact ⟨rfl, ((Below.refl _ _).alloc (Nat.le_refl _) _).alloc (by simp) _⟩
end Go.Proofs.YtiajdnhmjdfeeaaGreat
/- The contracts of the exact laws' own helpers on slices of triples. -/
namespace Go.Proofs.YtiajdnhmjdfeeaaGreat
open Go.RowKit Go.WideShapes
/-- The place of a slice that has an element, and its cells. -/
theorem IsTris.cells {w : World} {a : Option Addr} {len cap : Nat} {ts : List Tri3} (h : IsTris w a len cap ts) (h0 : 0 < len) : ∃ b off, a = some ⟨b, off, none⟩ ∧ b < w.heap.size ∧ len ≤ cap ∧ cap ≤ maxLen ∧ ts.length = len ∧
    ∀ (i : Nat) (t : Tri3), ts[i]? = some t → w.cell? ⟨b, off + i * 3, none⟩ = some (.string t.1) ∧ w.cell? ⟨b, off + i * 3 + 1, none⟩ = some (.string t.2.1) ∧ w.cell? ⟨b, off + i * 3 + 2, none⟩ = some (.string t.2.2) ∧ t.1.size ≤ maxLen ∧ t.2.1.size ≤ maxLen ∧ t.2.2.size ≤ maxLen := by
  rcases h with ⟨_, rfl, _⟩ | ⟨x, rfl, h1, h2, h3, h4⟩
  · omega
  · obtain ⟨b, off, spot⟩ := x
    have ht : ts[0]? = some ts[0] := List.getElem?_eq_getElem (by omega)
    have hc := (h4 0 _ ht).1
    obtain rfl : spot = none := by simpa [Addr.add] using World.cell?_spot hc
    refine ⟨b, off, rfl, ?_, h1, h2, h3, fun i t hi => ?_⟩
    · have := World.block_lt_of_cell? _ _ hc
      simpa [Addr.add] using this
    · obtain ⟨c0, c1, c2, w0, w1, w2⟩ := h4 i t hi
      rw [add_plain] at c0 c1 c2
      rw [Nat.mul_comm] at c0 c1 c2
      exact ⟨c0, by rw [Nat.add_assoc]; exact c1, by rw [Nat.add_assoc]; exact c2, w0, w1, w2⟩
/-- What a size that is not below 0 says of the triples. -/
def Small (len : Nat) (ts : List Tri3) : Prop := len ≤ 1048576 ∧ ∀ t ∈ ts, t.1.size + t.2.1.size + t.2.2.size ≤ 1048576
def SzPost (left : Int) (len : Nat) (ts : List Tri3) (w : World) (e : Ending) (w' : World) : Prop :=
  ∃ n : Int, e = .returned (.int .i64 n) ∧ (n = -1 ∨ (0 ≤ n ∧ n ≤ left ∧ Small len ts)) ∧ Below w.heap.size w w'
set_option maxRecDepth 100000 in
set_option maxHeartbeats 1600000 in
theorem szTriS (a : Option Addr) (len cap : Nat) (ts : List Tri3) (w : World) (h : IsTris w a len cap ts) (left : Int) (h0 : 0 ≤ left) (h1 : left ≤ 1048576) (hlen : len ≤ 9223372036854775807) :
    Calls Tryz.prog 8 #[.slice a len cap, .int .i64 left] w (SzPost left len ts w) := by
  by_cases g : left - len < 0
  · clear h
    go_enter Tryz.func8, Tryz.ntmps8
    go_wp2_with fail
    go_ret
    exact ⟨-1, rfl, .inl rfl, Below.refl _ _⟩
  by_cases hz : len = 0
  · subst hz
    have hts : ts = [] := by
      rcases h with ⟨_, _, _, h⟩ | ⟨x, _, _, _, h, _⟩
      · exact h
      · exact List.length_eq_zero_iff.1 h
    subst hts
    clear h g
    go_enter Tryz.func8, Tryz.ntmps8
    go_wp2_with fail
    refine wp_loop_rounds 1 ?_
    rw [rounds_succ]
    go_wp2_with fail
    go_ret
    exact ⟨left, by simp, .inr ⟨h0, Int.le_refl _, by omega, by simp⟩, Below.refl _ _⟩
  · obtain ⟨b, off, rfl, hb, hl, hm, hts, hc⟩ := h.cells (by omega)
    unfold maxLen at hm hc
    have HC := Lib.hid hc
    have HT := Lib.hid hts
    clear hc h
    go_enter Tryz.func8, Tryz.ntmps8
    go_wp2_with fail
    go_loopw [1, 5] (fun l i wr => ∃ k : Nat, k ≤ len ∧ i = .int .i64 k ∧ (∃ q : Int, 0 ≤ q ∧ q ≤ left ∧ l = .int .i64 q) ∧ Hid (∀ t ∈ ts.take k, t.1.size + t.2.1.size + t.2.2.size ≤ 1048576) ∧ Below w.heap.size w wr) (fun _ i _ => len - (intOf i).toNat)
    case atStart => exact ⟨0, Nat.zero_le _, rfl, ⟨_, by omega, by omega, rfl⟩, Lib.hid (by simp), Below.refl _ _⟩
    case round =>
      obtain ⟨k, hk, rfl, ⟨q, hq0, hq1, rfl⟩, hsm, hnx⟩ := hrel
      by_cases hlt : k < len
      · have ht : ts[k]? = some ts[k] := List.getElem?_eq_getElem (by omega)
        have HS : Hid (ts.take (k + 1) = ts.take k ++ [ts[k]]) := Lib.hid (List.take_succ_eq_append_getElem (by omega))
        obtain ⟨c0, c1, c2, w0, w1, w2⟩ := HC.out k _ ht
        rw [← hnx.cell (p := ⟨b, _, none⟩) hb] at c0 c1 c2
        generalize ts[k] = t at c0 c1 c2 w0 w1 w2 HS
        clear ht
        have SZ := szTri t.1 t.2.1 t.2.2 q hq0 (by omega) w0 w1 w2
        by_cases hs : (t.1.size : Int) + t.2.1.size + t.2.2.size ≤ q
        · rw [szT_yes hs] at SZ
          have D := Lib.hid SZ
          have HN : Hid (∀ t ∈ ts.take (k + 1), t.1.size + t.2.1.size + t.2.2.size ≤ 1048576) := Lib.hid (by
            rw [HS.out]
            intro u hu
            rcases List.mem_append.1 hu with hu | hu
            · exact hsm.out u hu
            · obtain rfl : u = t := by simpa using hu
              omega)
          have hn0 : ¬ q - t.1.size - t.2.1.size - t.2.2.size < 0 := by omega
          clear SZ
          go_wp2_with fail
          refine (D.out _).mono ?_
          rintro e wn ⟨rfl, hbn⟩
          have B := hnx.trans (hbn.mono hnx.size)
          clear hbn hnx c0 c1 c2
          go_wp2_with fail
          go_roundw
          case rel => exact ⟨k + 1, by omega, by go_num, ⟨_, by omega, by omega, rfl⟩, HN, B⟩
          case measure => simp [intOf]; omega
        · rw [szT_no hs] at SZ
          have D := Lib.hid SZ
          clear SZ
          go_wp2_with fail
          refine (D.out _).mono ?_
          rintro e wn ⟨rfl, hbn⟩
          have B := hnx.trans (hbn.mono hnx.size)
          clear hbn hnx c0 c1 c2
          go_wp2_with fail
          go_ret
          exact ⟨-1, rfl, .inl rfl, B⟩
      · go_wp2_with fail
        go_ret
        exact ⟨q, rfl, .inr ⟨hq0, hq1, by omega, by have := hsm.out; rwa [List.take_of_length_le (by rw [HT.out]; omega)] at this⟩, hnx⟩
end Go.Proofs.YtiajdnhmjdfeeaaGreat
/- The contract of the exact laws' own copy of a slice of triples. -/
namespace Go.Proofs.YtiajdnhmjdfeeaaGreat
open Go.RowKit Go.WideShapes
def flat (ts : List Tri3) : List Value := ts.flatMap fun t => [.string t.1, .string t.2.1, .string t.2.2]
theorem flat_snoc (ts : List Tri3) (t : Tri3) : flat (ts ++ [t]) = flat ts ++ [.string t.1, .string t.2.1, .string t.2.2] := by simp [flat]
theorem flat_len (ts : List Tri3) : (flat ts).length = ts.length * 3 := by
  induction ts with
  | nil => rfl
  | cons t r ih => simp only [flat, List.flatMap_cons, List.length_append, List.length_cons, List.length_nil] at *; omega
theorem set3 {xs l : List Value} {k : Nat} (a b c : Value) (h : xs.take (k * 3) = l) (hl : k * 3 + 2 < xs.length) :
    (((xs.set (k * 3) a).set (k * 3 + 1) b).set (k * 3 + 2) c).take ((k + 1) * 3) = l ++ [a, b, c] := by
  subst h
  apply List.ext_getElem?
  intro i
  have hlen : (xs.take (k * 3)).length = k * 3 := by rw [List.length_take]; omega
  rw [List.getElem?_take]
  rcases Nat.lt_or_ge i (k * 3) with g | g
  · rw [if_pos (by omega), List.getElem?_append_left (by omega), List.getElem?_take, if_pos g, List.getElem?_set_ne (by omega), List.getElem?_set_ne (by omega), List.getElem?_set_ne (by omega)]
  · rw [List.getElem?_append_right (by omega), hlen]
    obtain rfl | rfl | rfl | g3 : i = k * 3 ∨ i = k * 3 + 1 ∨ i = k * 3 + 2 ∨ k * 3 + 3 ≤ i := by omega
    · rw [if_pos (by omega), List.getElem?_set_ne (by omega), List.getElem?_set_ne (by omega), List.getElem?_set_self (by omega)]; simp
    · rw [if_pos (by omega), List.getElem?_set_ne (by omega), List.getElem?_set_self (by simp; omega)]
      rw [show k * 3 + 1 - k * 3 = 1 from by omega]; rfl
    · rw [if_pos (by omega), List.getElem?_set_self (by simp; omega)]
      rw [show k * 3 + 2 - k * 3 = 2 from by omega]; rfl
    · rw [if_neg (by omega), List.getElem?_eq_none (by simp; omega)]
theorem infoTri : (Tryz.prog.info? 65).map (fun i => (i.zero, i.size, i.bytes)) = some (some (.agg #[.string ⟨#[]⟩, .string ⟨#[]⟩, .string ⟨#[]⟩]), 3, 48) := by kernel_rfl
/-- The call owns a slice of these triples. -/
def OwnT (B : Nat) (w : World) (v : Value) (ts : List Tri3) : Prop := w.ownsRow B 65 3 v ts.length (flat ts)
def CopyPost (ts : List Tri3) (w : World) (e : Ending) (w' : World) : Prop := ∃ v, e = .returned v ∧ OwnT w.heap.size w' v ts ∧ Below w.heap.size w w'
set_option maxRecDepth 100000 in
set_option maxHeartbeats 1600000 in
theorem toTriS (a : Option Addr) (len cap : Nat) (ts : List Tri3) (w : World) (h : IsTris w a len cap ts) (hs : len ≤ 1048576) :
    Calls Tryz.prog 11 #[.slice a len cap] w (CopyPost ts w) := by
  obtain ⟨i0, hi, hz0, hz1, hz2⟩ := info_parts infoTri
  have hts : ts.length = len := by
    rcases h with ⟨_, rfl, _, rfl⟩ | ⟨x, _, _, _, h, _⟩
    · rfl
    · exact h
  have HT := Lib.hid hts
  have H := Lib.hid h
  clear hts h
  go_enter Tryz.func11, Tryz.ntmps11
  go_wp2_with (at_make; refine wpList_make_full _ rfl _ _ 31 rfl w.heap.size 65 i0 _ 3 Tryz.underlying31 hi hz0 hz1 .i64 .i64 _ _ len rfl rfl rfl rfl ?c1 ?c2 (Nat.le_refl _) ?_)
  case c1 => rw [hz2]; omega
  case c2 => unfold maxLen; omega
  intro w0 hown0 hg0
  have hb0 : Below w.heap.size w w0 := (Below.refl _ _).grown hg0 (Nat.le_refl _) (by simp)
  have hsz0 := hg0.size
  clear hg0
  go_wp2_with fail
  go_loopw [4] (fun i wr => ∃ k : Nat, k ≤ len ∧ i = .int .i64 k ∧ (∃ xs : List Value, wr.ownsRow w.heap.size 65 3 (.slice (some ⟨w.heap.size, 0, none⟩) len len) len xs ∧ Hid (xs.take (k * 3) = flat (ts.take k))) ∧ Below w.heap.size w wr) (fun i _ => len - (intOf i).toNat)
  case atStart => exact ⟨0, Nat.zero_le _, rfl, ⟨_, hown0, Lib.hid (by simp [flat])⟩, hb0⟩
  case round =>
    obtain ⟨k, hk, rfl, ⟨xs, hown, hx⟩, hnx⟩ := hrel
    by_cases hlt : k < len
    · obtain ⟨b, off, rfl, hb, hl, hm, hts, hc⟩ := H.out.cells (by omega)
      have ht : ts[k]? = some ts[k] := List.getElem?_eq_getElem (by omega)
      have HS : Hid (ts.take (k + 1) = ts.take k ++ [ts[k]]) := Lib.hid (List.take_succ_eq_append_getElem (by omega))
      obtain ⟨c0, c1, c2, m0, m1, m2⟩ := hc k _ ht
      clear m0 m1 m2
      rw [← hnx.cell (p := ⟨b, _, none⟩) hb] at c0 c1 c2
      generalize ts[k] = t at c0 c1 c2 HS
      clear ht hts hc hm
      go_wp2_with fail
      refine (toTri t.1 t.2.1 t.2.2 _).mono ?_
      rintro e wn ⟨rfl, hbn⟩
      have B := hnx.trans (hbn.mono hnx.size)
      have O := hown.kept (grown_of_below hbn) (.inr (by simp [Value.ownBlock]))
      clear hbn hown hnx c0 c1 c2
      have hxl : xs.length = len * 3 := O.1
      have e0 : wn.cell? ⟨w.heap.size, k * 3, none⟩ = some (xs[k * 3]'(by omega)) := by rw [O.cellAt _ (by omega), List.getElem?_eq_getElem (by omega)]
      have e1 : wn.cell? ⟨w.heap.size, k * 3 + 1, none⟩ = some (xs[k * 3 + 1]'(by omega)) := by rw [O.cellAt _ (by omega), List.getElem?_eq_getElem (by omega)]
      have e2 : wn.cell? ⟨w.heap.size, k * 3 + 2, none⟩ = some (xs[k * 3 + 2]'(by omega)) := by rw [O.cellAt _ (by omega), List.getElem?_eq_getElem (by omega)]
      have f0 := O.frozenAt (k * 3)
      have f1 := O.frozenAt (k * 3 + 1)
      have f2 := O.frozenAt (k * 3 + 2)
      have O1 := (O.stored (k * 3) (.string t.1)).1
      have O2 := (O1.stored (k * 3 + 1) (.string t.2.1)).1
      have O3 := (O2.stored (k * 3 + 2) (.string t.2.2)).1
      have HX : Hid ((((xs.set (k * 3) (.string t.1)).set (k * 3 + 1) (.string t.2.1)).set (k * 3 + 2) (.string t.2.2)).take ((k + 1) * 3) = flat (ts.take (k + 1))) := Lib.hid (by
        rw [HS.out, flat_snoc]; exact set3 _ _ _ hx.out (by omega))
      have B3 := ((B.setCell (p := ⟨w.heap.size, k * 3, none⟩) (Nat.le_refl _) (.string t.1)).setCell (p := ⟨w.heap.size, k * 3 + 1, none⟩) (Nat.le_refl _) (.string t.2.1)).setCell (p := ⟨w.heap.size, k * 3 + 2, none⟩) (Nat.le_refl _) (.string t.2.2)
      have HXL := Lib.hid hxl
      generalize xs[k * 3]'(by omega) = z0 at e0
      generalize xs[k * 3 + 1]'(by omega) = z1 at e1
      generalize xs[k * 3 + 2]'(by omega) = z2 at e2
      clear O O1 O2 hxl B
      go_wp2_with fail
      go_roundw
      case rel => exact ⟨k + 1, by omega, by go_num, ⟨_, O3, HX⟩, B3⟩
      case measure => simp [intOf]; omega
    · have HX : Hid (xs = flat ts) := Lib.hid (by
        have := hx.out
        have hxl : xs.length = len * 3 := hown.1
        rwa [List.take_of_length_le (by rw [hxl]; omega), List.take_of_length_le (by rw [HT.out]; omega)] at this)
      go_wp2_with fail
      go_ret
      exact ⟨_, rfl, by unfold OwnT; rw [← HX.out, HT.out]; exact hown, hnx⟩
end Go.Proofs.YtiajdnhmjdfeeaaGreat
