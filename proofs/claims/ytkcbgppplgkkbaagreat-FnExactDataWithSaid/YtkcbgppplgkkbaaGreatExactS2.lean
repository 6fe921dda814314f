/- The contract of the exact laws' own copy of a slice of triples. -/
import Derived.Test.YtkcbgppplgkkbaaGreatExactS
namespace Go.Proofs.YtkcbgppplgkkbaaGreat
open Go.RowKit Go.WideShapes
def flat (ts : List Tri3) : List Value := ts.flatMap fun t => [.string t.1, .string t.2.1, .string t.2.2]
theorem flat_snoc (ts : List Tri3) (t : Tri3) : flat (ts ++ [t]) = flat ts ++ [.string t.1, .string t.2.1, .string t.2.2] := by simp [flat]
theorem flat_len (ts : List Tri3) : (flat ts).length = ts.length * 3 := by
  induction ts with
  | nil => rfl
  | cons t r ih => simp only [flat, List.flatMap_cons, List.length_append, List.length_cons, List.length_nil] at *; omega
theorem set3 {xs l : List Value} {k : Nat} (a b c : Value) (h : xs.take (k * 3) = l) (hl : k * 3 + 2 < xs.length) :
    (((xs.set (k * 3) a).set (k * 3 + 1) b).set (k * 3 + 2) c).take ((k + 1) * 3) = l ++ [a, b, c] := by
  subst h
  apply List.ext_getElem?
  intro i
  have hlen : (xs.take (k * 3)).length = k * 3 := by rw [List.length_take]; omega
  rw [List.getElem?_take]
  rcases Nat.lt_or_ge i (k * 3) with g | g
  · rw [if_pos (by omega), List.getElem?_append_left (by omega), List.getElem?_take, if_pos g, List.getElem?_set_ne (by omega), List.getElem?_set_ne (by omega), List.getElem?_set_ne (by omega)]
  · rw [List.getElem?_append_right (by omega), hlen]
    obtain rfl | rfl | rfl | g3 : i = k * 3 ∨ i = k * 3 + 1 ∨ i = k * 3 + 2 ∨ k * 3 + 3 ≤ i := by omega
    · rw [if_pos (by omega), List.getElem?_set_ne (by omega), List.getElem?_set_ne (by omega), List.getElem?_set_self (by omega)]; simp
    · rw [if_pos (by omega), List.getElem?_set_ne (by omega), List.getElem?_set_self (by simp; omega)]
      rw [show k * 3 + 1 - k * 3 = 1 from by omega]; rfl
    · rw [if_pos (by omega), List.getElem?_set_self (by simp; omega)]
      rw [show k * 3 + 2 - k * 3 = 2 from by omega]; rfl
    · rw [if_neg (by omega), List.getElem?_eq_none (by simp; omega)]
theorem infoTri : (Tryz.prog.info? 31).map (fun i => (i.zero, i.size, i.bytes)) = some (some (.agg #[.string ⟨#[]⟩, .string ⟨#[]⟩, .string ⟨#[]⟩]), 3, 48) := by kernel_rfl
/-- The call owns a slice of these triples. -/
def OwnT (B : Nat) (w : World) (v : Value) (ts : List Tri3) : Prop := w.ownsRow B 31 3 v ts.length (flat ts)
def CopyPost (ts : List Tri3) (w : World) (e : Ending) (w' : World) : Prop := ∃ v, e = .returned v ∧ OwnT w.heap.size w' v ts ∧ Below w.heap.size w w'
set_option maxRecDepth 100000 in
set_option maxHeartbeats 1600000 in
theorem toTriS (a : Option Addr) (len cap : Nat) (ts : List Tri3) (w : World) (h : IsTris w a len cap ts) (hs : len ≤ 1048576) :
    Calls Tryz.prog 40 #[.slice a len cap] w (CopyPost ts w) := by
  obtain ⟨i0, hi, hz0, hz1, hz2⟩ := info_parts infoTri
  have hts : ts.length = len := by
    rcases h with ⟨_, rfl, _, rfl⟩ | ⟨x, _, _, _, h, _⟩
    · rfl
    · exact h
  have HT := Lib.hid hts
  have H := Lib.hid h
  clear hts h
  go_enter Tryz.func40, Tryz.ntmps40
  go_wp2_with (at_make; refine wpList_make_full _ rfl _ _ 42 rfl w.heap.size 31 i0 _ 3 Tryz.underlying42 hi hz0 hz1 .i64 .i64 _ _ len rfl rfl rfl rfl ?c1 ?c2 (Nat.le_refl _) ?_)
  case c1 => rw [hz2]; omega
  case c2 => unfold maxLen; omega
  intro w0 hown0 hg0
  have hb0 : Below w.heap.size w w0 := (Below.refl _ _).grown hg0 (Nat.le_refl _) (by simp)
  have hsz0 := hg0.size
  clear hg0
  go_wp2_with fail
  go_loopw [4] (fun i wr => ∃ k : Nat, k ≤ len ∧ i = .int .i64 k ∧ (∃ xs : List Value, wr.ownsRow w.heap.size 31 3 (.slice (some ⟨w.heap.size, 0, none⟩) len len) len xs ∧ Hid (xs.take (k * 3) = flat (ts.take k))) ∧ Below w.heap.size w wr) (fun i _ => len - (intOf i).toNat)
  case atStart => exact ⟨0, Nat.zero_le _, rfl, ⟨_, hown0, Lib.hid (by simp [flat])⟩, hb0⟩
  case round =>
    obtain ⟨k, hk, rfl, ⟨xs, hown, hx⟩, hnx⟩ := hrel
    by_cases hlt : k < len
    · obtain ⟨b, off, rfl, hb, hl, hm, hts, hc⟩ := H.out.cells (by omega)
      have ht : ts[k]? = some ts[k] := List.getElem?_eq_getElem (by omega)
      have HS : Hid (ts.take (k + 1) = ts.take k ++ [ts[k]]) := Lib.hid (List.take_succ_eq_append_getElem (by omega))
      obtain ⟨c0, c1, c2, m0, m1, m2⟩ := hc k _ ht
      clear m0 m1 m2
      rw [← hnx.cell (p := ⟨b, _, none⟩) hb] at c0 c1 c2
      generalize ts[k] = t at c0 c1 c2 HS
      clear ht hts hc hm
      go_wp2_with fail
      refine (toTri t.1 t.2.1 t.2.2 _).mono ?_
      rintro e wn ⟨rfl, hbn⟩
      have B := hnx.trans (hbn.mono hnx.size)
      have O := hown.kept (grown_of_below hbn) (.inr (by simp [Value.ownBlock]))
      clear hbn hown hnx c0 c1 c2
      have hxl : xs.length = len * 3 := O.1
      have e0 : wn.cell? ⟨w.heap.size, k * 3, none⟩ = some (xs[k * 3]'(by omega)) := by rw [O.cellAt _ (by omega), List.getElem?_eq_getElem (by omega)]
      have e1 : wn.cell? ⟨w.heap.size, k * 3 + 1, none⟩ = some (xs[k * 3 + 1]'(by omega)) := by rw [O.cellAt _ (by omega), List.getElem?_eq_getElem (by omega)]
      have e2 : wn.cell? ⟨w.heap.size, k * 3 + 2, none⟩ = some (xs[k * 3 + 2]'(by omega)) := by rw [O.cellAt _ (by omega), List.getElem?_eq_getElem (by omega)]
      have f0 := O.frozenAt (k * 3)
      have f1 := O.frozenAt (k * 3 + 1)
      have f2 := O.frozenAt (k * 3 + 2)
      have O1 := (O.stored (k * 3) (.string t.1)).1
      have O2 := (O1.stored (k * 3 + 1) (.string t.2.1)).1
      have O3 := (O2.stored (k * 3 + 2) (.string t.2.2)).1
      have HX : Hid ((((xs.set (k * 3) (.string t.1)).set (k * 3 + 1) (.string t.2.1)).set (k * 3 + 2) (.string t.2.2)).take ((k + 1) * 3) = flat (ts.take (k + 1))) := Lib.hid (by
        rw [HS.out, flat_snoc]; exact set3 _ _ _ hx.out (by omega))
      have B3 := ((B.setCell (p := ⟨w.heap.size, k * 3, none⟩) (Nat.le_refl _) (.string t.1)).setCell (p := ⟨w.heap.size, k * 3 + 1, none⟩) (Nat.le_refl _) (.string t.2.1)).setCell (p := ⟨w.heap.size, k * 3 + 2, none⟩) (Nat.le_refl _) (.string t.2.2)
      have HXL := Lib.hid hxl
      generalize xs[k * 3]'(by omega) = z0 at e0
      generalize xs[k * 3 + 1]'(by omega) = z1 at e1
      generalize xs[k * 3 + 2]'(by omega) = z2 at e2
      clear O O1 O2 hxl B
      go_wp2_with fail
      go_roundw
      case rel => exact ⟨k + 1, by omega, by go_num, ⟨_, O3, HX⟩, B3⟩
      case measure => simp [intOf]; omega
    · have HX : Hid (xs = flat ts) := Lib.hid (by
        have := hx.out
        have hxl : xs.length = len * 3 := hown.1
        rwa [List.take_of_length_le (by rw [hxl]; omega), List.take_of_length_le (by rw [HT.out]; omega)] at this)
      go_wp2_with fail
      go_ret
      exact ⟨_, rfl, by unfold OwnT; rw [← HX.out, HT.out]; exact hown, hnx⟩
end Go.Proofs.YtkcbgppplgkkbaaGreat
