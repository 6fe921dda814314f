/- Slices of triples become one map of them; such a map becomes a graph. -/
import Derived.Test.YtkcbgppplgkkbaaSet
import Derived.Test.YtkcbgppplgkkbaaSetM
namespace Go.Proofs.Ytkcbgppplgkkbaa
open Go.RowKit Go.WideShapes Go.Maps
/-- A slice as a value's parts, and the triples that its cells hold. -/
abbrev Sl := Option Addr × Nat × Nat × List Tri3
def allT (LS : List Sl) : List Tri3 := LS.flatMap fun x => x.2.2.2
theorem allT_snoc (LS : List Sl) (x : Sl) : allT (LS ++ [x]) = allT LS ++ x.2.2.2 := by simp [allT]
theorem allT_take_le (LS : List Sl) (j : Nat) : (allT (LS.take j)).length ≤ (allT LS).length := by
  have : allT LS = allT (LS.take j) ++ allT (LS.drop j) := by unfold allT; rw [← List.flatMap_append, List.take_append_drop]
  rw [this, List.length_append]; omega
set_option maxRecDepth 100000 in
set_option maxHeartbeats 1600000 in
theorem implTripleSet (B n : Nat) (LS : List Sl) (w : World) (hn : LS.length = n) (hB : B < w.heap.size) (hn2 : n ≤ 2) (hT : (allT LS).length ≤ 1000)
    (hLS : ∀ (i : Nat) (x : Sl), LS[i]? = some x → w.cell? ⟨B, i, none⟩ = some (.slice x.1 x.2.1 x.2.2.1) ∧ IsTris w x.1 x.2.1 x.2.2.1 x.2.2.2) :
    Calls Try.prog 32 #[.slice (some ⟨B, 0, none⟩) n n] w fun e w' => ∃ b m, e = .returned (.map (some b)) ∧ w.heap.size ≤ b ∧ m ≤ 1000 ∧ OwnSet w' b m (addAll [] (allT LS)) ∧ Below w.heap.size w w' := by
  have hmm := @run_makeMap Try.prog
  have O0 := OwnSet.made w
  have B0 : Below w.heap.size w (w.alloc (.map #[] 0)) := (Below.refl w.heap.size w).alloc (Nat.le_refl _) _
  have HLS := Lib.hid hLS
  have HN := Lib.hid hn
  have HT := Lib.hid hT
  clear hLS hn hT
  go_enter Try.func32, Try.ntmps32
  go_wp2_with fail
  clear hmm
  go_loopw [11] (fun i wr => ∃ j : Nat, j ≤ n ∧ i = .int .i64 j ∧ Hid (OwnSet wr w.heap.size (allT (LS.take j)).length (addAll [] (allT (LS.take j)))) ∧ Below w.heap.size w wr) (fun i _ => n - (intOf i).toNat)
  case atStart => exact ⟨0, Nat.zero_le _, rfl, Lib.hid (by simpa [allT, addAll] using O0), B0⟩
  case round =>
    obtain ⟨j, hj, rfl, hown, hnx⟩ := hrel
    clear O0 B0
    by_cases hlt : j < n
    · have hx : LS[j]? = some (LS[j]'(by rw [HN.out]; exact hlt)) := List.getElem?_eq_getElem (by rw [HN.out]; exact hlt)
      obtain ⟨hc, his⟩ := HLS.out j _ hx
      have HS : Hid (LS.take (j + 1) = LS.take j ++ [LS[j]'(by rw [HN.out]; exact hlt)]) := Lib.hid (List.take_succ_eq_append_getElem (by rw [HN.out]; exact hlt))
      generalize LS[j]'(by rw [HN.out]; exact hlt) = x at hx hc his HS
      obtain ⟨a, len, cap, ts⟩ := x
      simp only at hc his
      have HA : Hid (allT (LS.take (j + 1)) = allT (LS.take j) ++ ts) := Lib.hid (by rw [HS.out, allT_snoc])
      have hle := allT_take_le LS (j + 1)
      have hsum : (allT (LS.take j)).length + ts.length ≤ 1000 := by
        rw [HA.out, List.length_append] at hle; have := HT.out; omega
      obtain ⟨p, hp⟩ : ∃ p, allT (LS.take j) = p := ⟨_, rfl⟩
      rw [hp] at HA hown hsum
      have hlen := his.len
      have hl1000 : len ≤ 1000 := by omega
      have HI := Lib.hid his
      have HL := Lib.hid hlen
      rw [← hnx.cell (p := ⟨B, j, none⟩) hB] at hc
      clear hx his hlen hp hle HS
      have hj6 : (0 : Int) ≤ (j : Int) := by omega
      have hj7 : (j : Int) < (n : Int) := by omega
      go_wp2_with fail
      obtain ⟨wo, hwo⟩ : ∃ wo : World, wo = wr := ⟨_, rfl⟩
      go_loopw [17] (fun i w2 => ∃ k : Nat, k ≤ len ∧ i = .int .i64 k ∧ Hid (OwnSet w2 w.heap.size (p.length + k) (addAll [] (p ++ ts.take k))) ∧ Below w.heap.size w w2) (fun i _ => len - (intOf i).toNat)
      case atStart => exact ⟨0, Nat.zero_le _, rfl, Lib.hid (by simpa using hown.out), hnx⟩
      case round =>
        obtain ⟨k, hk, rfl, hown2, hnx2⟩ := hrel
        clear hown hnx hc hwo
        by_cases hlt2 : k < len
        · obtain ⟨b, off, rfl, hb, hl, hm, hts, hcs⟩ := HI.out.cells (by omega)
          have ht : ts[k]? = some (ts[k]'(by omega)) := List.getElem?_eq_getElem (by omega)
          have HS : Hid (ts.take (k + 1) = ts.take k ++ [ts[k]'(by omega)]) := Lib.hid (List.take_succ_eq_append_getElem (by omega))
          obtain ⟨c0, c1, c2, m0, m1, m2⟩ := hcs k _ ht
          generalize ts[k]'(by omega) = t at c0 c1 c2 m0 m1 m2 HS
          have hsk : SmK t := ⟨m0, m1, m2⟩
          have HX : Hid (addAll [] (p ++ ts.take (k + 1)) = addT (addAll [] (p ++ ts.take k)) t) := Lib.hid (by rw [HS.out, ← List.append_assoc, addAll_snoc])
          obtain ⟨acc, hacc⟩ : ∃ acc, addAll [] (p ++ ts.take k) = acc := ⟨_, rfl⟩
          rw [hacc] at HX hown2
          rw [← hnx2.cell (p := ⟨b, _, none⟩) hb] at c0 c1 c2
          obtain ⟨t0, t1, t2⟩ := t
          simp only at c0 c1 c2
          clear ht hts hcs m0 m1 m2 hacc HS
          have hk6 : (0 : Int) ≤ (k : Int) := by omega
          have hk7 : (k : Int) < (len : Int) := by omega
          have hml : p.length + k < maxLen := by unfold maxLen; omega
          have O1 := Lib.hid (hown2.out.alloc (.cells #[.string t0, .string t1, .string t2] 53))
          have B1 := hnx2.alloc hnx2.size (.cells #[.string t0, .string t1, .string t2] 53)
          clear hown2 hnx2
          go_wp2_with (at_mapUpdate; refine wpList_putG _ rfl _ _ _ rfl w.heap.size (p.length + k) acc rfl O1.out hml (t0, t1, t2) hsk rfl rfl ?_)
          intro w4 hown4 hg4
          have B4 : Below w.heap.size w w4 := B1.grown hg4 B1.size (fun r e => by cases e; exact Nat.le_refl _)
          have H4 : Hid (OwnSet w4 w.heap.size (p.length + (k + 1)) (addAll [] (p ++ ts.take (k + 1)))) := Lib.hid (by rw [HX.out]; exact hown4)
          clear hown4 hg4 O1 B1 HX c0 c1 c2
          go_wp2_with fail
          go_roundw
          case rel => exact ⟨k + 1, by omega, by go_num, H4, B4⟩
          case measure => simp [intOf]; omega
        · obtain rfl : k = len := by omega
          have H4 : Hid (OwnSet wr w.heap.size (allT (LS.take (j + 1))).length (addAll [] (allT (LS.take (j + 1))))) := Lib.hid (by
            have := hown2.out
            rw [List.take_of_length_le (by rw [HL.out]; exact Nat.le_refl _)] at this
            rw [HA.out, List.length_append, HL.out]; exact this)
          clear hown2
          go_wp2_with fail
          go_roundw
          case rel => exact ⟨j + 1, by omega, by go_num, H4, hnx2⟩
          case measure => simp [intOf]; omega
    · obtain rfl : j = n := by omega
      have H4 : Hid (OwnSet wr w.heap.size (allT LS).length (addAll [] (allT LS))) := Lib.hid (by
        have := hown.out
        rwa [List.take_of_length_le (by rw [HN.out]; exact Nat.le_refl _)] at this)
      go_wp2_with fail
      go_ret
      exact ⟨_, _, rfl, Nat.le_refl _, HT.out, H4.out, hnx⟩
end Go.Proofs.Ytkcbgppplgkkbaa
