/- What the drawn terms are: texts of a bounded length; of what was there only the reader's own block is written. -/
import Derived.Test.YtinmjbgljgljkaaRd
import Derived.Test.YtinmjbgljgljkaaEsc
import Derived.Deep.RegionWith
import Derived.IntWalk
namespace Go.Proofs.Ytinmjbgljgljkaa
open Go.RowKit Go.WideShapes
theorem undrew {w w' : World} {r : Option Nat} (h : w.drew.grownBy w' r) : w.grownBy w' r := ⟨h.os, h.tape, h.output, h.size, h.block⟩
def strsOk (L K : Nat) (cs : List Value) : Bool := cs.all fun | .string s => decide (L ≤ s.size ∧ s.size ≤ K) | _ => false
theorem strs_cell {w w1 : World} {cs : List Value} {T g : Nat} (hg : (w.alloc (.cells cs.toArray T)).grownBy w1 (some g)) (hgw : g < w.heap.size) (L K : Nat) (hall : strsOk L K cs = true) (m : Nat) (hm : m < cs.length) :
    ∃ s : ByteArray, (L ≤ s.size ∧ s.size ≤ K) ∧ w1.cell? ⟨w.heap.size, m, none⟩ = some (.string s) := by
  have h1 := List.all_eq_true.1 hall cs[m] (List.getElem_mem hm)
  split at h1
  · rename_i s hs
    refine ⟨s, by simpa using h1, hg.cell ?_ (by simp; omega)⟩
    rw [World.cell?_alloc_at _ _ _ _ rfl]
    simp [List.getElem?_eq_getElem hm, hs]
  · simp at h1
set_option maxHeartbeats 400000 in
theorem rdContent (B g : Nat) (w : World) (h : Rd B w g) :
    Calls Try.prog 93 #[.pointer (some ⟨g, 0, none⟩)] w fun e w' => ∃ s : ByteArray, 0 ≤ s.size ∧ s.size ≤ 6 ∧ e = .returned (.string s) ∧ Rd B w' g ∧ w.grownBy w' (some g) := by
  have hgw := h.2.1
  go_enter Try.func93, Try.ntmps93
  go_wp2_with fail
  refine (rdBelow B g _ (h.alloc _) 6 (by omega) (by omega)).mono ?_
  rintro e w1 ⟨m, hm, hm2, rfl, hr, hg⟩
  obtain ⟨m, rfl⟩ := Int.eq_ofNat_of_zero_le hm
  obtain ⟨s, hs, hc⟩ := strs_cell hg hgw 0 6 rfl m (by simp; omega)
  go_wp2_with fail
  go_ret
  exact ⟨s, hs.1, hs.2, rfl, hr, ((World.grownBy_alloc _ _ _).trans hg)⟩
set_option maxHeartbeats 400000 in
theorem rdName (B g : Nat) (w : World) (h : Rd B w g) :
    Calls Try.prog 84 #[.pointer (some ⟨g, 0, none⟩)] w fun e w' => ∃ s : ByteArray, 1 ≤ s.size ∧ s.size ≤ 6 ∧ e = .returned (.string s) ∧ Rd B w' g ∧ w.grownBy w' (some g) := by
  have hgw := h.2.1
  go_enter Try.func84, Try.ntmps84
  go_wp2_with fail
  refine (rdBelow B g _ (h.alloc _) 5 (by omega) (by omega)).mono ?_
  rintro e w1 ⟨m, hm, hm2, rfl, hr, hg⟩
  obtain ⟨m, rfl⟩ := Int.eq_ofNat_of_zero_le hm
  obtain ⟨s, hs, hc⟩ := strs_cell hg hgw 1 6 rfl m (by simp; omega)
  go_wp2_with fail
  go_ret
  exact ⟨s, hs.1, hs.2, rfl, hr, ((World.grownBy_alloc _ _ _).trans hg)⟩
set_option maxHeartbeats 400000 in
theorem rdPred (B g : Nat) (w : World) (h : Rd B w g) :
    Calls Try.prog 83 #[.pointer (some ⟨g, 0, none⟩)] w fun e w' => ∃ s : ByteArray, 1 ≤ s.size ∧ s.size ≤ 6 ∧ e = .returned (.string s) ∧ Rd B w' g ∧ w.grownBy w' (some g) := by
  have hgw := h.2.1
  go_enter Try.func83, Try.ntmps83
  go_wp2_with fail
  refine (rdBelow B g _ (h.alloc _) 7 (by omega) (by omega)).mono ?_
  rintro e w1 ⟨m, hm, hm2, rfl, hr, hg⟩
  obtain ⟨m, rfl⟩ := Int.eq_ofNat_of_zero_le hm
  obtain ⟨s, hs, hc⟩ := strs_cell hg hgw 1 6 rfl m (by simp; omega)
  go_wp2_with fail
  go_ret
  exact ⟨s, hs.1, hs.2, rfl, hr, ((World.grownBy_alloc _ _ _).trans hg)⟩
set_option maxHeartbeats 400000 in
theorem rdThing (B g : Nat) (w : World) (h : Rd B w g) :
    Calls Try.prog 82 #[.pointer (some ⟨g, 0, none⟩)] w fun e w' => ∃ s : ByteArray, s.size ≤ 20 ∧ 1 ≤ s.size ∧ e = .returned (.string s) ∧ Rd B w' g ∧ w.grownBy w' (some g) := by
  have hgw := h.2.1
  go_enter Try.func82, Try.ntmps82
  go_wp2_with fail
  refine (rdBelow B g _ h 6 (by omega) (by omega)).mono ?_
  rintro e w1 ⟨m, hm, hm2, rfl, hr, hg⟩
  have hg1 := hr.2.1
  by_cases h0 : m = 0
  · subst h0
    go_wp2_with fail
    refine (rdBelow B g _ (hr.alloc _) 3 (by omega) (by omega)).mono ?_
    rintro e w2 ⟨m, hm, hm2, rfl, hr2, hg2⟩
    obtain ⟨m, rfl⟩ := Int.eq_ofNat_of_zero_le hm
    obtain ⟨s, hs, hc⟩ := strs_cell hg2 hg1 0 1 rfl m (by simp; omega)
    go_wp2_with fail
    go_ret
    exact ⟨_, by (simp [lit_size]; try omega), by (simp [lit_size]; try omega), rfl, hr2, (hg.trans (World.grownBy_alloc _ _ _)).trans hg2⟩
  by_cases h1 : m = 1
  · subst h1
    go_wp2_with fail
    refine (rdContent B g _ hr).mono ?_
    rintro e w2 ⟨s, hs1, hs, rfl, hr2, hg2⟩
    go_wp2_with fail
    refine (specEscaped s _ (by omega)).mono ?_
    rintro e w3 ⟨rfl, rfl⟩
    have hl := (esc_len s.data.toList).2
    rw [size_len] at hl
    have hl2 : (bs (esc s.data.toList)).size ≤ 12 := by rw [bs_size]; omega
    clear hl
    go_wp2_with fail
    go_ret
    exact ⟨_, by (simp [lit_size]; try omega), by (simp [lit_size]; try omega), rfl, hr2, hg.trans hg2⟩
  · have e0 : (m == 0) = false := by simpa using h0
    have e1 : (m == 1) = false := by simpa using h1
    go_wp2_with fail
    refine (rdName B g _ hr).mono ?_
    rintro e w2 ⟨s, hs1, hs, rfl, hr2, hg2⟩
    go_wp2_with fail
    go_ret
    exact ⟨s, by omega, hs1, rfl, hr2, hg.trans hg2⟩
end Go.Proofs.Ytinmjbgljgljkaa
