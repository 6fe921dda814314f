/- What the drawn terms are: texts of a bounded length; of what was there only the reader's own block is written. -/
import Derived.Test.YtfigcefdkdlcaaaRd
import Derived.Test.YtfigcefdkdlcaaaEsc
import Derived.Deep.RegionWith
import Derived.IntWalk
namespace Go.Proofs.Ytfigcefdkdlcaaa
open Go.RowKit Go.WideShapes
theorem undrew {w w' : World} {r : Option Nat} (h : w.drew.grownBy w' r) : w.grownBy w' r := ⟨h.os, h.tape, h.output, h.size, h.block⟩
def strsOk (L K : Nat) (cs : List Value) : Bool := cs.all fun | .string s => decide (L ≤ s.size ∧ s.size ≤ K) | _ => false
theorem strs_cell {w w1 : World} {cs : List Value} {T g : Nat} (hg : (w.alloc (.cells cs.toArray T)).grownBy w1 (some g)) (hgw : g < w.heap.size) (L K : Nat) (hall : strsOk L K cs = true) (m : Nat) (hm : m < cs.length) :
    ∃ s : ByteArray, (L ≤ s.size ∧ s.size ≤ K) ∧ w1.cell? ⟨w.heap.size, m, none⟩ = some (.string s) := by
  have h1 := List.all_eq_true.1 hall cs[m] (List.getElem_mem hm)
  split at h1
  · rename_i s hs
    refine ⟨s, by simpa using h1, hg.cell ?_ (by simp; omega)⟩
    rw [World.cell?_alloc_at _ _ _ _ rfl]
    simp [List.getElem?_eq_getElem hm, hs]
  · simp at h1
set_option maxHeartbeats 400000 in
theorem rdContent (B g : Nat) (w : World) (h : Rd B w g) :
    Calls Try.prog 60 #[.pointer (some ⟨g, 0, none⟩)] w fun e w' => ∃ s : ByteArray, 0 ≤ s.size ∧ s.size ≤ 6 ∧ e = .returned (.string s) ∧ Rd B w' g ∧ w.grownBy w' (some g) := by
  have hgw := h.2.1
  go_enter Try.func60, Try.ntmps60
  go_wp2_with fail
  refine (rdBelow B g _ (h.alloc _) 6 (by omega) (by omega)).mono ?_
  rintro e w1 ⟨m, hm, hm2, rfl, hr, hg⟩
  obtain ⟨m, rfl⟩ := Int.eq_ofNat_of_zero_le hm
  obtain ⟨s, hs, hc⟩ := strs_cell hg hgw 0 6 rfl m (by simp; omega)
  go_wp2_with fail
  go_ret
  exact ⟨s, hs.1, hs.2, rfl, hr, ((World.grownBy_alloc _ _ _).trans hg)⟩
set_option maxHeartbeats 400000 in
theorem rdName (B g : Nat) (w : World) (h : Rd B w g) :
    Calls Try.prog 87 #[.pointer (some ⟨g, 0, none⟩)] w fun e w' => ∃ s : ByteArray, 1 ≤ s.size ∧ s.size ≤ 6 ∧ e = .returned (.string s) ∧ Rd B w' g ∧ w.grownBy w' (some g) := by
  have hgw := h.2.1
  go_enter Try.func87, Try.ntmps87
  go_wp2_with fail
  refine (rdBelow B g _ (h.alloc _) 5 (by omega) (by omega)).mono ?_
  rintro e w1 ⟨m, hm, hm2, rfl, hr, hg⟩
  obtain ⟨m, rfl⟩ := Int.eq_ofNat_of_zero_le hm
  obtain ⟨s, hs, hc⟩ := strs_cell hg hgw 1 6 rfl m (by simp; omega)
  go_wp2_with fail
  go_ret
  exact ⟨s, hs.1, hs.2, rfl, hr, ((World.grownBy_alloc _ _ _).trans hg)⟩
set_option maxHeartbeats 400000 in
theorem rdPred (B g : Nat) (w : World) (h : Rd B w g) :
    Calls Try.prog 91 #[.pointer (some ⟨g, 0, none⟩)] w fun e w' => ∃ s : ByteArray, 1 ≤ s.size ∧ s.size ≤ 6 ∧ e = .returned (.string s) ∧ Rd B w' g ∧ w.grownBy w' (some g) := by
  have hgw := h.2.1
  go_enter Try.func91, Try.ntmps91
  go_wp2_with fail
  refine (rdBelow B g _ (h.alloc _) 7 (by omega) (by omega)).mono ?_
  rintro e w1 ⟨m, hm, hm2, rfl, hr, hg⟩
  obtain ⟨m, rfl⟩ := Int.eq_ofNat_of_zero_le hm
  obtain ⟨s, hs, hc⟩ := strs_cell hg hgw 1 6 rfl m (by simp; omega)
  go_wp2_with fail
  go_ret
  exact ⟨s, hs.1, hs.2, rfl, hr, ((World.grownBy_alloc _ _ _).trans hg)⟩
set_option maxHeartbeats 400000 in
theorem rdThing (B g : Nat) (w : World) (h : Rd B w g) :
    Calls Try.prog 65 #[.pointer (some ⟨g, 0, none⟩)] w fun e w' => ∃ s : ByteArray, s.size ≤ 20 ∧ 1 ≤ s.size ∧ e = .returned (.string s) ∧ Rd B w' g ∧ w.grownBy w' (some g) := by
  have hgw := h.2.1
  go_enter Try.func65, Try.ntmps65
  go_wp2_with fail
  refine (rdBelow B g _ h 6 (by omega) (by omega)).mono ?_
  rintro e w1 ⟨m, hm, hm2, rfl, hr, hg⟩
  have hg1 := hr.2.1
  by_cases h0 : m = 0
  · subst h0
    go_wp2_with fail
    refine (rdBelow B g _ (hr.alloc _) 3 (by omega) (by omega)).mono ?_
    rintro e w2 ⟨m, hm, hm2, rfl, hr2, hg2⟩
    obtain ⟨m, rfl⟩ := Int.eq_ofNat_of_zero_le hm
    obtain ⟨s, hs, hc⟩ := strs_cell hg2 hg1 0 1 rfl m (by simp; omega)
    go_wp2_with fail
    go_ret
    exact ⟨_, by (simp [lit_size]; try omega), by (simp [lit_size]; try omega), rfl, hr2, (hg.trans (World.grownBy_alloc _ _ _)).trans hg2⟩
  by_cases h1 : m = 1
  · subst h1
    go_wp2_with fail
    refine (rdContent B g _ hr).mono ?_
    rintro e w2 ⟨s, hs1, hs, rfl, hr2, hg2⟩
    go_wp2_with fail
    refine (specEscaped s _ (by omega)).mono ?_
    rintro e w3 ⟨rfl, rfl⟩
    have hl := (esc_len s.data.toList).2
    rw [size_len] at hl
    have hl2 : (bs (esc s.data.toList)).size ≤ 12 := by rw [bs_size]; omega
    clear hl
    go_wp2_with fail
    go_ret
    exact ⟨_, by (simp [lit_size]; try omega), by (simp [lit_size]; try omega), rfl, hr2, hg.trans hg2⟩
  · have e0 : (m == 0) = false := by simpa using h0
    have e1 : (m == 1) = false := by simpa using h1
    go_wp2_with fail
    refine (rdName B g _ hr).mono ?_
    rintro e w2 ⟨s, hs1, hs, rfl, hr2, hg2⟩
    go_wp2_with fail
    go_ret
    exact ⟨s, by omega, hs1, rfl, hr2, hg.trans hg2⟩
set_option maxHeartbeats 800000 in
theorem rdHurt (B g : Nat) (w : World) (h : Rd B w g) (s : ByteArray) (hs : s.size ≤ 40000) :
    Calls Try.prog 64 #[.pointer (some ⟨g, 0, none⟩), .string s] w fun e w' => ∃ t : ByteArray, t.size ≤ s.size + 1 ∧ e = .returned (.string t) ∧ Rd B w' g ∧ w.grownBy w' (some g) := by
  have hgw := h.2.1
  go_enter Try.func64, Try.ntmps64
  go_wp2_with fail
  refine (rdBelow B g _ h 6 (by omega) (by omega)).mono ?_
  rintro e w1 ⟨m, hm, hm2, rfl, hr, hg⟩
  have hg1 := hr.2.1
  by_cases h1 : m = 1
  · subst h1
    go_wp2_with fail
    refine (rdBelow B g _ hr (s.size + 1) (by omega) (by omega)).mono ?_
    rintro e w2 ⟨i, hi, hi2, rfl, hr2, hg2⟩
    obtain ⟨i, rfl⟩ := Int.eq_ofNat_of_zero_le hi
    go_wp2_with fail
    go_ret
    exact ⟨_, by (simp; try omega), rfl, hr2, hg.trans hg2⟩
  have e1 : (m == 1) = false := by simpa using h1
  by_cases h2 : m = 2
  · subst h2
    by_cases hz : 0 < s.size
    · go_wp2_with fail
      refine (rdBelow B g _ hr s.size (by omega) (by omega)).mono ?_
      rintro e w2 ⟨i, hi, hi2, rfl, hr2, hg2⟩
      obtain ⟨i, rfl⟩ := Int.eq_ofNat_of_zero_le hi
      have hg1 := hr2.2.1
      have hi3 : i + 1 ≤ s.size := by omega
      have hi4 : (i : Int) + 1 ≤ (s.size : Int) := by omega
      have hi5 : (0 : Int) ≤ (i : Int) + 1 := by omega
      have hsl : ∀ wx : World, (Instr.slice 9 (.string s) (some (.int .i64 ((i : Int) + 1))) none none).run Try.prog wx = .ok (.string (s.extract (i + 1) s.size)) wx := fun wx => by
        rw [run_slice_string_l (P := Try.prog) wx 9 s Try.underlying9 .i64 ((i : Int) + 1) (by omega) (by omega)]; rfl
      go_wp2_with fail
      have hwr : IntKind.i64.wrap ((i : Int) + 1) = (i : Int) + 1 := IntWalk.i64_in _ (by omega)
      go_region_with (first
        | (go_at_call 63; ((with_reducible refine (rdBelow B g _ (hr2.alloc _).drew 6 (by omega) (by omega)).mono ?_); rintro e w3 ⟨m, hm, hm2, rfl, hr3, hg3'⟩; have hg3 := undrew hg3'; clear hg3'; obtain ⟨m, rfl⟩ := Int.eq_ofNat_of_zero_le hm; obtain ⟨t, ht, hc⟩ := strs_cell hg3 hg1 0 1 rfl m (by simp; omega); have hg4 := (World.grownBy_alloc _ _ _).trans hg3; clear hg3))
        | (go_at_call 63; ((with_reducible refine (rdBelow B g _ hr2.drew 6 (by omega) (by omega)).mono ?_); rintro e w3 ⟨m, hm, hm2, rfl, hr3, hg3'⟩; have hg4 := undrew hg3'; clear hg3'; obtain ⟨m, rfl⟩ := Int.eq_ofNat_of_zero_le hm; obtain ⟨t, ht, hc⟩ := strs_cell (w := w3) (T := 9) (cs := [.string ⟨#[97]⟩, .string ⟨#[32]⟩, .string ⟨#[46]⟩, .string ⟨#[60]⟩, .string ⟨#[34]⟩, .string ⟨#[63]⟩]) (World.grownBy.refl _ (some g)) hr3.2.1 0 1 rfl m (by simp; omega))))
      all_goals go_wp2_with fail
      all_goals go_ret
      all_goals first | exact ⟨_, by (simp; try omega), rfl, hr3, (hg.trans hg2).trans hg4⟩ | exact ⟨_, by (simp; try omega), rfl, hr3.alloc _, ((hg.trans hg2).trans hg4).trans (World.grownBy_alloc _ _ _)⟩
    · go_wp2_with fail
      go_ret
      exact ⟨s, by omega, rfl, hr, hg⟩
  have e2 : (m == 2) = false := by simpa using h2
  by_cases h3 : m = 3
  · subst h3
    go_wp2_with fail
    refine (rdBelow B g _ (hr.alloc _) 3 (by omega) (by omega)).mono ?_
    rintro e w2 ⟨m, hm, hm2, rfl, hr2, hg2⟩
    obtain ⟨m, rfl⟩ := Int.eq_ofNat_of_zero_le hm
    obtain ⟨t, ht, hc⟩ := strs_cell hg2 hg1 0 1 rfl m (by simp; omega)
    go_wp2_with fail
    go_ret
    exact ⟨_, by (simp; try omega), rfl, hr2, (hg.trans (World.grownBy_alloc _ _ _)).trans hg2⟩
  · have e3 : (m == 3) = false := by simpa using h3
    go_wp2_with fail
    go_ret
    exact ⟨s, by omega, rfl, hr, hg⟩
end Go.Proofs.Ytfigcefdkdlcaaa
