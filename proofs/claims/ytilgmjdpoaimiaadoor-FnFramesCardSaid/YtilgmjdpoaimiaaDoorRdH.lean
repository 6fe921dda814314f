/- Rd, the rest. -/
import Derived.Test.YtilgmjdpoaimiaaDoorEsc
namespace Go.Proofs.YtilgmjdpoaimiaaDoor
open Go.RowKit Go.WideShapes
set_option maxHeartbeats 800000 in
theorem rdHurt (B g : Nat) (w : World) (h : Rd B w g) (s : ByteArray) (hs : s.size ≤ 40000) :
    Calls Tryd.prog 20 #[.pointer (some ⟨g, 0, none⟩), .string s] w fun e w' => ∃ t : ByteArray, t.size ≤ s.size + 1 ∧ e = .returned (.string t) ∧ Rd B w' g ∧ w.grownBy w' (some g) := by
  have hgw := h.2.1
  go_enter Tryd.func20, Tryd.ntmps20
  go_wp2_with fail
  refine (rdBelow B g _ h 6 (by omega) (by omega)).mono ?_
  rintro e w1 ⟨m, hm, hm2, rfl, hr, hg⟩
  have hg1 := hr.2.1
  by_cases h1 : m = 1
  · subst h1
    go_wp2_with fail
    refine (rdBelow B g _ hr (s.size + 1) (by omega) (by omega)).mono ?_
    rintro e w2 ⟨i, hi, hi2, rfl, hr2, hg2⟩
    obtain ⟨i, rfl⟩ := Int.eq_ofNat_of_zero_le hi
    go_wp2_with fail
    go_ret
    exact ⟨_, by (simp; try omega), rfl, hr2, hg.trans hg2⟩
  have e1 : (m == 1) = false := by simpa using h1
  by_cases h2 : m = 2
  · subst h2
    by_cases hz : 0 < s.size
    · go_wp2_with fail
      refine (rdBelow B g _ hr s.size (by omega) (by omega)).mono ?_
      rintro e w2 ⟨i, hi, hi2, rfl, hr2, hg2⟩
      obtain ⟨i, rfl⟩ := Int.eq_ofNat_of_zero_le hi
      have hg1 := hr2.2.1
      have hi3 : i + 1 ≤ s.size := by omega
      have hi4 : (i : Int) + 1 ≤ (s.size : Int) := by omega
      have hi5 : (0 : Int) ≤ (i : Int) + 1 := by omega
      have hsl : ∀ wx : World, (Instr.slice 9 (.string s) (some (.int .i64 ((i : Int) + 1))) none none).run Tryd.prog wx = .ok (.string (s.extract (i + 1) s.size)) wx := fun wx => by
        rw [run_slice_string_l (P := Tryd.prog) wx 9 s Tryd.underlying9 .i64 ((i : Int) + 1) (by omega) (by omega)]; rfl
      go_wp2_with fail
      have hwr : IntKind.i64.wrap ((i : Int) + 1) = (i : Int) + 1 := IntWalk.i64_in _ (by omega)
      go_region_with (first
        | (go_at_call 18; ((with_reducible refine (rdBelow B g _ (hr2.alloc _).drew 6 (by omega) (by omega)).mono ?_); rintro e w3 ⟨m, hm, hm2, rfl, hr3, hg3'⟩; have hg3 := undrew hg3'; clear hg3'; obtain ⟨m, rfl⟩ := Int.eq_ofNat_of_zero_le hm; obtain ⟨t, ht, hc⟩ := strs_cell hg3 hg1 0 1 rfl m (by simp; omega); have hg4 := (World.grownBy_alloc _ _ _).trans hg3; clear hg3))
        | (go_at_call 18; ((with_reducible refine (rdBelow B g _ hr2.drew 6 (by omega) (by omega)).mono ?_); rintro e w3 ⟨m, hm, hm2, rfl, hr3, hg3'⟩; have hg4 := undrew hg3'; clear hg3'; obtain ⟨m, rfl⟩ := Int.eq_ofNat_of_zero_le hm; obtain ⟨t, ht, hc⟩ := strs_cell (w := w3) (T := 9) (cs := [.string ⟨#[97]⟩, .string ⟨#[32]⟩, .string ⟨#[46]⟩, .string ⟨#[60]⟩, .string ⟨#[34]⟩, .string ⟨#[63]⟩]) (World.grownBy.refl _ (some g)) hr3.2.1 0 1 rfl m (by simp; omega))))
      all_goals go_wp2_with fail
      all_goals go_ret
      all_goals first | exact ⟨_, by (simp; try omega), rfl, hr3, (hg.trans hg2).trans hg4⟩ | exact ⟨_, by (simp; try omega), rfl, hr3.alloc _, ((hg.trans hg2).trans hg4).trans (World.grownBy_alloc _ _ _)⟩
    · go_wp2_with fail
      go_ret
      exact ⟨s, by omega, rfl, hr, hg⟩
  have e2 : (m == 2) = false := by simpa using h2
  by_cases h3 : m = 3
  · subst h3
    go_wp2_with fail
    refine (rdBelow B g _ (hr.alloc _) 3 (by omega) (by omega)).mono ?_
    rintro e w2 ⟨m, hm, hm2, rfl, hr2, hg2⟩
    obtain ⟨m, rfl⟩ := Int.eq_ofNat_of_zero_le hm
    obtain ⟨t, ht, hc⟩ := strs_cell hg2 hg1 0 1 rfl m (by simp; omega)
    go_wp2_with fail
    go_ret
    exact ⟨_, by (simp; try omega), rfl, hr2, (hg.trans (World.grownBy_alloc _ _ _)).trans hg2⟩
  · have e3 : (m == 3) = false := by simpa using h3
    go_wp2_with fail
    go_ret
    exact ⟨s, by omega, rfl, hr, hg⟩
end Go.Proofs.YtilgmjdpoaimiaaDoor
