/- What is drawn for the statements on terms: texts of a bounded length, and nothing that was there is written. -/
import Derived.Test.YtfigcefdkdlcaaaDraw
namespace Go.Proofs.Ytfigcefdkdlcaaa
open Go.RowKit Go.WideShapes
theorem grown_new {a b c : World} (h : a.grownBy b none) (k : b.grownBy c (some a.heap.size)) : a.grownBy c none := h.andThen k (by intro j hj; simp at hj; omega)
theorem isRow_grown {k : IntKind} {w w' : World} {a : Option Addr} {len cap : Nat} {zs : List Int} (h : Frame.IsRow k w a len cap zs) (hg : w.grownBy w' none) : Frame.IsRow k w' a len cap zs := by
  refine isRow_keep h fun x hx hz => hg.block _ ?_ (by simp)
  rcases h with ⟨rfl, _⟩ | ⟨y, rfl, h1, h2, h3, h4, h5⟩
  · simp at hx
  · obtain rfl : y = x := by simpa using hx
    have := lt_of_cell (h4 0 hz)
    rwa [add_block] at this
set_option maxHeartbeats 400000 in
theorem drawEscaped (w : World) (a : Option Addr) (len cap : Nat) (zs : List Int) (hrow : Frame.IsRow .u8 w a len cap zs) :
    Calls Try.prog 16 #[.slice a len cap] w fun e w' => ∃ s : ByteArray, s.size ≤ 12 ∧ e = .returned (.string s) ∧ w.grownBy w' none := by
  go_enter Try.func16, Try.ntmps16
  go_wp2_with fail
  refine (rdOpen _ _ _ _ _ hrow).mono ?_
  rintro e w1 ⟨rfl, hr, hg⟩
  go_wp2_with fail
  refine (rdContent _ _ _ hr).mono ?_
  rintro e w2 ⟨s, _, hs, rfl, hr2, hg2⟩
  go_wp2_with fail
  refine (rdContent _ _ _ hr2).mono ?_
  rintro e w3 ⟨t, _, ht, rfl, hr3, hg3⟩
  go_wp2_with fail
  go_ret
  exact ⟨_, by simp; omega, rfl, grown_new hg (hg2.trans hg3)⟩
set_option maxHeartbeats 400000 in
theorem drawUnescaped (w : World) (a : Option Addr) (len cap : Nat) (zs : List Int) (hrow : Frame.IsRow .u8 w a len cap zs) :
    Calls Try.prog 20 #[.slice a len cap] w fun e w' => ∃ s : ByteArray, s.size ≤ 40 ∧ e = .returned (.string s) ∧ w.grownBy w' none := by
  go_enter Try.func20, Try.ntmps20
  go_wp2_with fail
  refine (rdOpen _ _ _ _ _ hrow).mono ?_
  rintro e w1 ⟨rfl, hr, hg⟩
  go_wp2_with fail
  refine (drawEscaped _ _ _ _ _ (isRow_grown hrow hg)).mono ?_
  rintro e w2 ⟨s, hs, rfl, hg2⟩
  have hr2 := hr.grown hg2 (by simp)
  go_wp2_with fail
  refine (specEscaped s _ (by omega)).mono ?_
  rintro e w3 ⟨rfl, rfl⟩
  have hl := (esc_len s.data.toList).2
  rw [size_len] at hl
  obtain ⟨q, hq, hql⟩ : ∃ q : ByteArray, bs (esc s.data.toList) = q ∧ q.size ≤ 24 := ⟨_, rfl, by rw [bs_size]; omega⟩
  rw [hq]
  clear hl hq
  go_wp2_with fail
  refine (rdOnce _ _ _ hr2 3 (by omega) (by omega)).mono ?_
  rintro e w4 ⟨b, rfl, hr4, hg4⟩
  have hg1 := hr4.2.1
  cases b
  · go_wp2_with fail
    refine (rdHurt _ _ _ hr4 q (by omega)).mono ?_
    rintro e w5 ⟨t, ht, rfl, hr5, hg5⟩
    go_wp2_with fail
    go_ret
    exact ⟨t, by omega, rfl, grown_new (hg.trans hg2) (hg4.trans hg5)⟩
  · go_wp2_with fail
    refine (rdBelow _ _ _ (hr4.alloc _) 4 (by omega) (by omega)).mono ?_
    rintro e w5 ⟨m, hm, hm2, rfl, hr5, hg5⟩
    obtain ⟨m, rfl⟩ := Int.eq_ofNat_of_zero_le hm
    obtain ⟨t, ht, hc⟩ := strs_cell hg5 hg1 0 2 rfl m (by simp; omega)
    go_wp2_with fail
    go_ret
    exact ⟨_, by (simp; try omega), rfl, grown_new (hg.trans hg2) ((hg4.trans (World.grownBy_alloc _ _ _)).trans hg5)⟩
set_option maxHeartbeats 400000 in
theorem drawKindOf (w : World) (a : Option Addr) (len cap : Nat) (zs : List Int) (hrow : Frame.IsRow .u8 w a len cap zs) :
    Calls Try.prog 22 #[.slice a len cap] w fun e w' => ∃ s : ByteArray, s.size ≤ 40 ∧ e = .returned (.string s) ∧ w.grownBy w' none := by
  go_enter Try.func22, Try.ntmps22
  go_wp2_with fail
  refine (rdOpen _ _ _ _ _ hrow).mono ?_
  rintro e w1 ⟨rfl, hr, hg⟩
  go_wp2_with fail
  refine (rdBelow _ _ _ hr 4 (by omega) (by omega)).mono ?_
  rintro e w2 ⟨m, hm, hm2, rfl, hr2, hg2⟩
  have hg1 := hr2.2.1
  by_cases h0 : m = 0
  · subst h0
    go_wp2_with fail
    refine (rdThing _ _ _ hr2).mono ?_
    rintro e w3 ⟨s, hs, _, rfl, hr3, hg3⟩
    go_wp2_with fail
    refine (rdHurt _ _ _ hr3 s (by omega)).mono ?_
    rintro e w4 ⟨t, ht, rfl, hr4, hg4⟩
    go_wp2_with fail
    go_ret
    exact ⟨t, by omega, rfl, grown_new hg ((hg2.trans hg3).trans hg4)⟩
  have e0 : (m == 0) = false := by simpa using h0
  by_cases h1 : m = 1
  · subst h1
    go_wp2_with fail
    refine (rdBelow _ _ _ (hr2.alloc _) 9 (by omega) (by omega)).mono ?_
    rintro e w3 ⟨m, hm, hm2, rfl, hr3, hg3⟩
    obtain ⟨m, rfl⟩ := Int.eq_ofNat_of_zero_le hm
    obtain ⟨t, ht, hc⟩ := strs_cell hg3 hg1 0 20 rfl m (by simp; omega)
    go_wp2_with fail
    go_ret
    exact ⟨_, by omega, rfl, grown_new hg ((hg2.trans (World.grownBy_alloc _ _ _)).trans hg3)⟩
  · have e1 : (m == 1) = false := by simpa using h1
    go_wp2_with fail
    refine (rdThing _ _ _ hr2).mono ?_
    rintro e w3 ⟨s, hs, _, rfl, hr3, hg3⟩
    go_wp2_with fail
    go_ret
    exact ⟨s, by omega, rfl, grown_new hg (hg2.trans hg3)⟩
set_option maxHeartbeats 400000 in
theorem drawTextIn (w : World) (a : Option Addr) (len cap : Nat) (zs : List Int) (hrow : Frame.IsRow .u8 w a len cap zs) :
    Calls Try.prog 24 #[.slice a len cap] w fun e w' => ∃ s : ByteArray, s.size ≤ 40 ∧ e = .returned (.string s) ∧ w.grownBy w' none := by
  go_enter Try.func24, Try.ntmps24
  go_wp2_with fail
  refine (rdOpen _ _ _ _ _ hrow).mono ?_
  rintro e w1 ⟨rfl, hr, hg⟩
  go_wp2_with fail
  refine (rdContent _ _ _ hr).mono ?_
  rintro e w2 ⟨s, _, hs, rfl, hr2, hg2⟩
  go_wp2_with fail
  refine (specEscaped s _ (by omega)).mono ?_
  rintro e w3 ⟨rfl, rfl⟩
  have hl := (esc_len s.data.toList).2
  rw [size_len] at hl
  obtain ⟨q, hq, hql⟩ : ∃ q : ByteArray, bs (esc s.data.toList) = q ∧ q.size ≤ 24 := ⟨_, rfl, by rw [bs_size]; omega⟩
  rw [hq]
  clear hl hq
  go_wp2_with fail
  refine (rdOnce _ _ _ hr2 4 (by omega) (by omega)).mono ?_
  rintro e w4 ⟨b, rfl, hr4, hg4⟩
  cases b
  · go_wp2_with fail
    go_ret
    exact ⟨_, by (simp [lit_size]; try omega), rfl, grown_new hg (hg2.trans hg4)⟩
  · go_wp2_with fail
    refine (rdHurt _ _ _ hr4 _ (by (simp [lit_size]; try omega))).mono ?_
    rintro e w5 ⟨t, ht, rfl, hr5, hg5⟩
    go_wp2_with fail
    go_ret
    exact ⟨t, by (simp [lit_size] at ht; try omega), rfl, grown_new hg ((hg2.trans hg4).trans hg5)⟩
end Go.Proofs.Ytfigcefdkdlcaaa
