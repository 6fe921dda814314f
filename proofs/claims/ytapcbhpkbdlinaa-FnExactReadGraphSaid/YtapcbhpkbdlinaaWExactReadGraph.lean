/- The walk of FnExactReadGraph. -/
import Derived.Test.YtapcbhpkbdlinaaFrame
import Derived.Test.YtapcbhpkbdlinaaMark
import Derived.Test.YtapcbhpkbdlinaaReadGM
namespace Go.Proofs.Ytapcbhpkbdlinaa
open Go.RowKit Go.WideShapes
namespace fnExactReadGraph
theorem dig_len : ∀ n : Nat, (dig n).length ≤ n := by
  intro n
  induction n using Nat.strongRecOn with
  | _ n ih =>
    rcases Nat.eq_zero_or_pos n with rfl | h
    · rw [dig_zero]; simp
    · rw [dig_step h, List.length_append, List.length_singleton]
      have := ih (n / 10) (by omega)
      omega
theorem marks_small (n : Nat) (hn : n ≤ 80) : ∀ t ∈ marksT n, t.1.size ≤ maxLen ∧ t.2.1.size ≤ maxLen ∧ t.2.2.size ≤ maxLen := by
  intro t ht
  unfold marksT at ht
  obtain ⟨i, hi, rfl⟩ := List.mem_map.1 ht
  have hi := List.mem_range.1 hi
  have a := dig_len (1 + 3 * i)
  have b := dig_len (1 + 3 * i + 1)
  have c := dig_len (1 + 3 * i + 2)
  unfold markT mark maxLen
  simp only [bs_size, List.length_cons]
  omega
set_option maxRecDepth 100000 in
set_option maxHeartbeats 1600000 in
theorem walk (s : ByteArray) (w : World) (hsz : s.size ≤ maxLen) :
    Calls Try.prog 4 #[.string s] w fun e w' => e = .returned (.bool true) ∧ Below w.heap.size w w' := by
  have hmx : s.size ≤ 9223372036854775807 := hsz
  by_cases hbig : (1048576 : Int) < s.size
  · go_enter Try.func4, Try.ntmps4
    go_wp2_with fail
    go_ret
    exact ⟨rfl, Below.refl _ _⟩
  have hs : s.size ≤ 1048576 := by omega
  go_enter Try.func4, Try.ntmps4
  go_wp2_with fail
  refine (specReadGraph s hs _).mono ?_
  rintro e w1 (⟨v0, ts, hres, hgo, hsr, rfl, o0, hb1⟩ | ⟨hres, rfl, hb1⟩)
  · have hm : ∀ t ∈ ts, t.1.size ≤ maxLen ∧ t.2.1.size ≤ maxLen ∧ t.2.2.size ≤ maxLen := fun t ht => by have := hsr t ht; unfold maxLen; omega
    have hl := graphOk_le hgo
    obtain ⟨n, hn⟩ : ∃ n, ts.length = n := ⟨_, rfl⟩
    obtain ⟨a0, y0, rfl, i0⟩ := o0.is hm
    rw [hn] at i0 hl ⊢
    have HR := Lib.hid hres
    have HM := Lib.hid hm
    have HN := Lib.hid hn
    clear o0 hgo hsr hres hm hn
    go_wp2_with fail
    refine (implReadGraph s hs _).mono ?_
    rintro e w2 (⟨v2, ts', hres', _, _, rfl, o2, hb2⟩ | ⟨hres', _, _⟩)
    case inr => exact absurd (HR.out.symm.trans hres') (by simp)
    obtain rfl : ts = ts' := Option.some.inj (HR.out.symm.trans hres')
    obtain ⟨a2, y2, rfl, i2⟩ := o2.is HM.out
    rw [HN.out] at i2 ⊢
    clear hres'
    have E2 : Below w1.heap.size w1 w2 := hb2
    have O2 := Lib.hid o2
    clear o2 hb2
    go_wp2_with fail
    refine (eqTriS a2 a0 n y2 n y0 ts _ i2 (i0.next E2) (by omega)).mono ?_
    rintro e w3 ⟨rfl, hb3⟩
    have E3 := E2.trans (hb3.mono E2.size)
    have O3 := own_next O2.out (grown_of_below hb3)
    clear O2 hb3 E2 i2
    obtain ⟨N, hN⟩ : ∃ N : Int, 1 + 3 * (n : Int) = N := ⟨_, rfl⟩
    have hN0 : ¬ N < 0 := by omega
    have MK := markTriS w1.heap.size _ ts w3 O3 (by have := HN.out; omega)
    rw [HN.out, hN] at MK
    have HMK := Lib.hid MK
    have hlt3 := fun j hj => (O3.lt j hj).1
    rw [HN.out] at hlt3
    clear MK O3
    go_wp2_with fail
    refine HMK.out.mono ?_
    rintro e w4 ⟨rfl, o4, hg4⟩
    have E4 : Below w1.heap.size w1 w4 := E3.grown hg4 E3.size hlt3
    obtain ⟨a4, y4, hv4, i4⟩ := o4.is (marks_small n hl)
    rw [marksT_len] at hv4 i4
    simp only [Value.slice.injEq, true_and] at hv4
    obtain ⟨rfl, rfl⟩ := hv4
    clear HMK o4 hg4 E3 hlt3
    have H1 := heldTriS a2 n y2
    rw [hN] at H1
    have HLD := Lib.hid H1
    clear H1 hN
    go_wp2_with fail
    refine (HLD.out _ i4 hl).mono ?_
    rintro e w5 ⟨rfl, hb5⟩
    have E5 := E4.trans (hb5.mono E4.size)
    have I5 := i4.next hb5
    clear hb5 E4 i4
    go_wp2_with fail
    refine (implReadGraph s hs _).mono ?_
    rintro e w6 (⟨v6, ts', hres', _, _, rfl, o6, hb6⟩ | ⟨hres', _, _⟩)
    case inr => exact absurd (HR.out.symm.trans hres') (by simp)
    obtain rfl : ts = ts' := Option.some.inj (HR.out.symm.trans hres')
    obtain ⟨a6, y6, rfl, i6⟩ := o6.is HM.out
    rw [HN.out] at i6 ⊢
    have E6 := E5.trans (hb6.mono E5.size)
    have I6 := I5.next hb6
    clear hres' o6 hb6 E5 I5
    go_wp2_with fail
    refine (eqTriS a6 a0 n y6 n y0 ts _ i6 (i0.next E6) (by omega)).mono ?_
    rintro e w7 ⟨rfl, hb7⟩
    have E7 := E6.trans (hb7.mono E6.size)
    have I7 := I6.next hb7
    clear hb7 E6 I6 i6 i0
    go_wp2_with fail
    refine (HLD.out _ I7 hl).mono ?_
    rintro e w8 ⟨rfl, hb8⟩
    have E8 := E7.trans (hb8.mono E7.size)
    clear hb8 E7 I7
    go_wp2_with fail
    go_ret
    exact ⟨rfl, hb1.trans (E8.mono hb1.size)⟩
  · have HR := Lib.hid hres
    have z0 : ∀ w : World, IsTris w none 0 0 [] := fun w => .inl ⟨rfl, rfl, rfl, rfl⟩
    have MK : ∀ w, Calls Try.prog 21 #[.slice none 0 0, .int .i64 1] w fun e w' => e = .returned (.int .i64 1) ∧ Below w.heap.size w w' := fun w =>
      (markTriS w.heap.size (.slice none 0 0) [] w (World.ownsRow_nil ..) (by simp)).mono fun e w' h => ⟨h.1, below_of_grown h.2.2⟩
    have HD : ∀ w, Calls Try.prog 22 #[.slice none 0 0, .int .i64 1] w fun e w' => e = .returned (.int .i64 1) ∧ Below w.heap.size w w' := fun w =>
      (heldTriS none 0 0 w (.inl ⟨rfl, rfl, rfl, rfl⟩) (by omega)).mono fun e w' h => ⟨h.1, h.2⟩
    have EQ : ∀ w, Calls Try.prog 20 #[.slice none 0 0, .slice none 0 0] w fun e w' => e = .returned (.bool true) ∧ Below w.heap.size w w' := fun w => eqTriS none none 0 0 0 0 [] w (z0 w) (z0 w) (by omega)
    have RD : ∀ w, Calls Try.prog 19 #[.string s] w fun e w' => e = .returned (.tuple #[.slice none 0 0, .bool false]) ∧ Below w.heap.size w w' := fun w => by
      refine (implReadGraph s hs w).mono fun e w' h => ?_
      rcases h with ⟨v, ts, hr, _⟩ | ⟨_, he, hb⟩
      · rw [HR.out] at hr; simp at hr
      · exact ⟨he, hb⟩
    have C1 := Lib.hid MK
    have C2 := Lib.hid HD
    have C3 := Lib.hid EQ
    have C4 := Lib.hid RD
    clear MK HD EQ RD z0 hres
    go_wp2_with fail
    refine (C4.out _).mono ?_
    rintro e w2 ⟨rfl, hb2⟩
    have B2 := hb1.trans (hb2.mono hb1.size)
    clear hb1 hb2
    go_wp2_with fail
    refine (C3.out _).mono ?_
    rintro e w3 ⟨rfl, hb3⟩
    have B3 := B2.trans (hb3.mono B2.size)
    clear B2 hb3
    go_wp2_with fail
    refine (C1.out _).mono ?_
    rintro e w4 ⟨rfl, hb4⟩
    have B4 := B3.trans (hb4.mono B3.size)
    clear B3 hb4
    go_wp2_with fail
    refine (C2.out _).mono ?_
    rintro e w5 ⟨rfl, hb5⟩
    have B5 := B4.trans (hb5.mono B4.size)
    clear B4 hb5
    go_wp2_with fail
    refine (C4.out _).mono ?_
    rintro e w6 ⟨rfl, hb6⟩
    have B6 := B5.trans (hb6.mono B5.size)
    clear B5 hb6
    go_wp2_with fail
    refine (C3.out _).mono ?_
    rintro e w7 ⟨rfl, hb7⟩
    have B7 := B6.trans (hb7.mono B6.size)
    clear B6 hb7
    go_wp2_with fail
    refine (C2.out _).mono ?_
    rintro e w8 ⟨rfl, hb8⟩
    have B8 := B7.trans (hb8.mono B7.size)
    clear B7 hb8
    go_wp2_with fail
    go_ret
    exact ⟨rfl, B8⟩
end fnExactReadGraph
end Go.Proofs.Ytapcbhpkbdlinaa
