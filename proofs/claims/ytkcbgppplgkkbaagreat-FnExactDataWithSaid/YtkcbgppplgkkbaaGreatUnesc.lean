/- The contracts of the functions that take the escapes away again. -/
import Derived.Test.YtkcbgppplgkkbaaGreatBase
namespace Go.Proofs.YtkcbgppplgkkbaaGreat
open Go.RowKit
theorem unesc_quote {c : UInt8} {r : List UInt8} (h : ((c.toNat : Int) == 34) = true) : unesc (c :: r) = none := by rw [unesc.eq_def]; simp only [h, if_true]
theorem unesc_line {c : UInt8} {r : List UInt8} (h : ((c.toNat : Int) == 10) = true) : unesc (c :: r) = none := by rw [unesc.eq_def]; simp only [h, if_true, ite_self]
theorem unesc_plain {c : UInt8} {r : List UInt8} (h1 : ((c.toNat : Int) == 34) = false) (h2 : ((c.toNat : Int) == 10) = false) (h3 : ((c.toNat : Int) == 92) = false) : unesc (c :: r) = (unesc r).map (c :: ·) := by
  rw [unesc.eq_def]; simp only [h1, h2, h3]; simp
theorem unesc_end {c : UInt8} (h3 : ((c.toNat : Int) == 92) = true) : unesc [c] = none := by
  rw [(u8_int c 92).1 h3]; rfl
theorem unesc_two {c d : UInt8} {r : List UInt8} (h3 : ((c.toNat : Int) == 92) = true) : unesc (c :: d :: r) =
    if ((d.toNat : Int) == 34) = true then (unesc r).map (d :: ·) else if ((d.toNat : Int) == 92) = true then (unesc r).map (d :: ·) else
      if ((d.toNat : Int) == 110) = true then (unesc r).map (10 :: ·) else none := by
  rw [(u8_int c 92).1 h3, unesc]; rfl
theorem esc_append (a b : List UInt8) : esc (a ++ b) = esc a ++ esc b := by simp [esc]
theorem esc_cut (l : List UInt8) (k : Nat) : esc (l.take k) ++ esc (l.drop k) = esc l := by rw [← esc_append, List.take_append_drop]
theorem unesc_esc : ∀ l : List UInt8, unesc (esc l) = some l
  | [] => rfl
  | c :: r => by
    have ih := unesc_esc r
    have e : esc (c :: r) = escB c ++ esc r := by simp [esc]
    rw [e]
    rcases test3 c with ⟨h1, he⟩ | ⟨h1, h2, he⟩ | ⟨h1, h2, h3, he⟩ | ⟨h1, h2, h3, he⟩
    · rw [he, (u8_int c 34).1 h1]
      show unesc (92 :: 34 :: esc r) = _
      rw [unesc_two (by rfl), ih]; rfl
    · rw [he, (u8_int c 92).1 h2]
      show unesc (92 :: 92 :: esc r) = _
      rw [unesc_two (by rfl), ih]; rfl
    · rw [he, (u8_int c 10).1 h3]
      show unesc (92 :: 110 :: esc r) = _
      rw [unesc_two (by rfl), ih]; rfl
    · rw [he]
      show unesc (c :: esc r) = _
      rw [unesc_plain h1 h3 h2, ih]; rfl
theorem esc_unesc : ∀ (u x : List UInt8), unesc u = some x → esc x = u
  | [], x, h => by
    simp only [unesc, Option.some.injEq] at h; subst h; rfl
  | [c], x, h => by
    cases h1 : ((c.toNat : Int) == 34)
    rotate_left
    · rw [unesc_quote h1] at h; simp at h
    cases h2 : ((c.toNat : Int) == 10)
    rotate_left
    · rw [unesc_line h2] at h; simp at h
    cases h3 : ((c.toNat : Int) == 92)
    rotate_left
    · rw [unesc_end h3] at h; simp at h
    rw [unesc_plain h1 h2 h3] at h
    simp only [unesc, Option.map_some, Option.some.injEq] at h
    subst h
    simp [esc, escB_b, h1, h2, h3]
  | c :: d :: r, x, h => by
    have i1 := esc_unesc (d :: r); have i2 := esc_unesc r
    cases h1 : ((c.toNat : Int) == 34)
    rotate_left
    · rw [unesc_quote h1] at h; simp at h
    cases h2 : ((c.toNat : Int) == 10)
    rotate_left
    · rw [unesc_line h2] at h; simp at h
    cases h3 : ((c.toNat : Int) == 92)
    · rw [unesc_plain h1 h2 h3, Option.map_eq_some_iff] at h
      obtain ⟨a, ha, rfl⟩ := h
      have := i1 a ha
      have e : esc (c :: a) = escB c ++ esc a := by simp [esc]
      rw [e, this, escB_b]; simp [h1, h2, h3]
    · have hc := (u8_int c 92).1 h3
      subst hc
      rw [unesc_two h3] at h
      have e : ∀ q a, esc (q :: a) = escB q ++ esc a := fun q a => by simp [esc]
      split at h
      · rename_i g
        rw [Option.map_eq_some_iff] at h
        obtain ⟨a, ha, rfl⟩ := h
        rw [e, i2 a ha, (u8_int d 34).1 g]; rfl
      split at h
      · rename_i g
        rw [Option.map_eq_some_iff] at h
        obtain ⟨a, ha, rfl⟩ := h
        rw [e, i2 a ha, (u8_int d 92).1 g]; rfl
      split at h
      · rename_i g
        rw [Option.map_eq_some_iff] at h
        obtain ⟨a, ha, rfl⟩ := h
        rw [e, i2 a ha, (u8_int d 110).1 g]; rfl
      · simp at h
set_option maxHeartbeats 800000 in
theorem specUnescaped (s : ByteArray) (w : World) (hs : s.size ≤ 2097152) :
    Calls Tryz.prog 54 #[.string s] w fun e w' => e = .returned (.tuple #[.string (bs ((unesc s.data.toList).getD [])), .bool (unesc s.data.toList).isSome]) ∧ w = w' := by
  go_enter Tryz.func54, Tryz.ntmps54
  go_wp2
  go_loop [4, 5] (fun o i => ∃ k : Nat, k ≤ s.size ∧ i = .int .i64 k ∧ ∃ b : ByteArray, o = .string b ∧ b.size ≤ k ∧ Hid (unesc s.data.toList = (unesc (s.data.toList.drop k)).map (b.data.toList ++ ·))) (fun _ i => s.size - (intOf i).toNat)
  case atStart => exact ⟨0, Nat.zero_le _, rfl, _, rfl, Nat.le_refl _, Lib.hid (by simp)⟩
  case round =>
    obtain ⟨k, hk, rfl, b, rfl, hbs, hb⟩ := hrel
    by_cases hlt : k < s.size
    · have hd := drop_cons s k hlt
      have HD := Lib.hid hd; clear hd
      cases h1 : ((s[k].toNat : Int) == 34)
      rotate_left
      · have g1 : (s[k].toNat : Int) = 34 := by simpa using h1
        have HN : Hid (unesc s.data.toList = none) := Lib.hid (by rw [hb.out, HD.out, unesc_quote h1]; rfl)
        go_wp2
        go_ret2
        exact ⟨by rw [HN.out]; rfl, rfl⟩

      have g1 : ¬ (s[k].toNat : Int) = 34 := by simpa using h1
      cases h2 : ((s[k].toNat : Int) == 10)
      rotate_left
      · have g2 : (s[k].toNat : Int) = 10 := by simpa using h2
        have HN : Hid (unesc s.data.toList = none) := Lib.hid (by rw [hb.out, HD.out, unesc_line h2]; rfl)
        go_wp2
        go_ret2
        exact ⟨by rw [HN.out]; rfl, rfl⟩

      have g2 : ¬ (s[k].toNat : Int) = 10 := by simpa using h2
      cases h3 : ((s[k].toNat : Int) == 92)
      · have g3 : ((s[k].toNat : Int) != 92) = true := by simp [bne, h3]
        have HN : Hid (unesc s.data.toList = (unesc (s.data.toList.drop (k + 1))).map (b.data.toList ++ s[k] :: ·)) := Lib.hid (by rw [hb.out, HD.out, unesc_plain h1 h2 h3, Option.map_map]; rfl)
        go_wp2
        go_round
        case rel => exact ⟨k + 1, by omega, by go_num, _, rfl, by simp; omega, Lib.hid (by rw [HN.out, app_toList, ext_one s k hlt]; simp)⟩
        case measure => simp [intOf]; omega

      have g3 : ((s[k].toNat : Int) != 92) = false := by simp [bne, h3]
      by_cases hend : k + 1 = s.size
      · have g4 : ((k : Int) + 1 == (s.size : Int)) = true := by rw [beq_iff_eq]; omega
        have HN : Hid (unesc s.data.toList = none) := Lib.hid (by rw [hb.out, HD.out, drop_all s (k + 1) (by omega), unesc_end h3]; rfl)
        clear hend
        go_wp2
        go_ret2
        exact ⟨by rw [HN.out]; rfl, rfl⟩

      have hlt2 : k + 1 < s.size := by omega
      clear hend
      have g4 : ((k : Int) + 1 == (s.size : Int)) = false := by rw [beq_eq_false_iff_ne]; omega
      have HD2 : Hid (s.data.toList.drop (k + 1) = s[k + 1] :: s.data.toList.drop (k + 1 + 1)) := Lib.hid (drop_cons s (k + 1) hlt2)
      have HU := Lib.hid (unesc_two (c := s[k]) (d := s[k + 1]) (r := s.data.toList.drop (k + 1 + 1)) h3)
      cases h5 : ((s[k + 1].toNat : Int) == 34)
      rotate_left
      · have HN : Hid (unesc s.data.toList = (unesc (s.data.toList.drop (k + 1 + 1))).map (b.data.toList ++ s[k + 1] :: ·)) := Lib.hid (by rw [hb.out, HD.out, HD2.out, HU.out, if_pos h5, Option.map_map]; rfl)
        go_wp2
        go_round
        case rel => exact ⟨k + 1 + 1, by omega, by go_num, _, rfl, by simp; omega, Lib.hid (by rw [HN.out, app_toList, ext_one s (k + 1) hlt2]; simp)⟩
        case measure => simp [intOf]; omega

      cases h6 : ((s[k + 1].toNat : Int) == 92)
      rotate_left
      · have HN : Hid (unesc s.data.toList = (unesc (s.data.toList.drop (k + 1 + 1))).map (b.data.toList ++ s[k + 1] :: ·)) := Lib.hid (by rw [hb.out, HD.out, HD2.out, HU.out, if_neg (by simp [h5]), if_pos h6, Option.map_map]; rfl)
        go_wp2
        go_round
        case rel => exact ⟨k + 1 + 1, by omega, by go_num, _, rfl, by simp; omega, Lib.hid (by rw [HN.out, app_toList, ext_one s (k + 1) hlt2]; simp)⟩
        case measure => simp [intOf]; omega

      cases h7 : ((s[k + 1].toNat : Int) == 110)
      · have HN : Hid (unesc s.data.toList = none) := Lib.hid (by rw [hb.out, HD.out, HD2.out, HU.out, if_neg (by simp [h5]), if_neg (by simp [h6]), if_neg (by simp [h7])]; rfl)
        go_wp2
        go_ret2
        exact ⟨by rw [HN.out]; rfl, rfl⟩

      · have HN : Hid (unesc s.data.toList = (unesc (s.data.toList.drop (k + 1 + 1))).map (b.data.toList ++ 10 :: ·)) := Lib.hid (by rw [hb.out, HD.out, HD2.out, HU.out, if_neg (by simp [h5]), if_neg (by simp [h6]), if_pos h7, Option.map_map]; rfl)
        go_wp2
        go_round
        case rel => exact ⟨k + 1 + 1, by omega, by go_num, _, rfl, by simp [lit_size]; omega, Lib.hid (by rw [HN.out, app_toList]; simp)⟩
        case measure => simp [intOf]; omega

    · have HN : Hid (unesc s.data.toList = some b.data.toList) := Lib.hid (by rw [hb.out, drop_all s k (by omega)]; simp [unesc])
      go_wp2
      go_ret2
      exact ⟨by rw [HN.out]; simp [bs_of], rfl⟩
set_option maxRecDepth 100000 in
set_option maxHeartbeats 1600000 in
theorem implUnescaped (s : ByteArray) (w : World) (hs : s.size ≤ 2097152) :
    Calls Tryz.prog 131 #[.string s] w fun e w' => e = .returned (.tuple #[.string (bs ((unesc s.data.toList).getD [])), .bool (unesc s.data.toList).isSome]) ∧ Below w.heap.size w w' := by
  obtain ⟨i0, hi, hz0, hz1, hz2⟩ := info_parts infoU8
  go_enter Tryz.func131, Tryz.ntmps131
  go_wp2_with (at_make; refine wpList_make_own _ rfl _ _ 88 rfl w.heap.size 5 i0 (.int .u8 0) 1 Tryz.underlying88 hi hz0 hz1 .i64 .i64 _ s.size rfl rfl rfl ?c1 ?c2 (Nat.le_refl _) ?_)
  case c1 => rw [hz2]; omega
  case c2 => unfold maxLen; omega
  intro w0 hown0 hg0
  have hb0 : Below w.heap.size w w0 := (Below.refl _ _).grown hg0 (Nat.le_refl _) (by simp)
  clear hg0
  go_wp2
  go_loopw [4, 5] (fun v i wr => ∃ k : Nat, k ≤ s.size ∧ i = .int .i64 k ∧ ∃ l : List UInt8, l.length ≤ k ∧ wr.ownsRow w.heap.size 5 1 v l.length (l.map b8) ∧ Below w.heap.size w wr ∧ Hid (unesc s.data.toList = (unesc (s.data.toList.drop k)).map (l ++ ·))) (fun _ i _ => s.size - (intOf i).toNat)
  case atStart => exact ⟨0, Nat.zero_le _, rfl, [], by simp, hown0, hb0, Lib.hid (by simp)⟩
  case round =>
    obtain ⟨k, hk, rfl, l, hbs, hown, hnx, hb⟩ := hrel
    have hsz := hnx.size
    by_cases hlt : k < s.size
    · have hd := drop_cons s k hlt
      have HD := Lib.hid hd; clear hd
      cases h1 : ((s[k].toNat : Int) == 34)
      rotate_left
      · have g1 : (s[k].toNat : Int) = 34 := by simpa using h1
        have HN : Hid (unesc s.data.toList = none) := Lib.hid (by rw [hb.out, HD.out, unesc_quote h1]; rfl)
        go_wp2_with go_in
        go_ret2
        exact ⟨by rw [HN.out]; rfl, hnx⟩

      have g1 : ¬ (s[k].toNat : Int) = 34 := by simpa using h1
      cases h2 : ((s[k].toNat : Int) == 10)
      rotate_left
      · have g2 : (s[k].toNat : Int) = 10 := by simpa using h2
        have HN : Hid (unesc s.data.toList = none) := Lib.hid (by rw [hb.out, HD.out, unesc_line h2]; rfl)
        go_wp2_with go_in
        go_ret2
        exact ⟨by rw [HN.out]; rfl, hnx⟩

      have g2 : ¬ (s[k].toNat : Int) = 10 := by simpa using h2
      cases h3 : ((s[k].toNat : Int) == 92)
      · have g3 : ((s[k].toNat : Int) != 92) = true := by simp [bne, h3]
        have HN : Hid (unesc s.data.toList = (unesc (s.data.toList.drop (k + 1))).map (l ++ s[k] :: ·)) := Lib.hid (by rw [hb.out, HD.out, unesc_plain h1 h2 h3, Option.map_map]; rfl)
        go_wp2_with (first | (at_builtin; refine wpList_append_own _ rfl _ _ 88 rfl w.heap.size 5 i0 (.int .u8 0) 1 1 Tryz.underlying88 hi hz0 hz1 hz2 rfl (by decide) _ _ _ rfl (hown.alloc _) ⟨wr.heap.size, 0, none⟩ 1 1 [.int .u8 s[k].toNat] rfl rfl one_cell ?c2 ?c3 ?c4 ?c5 ?_) | go_in)
        case c2 => simp [Value.oneCell']
        case c3 => unfold maxLen; omega
        case c4 => omega
        case c5 => simp; omega
        intro v' w1 hown' hgrow _
        have R := own_round (m := [s[k]]) hown hnx hown' hgrow rfl rfl
        clear hown' hgrow hown hnx
        go_wp2
        go_roundw
        case rel => exact ⟨k + 1, by omega, by go_num, l ++ [s[k]], by simp; omega, R.1, R.2, Lib.hid (by rw [HN.out]; simp)⟩
        case measure => simp [intOf]; omega

      have g3 : ((s[k].toNat : Int) != 92) = false := by simp [bne, h3]
      by_cases hend : k + 1 = s.size
      · have g4 : ((k : Int) + 1 == (s.size : Int)) = true := by rw [beq_iff_eq]; omega
        have HN : Hid (unesc s.data.toList = none) := Lib.hid (by rw [hb.out, HD.out, drop_all s (k + 1) (by omega), unesc_end h3]; rfl)
        clear hend
        go_wp2_with go_in
        go_ret2
        exact ⟨by rw [HN.out]; rfl, hnx⟩

      have hlt2 : k + 1 < s.size := by omega
      clear hend
      have g4 : ((k : Int) + 1 == (s.size : Int)) = false := by rw [beq_eq_false_iff_ne]; omega
      have HD2 : Hid (s.data.toList.drop (k + 1) = s[k + 1] :: s.data.toList.drop (k + 1 + 1)) := Lib.hid (drop_cons s (k + 1) hlt2)
      have HU := Lib.hid (unesc_two (c := s[k]) (d := s[k + 1]) (r := s.data.toList.drop (k + 1 + 1)) h3)
      cases h5 : ((s[k + 1].toNat : Int) == 34)
      rotate_left
      · have HN : Hid (unesc s.data.toList = (unesc (s.data.toList.drop (k + 1 + 1))).map (l ++ s[k + 1] :: ·)) := Lib.hid (by rw [hb.out, HD.out, HD2.out, HU.out, if_pos h5, Option.map_map]; rfl)
        go_wp2_with (first | (at_builtin; refine wpList_append_own _ rfl _ _ 88 rfl w.heap.size 5 i0 (.int .u8 0) 1 1 Tryz.underlying88 hi hz0 hz1 hz2 rfl (by decide) _ _ _ rfl (hown.alloc _) ⟨wr.heap.size, 0, none⟩ 1 1 [.int .u8 s[k + 1].toNat] rfl rfl one_cell ?c2 ?c3 ?c4 ?c5 ?_) | go_in)
        case c2 => simp [Value.oneCell']
        case c3 => unfold maxLen; omega
        case c4 => omega
        case c5 => simp; omega
        intro v' w1 hown' hgrow _
        have R := own_round (m := [s[k + 1]]) hown hnx hown' hgrow rfl rfl
        clear hown' hgrow hown hnx
        go_wp2
        go_roundw
        case rel => exact ⟨k + 1 + 1, by omega, by go_num, l ++ [s[k + 1]], by simp; omega, R.1, R.2, Lib.hid (by rw [HN.out]; simp)⟩
        case measure => simp [intOf]; omega

      cases h6 : ((s[k + 1].toNat : Int) == 92)
      rotate_left
      · have HN : Hid (unesc s.data.toList = (unesc (s.data.toList.drop (k + 1 + 1))).map (l ++ s[k + 1] :: ·)) := Lib.hid (by rw [hb.out, HD.out, HD2.out, HU.out, if_neg (by simp [h5]), if_pos h6, Option.map_map]; rfl)
        go_wp2_with (first | (at_builtin; refine wpList_append_own _ rfl _ _ 88 rfl w.heap.size 5 i0 (.int .u8 0) 1 1 Tryz.underlying88 hi hz0 hz1 hz2 rfl (by decide) _ _ _ rfl (hown.alloc _) ⟨wr.heap.size, 0, none⟩ 1 1 [.int .u8 s[k + 1].toNat] rfl rfl one_cell ?c2 ?c3 ?c4 ?c5 ?_) | go_in)
        case c2 => simp [Value.oneCell']
        case c3 => unfold maxLen; omega
        case c4 => omega
        case c5 => simp; omega
        intro v' w1 hown' hgrow _
        have R := own_round (m := [s[k + 1]]) hown hnx hown' hgrow rfl rfl
        clear hown' hgrow hown hnx
        go_wp2
        go_roundw
        case rel => exact ⟨k + 1 + 1, by omega, by go_num, l ++ [s[k + 1]], by simp; omega, R.1, R.2, Lib.hid (by rw [HN.out]; simp)⟩
        case measure => simp [intOf]; omega

      cases h7 : ((s[k + 1].toNat : Int) == 110)
      · have HN : Hid (unesc s.data.toList = none) := Lib.hid (by rw [hb.out, HD.out, HD2.out, HU.out, if_neg (by simp [h5]), if_neg (by simp [h6]), if_neg (by simp [h7])]; rfl)
        go_wp2_with go_in
        go_ret2
        exact ⟨by rw [HN.out]; rfl, hnx⟩

      · have HN : Hid (unesc s.data.toList = (unesc (s.data.toList.drop (k + 1 + 1))).map (l ++ 10 :: ·)) := Lib.hid (by rw [hb.out, HD.out, HD2.out, HU.out, if_neg (by simp [h5]), if_neg (by simp [h6]), if_pos h7, Option.map_map]; rfl)
        go_wp2_with (first | (at_builtin; refine wpList_append_own _ rfl _ _ 88 rfl w.heap.size 5 i0 (.int .u8 0) 1 1 Tryz.underlying88 hi hz0 hz1 hz2 rfl (by decide) _ _ _ rfl (hown.alloc _) ⟨wr.heap.size, 0, none⟩ 1 1 [.int .u8 10] rfl rfl one_cell ?c2 ?c3 ?c4 ?c5 ?_) | go_in)
        case c2 => simp [Value.oneCell']
        case c3 => unfold maxLen; omega
        case c4 => omega
        case c5 => simp; omega
        intro v' w1 hown' hgrow _
        have R := own_round (m := [10]) hown hnx hown' hgrow rfl rfl
        clear hown' hgrow hown hnx
        go_wp2
        go_roundw
        case rel => exact ⟨k + 1 + 1, by omega, by go_num, l ++ [10], by simp; omega, R.1, R.2, Lib.hid (by rw [HN.out]; simp)⟩
        case measure => simp [intOf]; omega

    · have HN : Hid (unesc s.data.toList = some l) := Lib.hid (by rw [hb.out, drop_all s k (by omega)]; simp [unesc])
      have hcv := str_of_own (P := Tryz.prog) 88 9 Tryz.underlying88 Tryz.underlying5 Tryz.underlying9 hown
      go_wp2
      go_ret2
      exact ⟨by rw [HN.out]; rfl, hnx⟩
end Go.Proofs.YtkcbgppplgkkbaaGreat
