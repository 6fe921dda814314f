/- The contract of the model's KindOf. -/
import Derived.Test.YtkcbgppplgkkbaaGreatSpecT
namespace Go.Proofs.YtkcbgppplgkkbaaGreat
open Go.RowKit
theorem made_name (m : List UInt8) : made m 12 (othB [58, 47, 35]) = made m 12 nameB := by
  unfold made
  congr 2
  funext c
  have h1 := u8_int c 58; have h2 := u8_int c 47; have h3 := u8_int c 35
  unfold othB nameB
  rw [Bool.eq_iff_iff]
  simp only [Bool.or_eq_true, List.contains_cons, List.contains_nil, Bool.or_false, beq_iff_eq] at *
  rw [← h1, ← h2, ← h3]
  simp [or_assoc]
theorem made_lab (m : List UInt8) (k : Nat) : made m k (othB []) = made m k labB := by
  unfold made
  congr 2
  funext c
  unfold othB
  simp
/-- The answer by the first byte, for a word of two bytes or more that is no text. -/
theorem kind_of (s : ByteArray) (h : 2 ≤ s.size) (hn : kindL s.data.toList ≠ 2) : kindL s.data.toList = if s[0] = 60 then (if s[s.size - 1] = 62 then (if made (s.extract 1 (s.size - 1)).data.toList 12 nameB then 1 else 0) else 0) else
    if s[0] = 95 then (if s[1] = 58 then (if made (s.extract 2 s.size).data.toList 6 labB then 3 else 0) else 0) else if s[0] = 63 then (if made (s.extract 1 s.size).data.toList 6 labB then 4 else 0) else 0 := by
  have h0 := drop_cons s 0 (by omega)
  rw [List.drop_zero] at h0
  have h1 := drop_cons s 1 (by omega)
  have he := ends s h
  have e1 : (s.extract 1 s.size).data.toList = s.data.toList.drop 1 := by rw [ext_toList, take_all _ _ (Nat.le_refl _)]
  have e2 : (s.extract 2 s.size).data.toList = s.data.toList.drop 2 := by rw [ext_toList, take_all _ _ (Nat.le_refl _)]
  have e3 : s.data.toList.drop 1 = (s.extract 1 (s.size - 1)).data.toList ++ [s[s.size - 1]] := by
    have := congrArg (List.drop 1) he; simpa using this
  have g1 : (s.data.toList.drop 1).getLast? = some s[s.size - 1] := by rw [e3, List.getLast?_concat]
  have g2 : (s.data.toList.drop 1).dropLast = (s.extract 1 (s.size - 1)).data.toList := by rw [e3, List.dropLast_concat]
  have g3 : (s.data.toList.drop 1).head? = some s[1] := by rw [h1]; rfl
  have g4 : (s.data.toList.drop 1).drop 1 = s.data.toList.drop 2 := by rw [List.drop_drop]
  have hk : kindL s.data.toList = kindL (s[0] :: s.data.toList.drop 1) := by rw [← h0]
  rw [hk] at hn ⊢
  rw [kindL_cons, g1, g2, g3, g4] at hn ⊢
  rw [e1, e2]
  simp only [Option.some.injEq] at hn ⊢
  by_cases q : s[0] = 34
  · rw [if_neg (by rw [q]; decide), if_pos q] at hn
    have n1 : ¬ s[0] = 60 := by rw [q]; decide
    have n2 : ¬ s[0] = 95 := by rw [q]; decide
    have n3 : ¬ s[0] = 63 := by rw [q]; decide
    rw [if_neg n1, if_pos q, if_neg n1, if_neg n2, if_neg n3]
    by_cases q1 : s[s.size - 1] = 34
    · rw [if_pos q1] at hn ⊢
      cases q2 : textOk (s.extract 1 (s.size - 1)).data.toList
      · simp
      · rw [q2] at hn; simp at hn
    · rw [if_neg q1]
  · simp only [if_neg q]
theorem pre_two (s : ByteArray) (h : 2 ≤ s.size) : (s.extract 0 2).toList = [s[0], s[1]] := by
  have h0 := drop_cons s 0 (by omega)
  have h1 := drop_cons s 1 (by omega)
  rw [List.drop_zero] at h0
  rw [ByteArray.toList_eq, ext_toList, h0, h1]
  rfl
theorem kind_small (s : ByteArray) (h : s.size < 2) (_hn : kindL s.data.toList ≠ 2) : kindL s.data.toList = 0 := by
  rcases hl : s.data.toList with _ | ⟨x, r⟩
  · rfl
  · have : r = [] := by have := size_len s; rw [hl, List.length_cons] at this; exact List.length_eq_zero_iff.1 (by omega)
    subst this
    rw [kindL_cons]; simp [made_nil]
theorem pair_ne (a b : UInt8) (h : ¬ (a = 95 ∧ b = 58)) : ([a, b] == [95, 58]) = false := by
  rw [beq_eq_false_iff_ne]
  intro e
  simp only [List.cons.injEq, and_true] at e
  exact h e
theorem u8_ne {c d : UInt8} (h : ¬ c = d) : ((c.toNat : Int) == (d.toNat : Int)) = false := by
  rw [beq_eq_false_iff_ne]
  intro e
  exact h ((u8_int c d).1 (by rw [beq_iff_eq]; exact e))
theorem u8_yes {c d : UInt8} (h : c = d) : ((c.toNat : Int) == (d.toNat : Int)) = true := (u8_int c d).2 h
set_option maxRecDepth 100000 in
set_option maxHeartbeats 1600000 in
theorem specKindOf (s : ByteArray) (hs : s.size ≤ 2097152) (w : World) :
    Calls Tryz.prog 18 #[.string s] w fun e w' => e = .returned (.int .i64 (kindL s.data.toList)) ∧ Below w.heap.size w w' := by
  have C := fun w => specText s hs w
  have hk := textIn_kind s.data.toList
  generalize hq : (bs ((textIn s.data.toList).getD [])) = q at C
  clear hq
  cases hi : (textIn s.data.toList).isSome
  rotate_left
  · rw [hi] at C hk
    have HK : Hid (kindL s.data.toList = 2) := Lib.hid (of_decide_eq_true hk.symm)
    have D := Lib.hid C
    clear C hk hi
    go_enter Tryz.func18, Tryz.ntmps18
    go_wp2_with fail
    refine (D.out _).mono ?_
    rintro e w' ⟨rfl, rfl⟩
    go_wp2_with fail
    go_ret
    exact ⟨by rw [HK.out]; rfl, Below.refl _ _⟩
  rw [hi] at C hk
  have hn : kindL s.data.toList ≠ 2 := of_decide_eq_false hk.symm
  have D := Lib.hid C
  clear C hk hi
  by_cases h2 : 2 ≤ s.size
  rotate_left
  · have HK : Hid (kindL s.data.toList = 0) := Lib.hid (kind_small s (by omega) hn)
    have g1 : ¬ (2 : Int) < s.size := by omega
    have g2 : ¬ (1 : Int) < s.size := by omega
    clear h2 hn
    go_enter Tryz.func18, Tryz.ntmps18
    go_wp2_with fail
    refine (D.out _).mono ?_
    rintro e w' ⟨rfl, rfl⟩
    go_wp2_with fail
    go_ret
    exact ⟨by rw [HK.out]; rfl, Below.refl _ _⟩
  have HK := Lib.hid (kind_of s h2 hn)
  have HP := pre_two s h2
  clear hn
  have i0 : (0 : Int) < s.size := by omega
  have i1 : (1 : Int) < s.size := by omega
  have i2 : (2 : Int) ≤ s.size := by omega
  have z1 : (s.extract 1 (s.size - 1)).size ≤ 2097152 := by simp; omega
  have z2 : (s.extract 2 s.size).size ≤ 2097152 := by simp; omega
  have z3 : (s.extract 1 s.size).size ≤ 2097152 := by simp; omega
  have OA := fun w => specOf (s.extract 1 (s.size - 1)) (bs [58, 47, 35]) 12 z1 (by decide) w
  have OB := fun w => specOf (s.extract 2 s.size) (bs []) 6 z2 (by decide) w
  have OC := fun w => specOf (s.extract 1 s.size) (bs []) 6 z3 (by decide) w
  rw [bs_toList, made_name] at OA
  rw [bs_toList, made_lab] at OB
  rw [bs_toList, made_lab] at OC
  clear z1 z2 z3
  by_cases q1 : s[0] = 60
  · have b1 : ((s[0].toNat : Int) == 60) = true := u8_yes q1
    have b3 : ((s[0].toNat : Int) == 63) = false := u8_ne (d := 63) (by rw [q1]; decide)
    have hp : ((s.extract 0 2).toList == [95, 58]) = false := by rw [HP]; exact pair_ne _ _ (by rw [q1]; simp)
    have HJ : Hid (kindL s.data.toList = if s[s.size - 1] = 62 then (if made (s.extract 1 (s.size - 1)).data.toList 12 nameB then 1 else 0) else 0) := Lib.hid (by rw [HK.out, if_pos q1])
    clear HP HK OB OC
    by_cases g : (2 : Int) < s.size
    · by_cases q2 : s[s.size - 1] = 62
      · have b2 : ((s[s.size - 1].toNat : Int) == 62) = true := u8_yes q2
        cases hm : made (s.extract 1 (s.size - 1)).data.toList 12 nameB
        all_goals
          rw [hm] at OA
          have HM : Hid (kindL s.data.toList = if made (s.extract 1 (s.size - 1)).data.toList 12 nameB then 1 else 0) := Lib.hid (by rw [HJ.out, if_pos q2])
          rw [hm] at HM
          have DA := Lib.hid OA
          clear OA hm HJ q1 q2
          go_enter Tryz.func18, Tryz.ntmps18
          go_wp2_with fail
          refine (D.out _).mono ?_
          rintro e w' ⟨rfl, rfl⟩
          go_wp2_with fail
          refine (DA.out _).mono ?_
          rintro e w' ⟨rfl, hb⟩
          go_wp2_with fail
          go_ret
          exact ⟨by rw [HM.out]; rfl, hb⟩
      · have b2 : ((s[s.size - 1].toNat : Int) == 62) = false := u8_ne q2
        have HM : Hid (kindL s.data.toList = 0) := Lib.hid (by rw [HJ.out, if_neg q2])
        clear OA HJ q1 q2
        go_enter Tryz.func18, Tryz.ntmps18
        go_wp2_with fail
        refine (D.out _).mono ?_
        rintro e w' ⟨rfl, rfl⟩
        go_wp2_with fail
        go_ret
        exact ⟨by rw [HM.out]; rfl, Below.refl _ _⟩
    · have HM : Hid (kindL s.data.toList = 0) := Lib.hid (by
        rw [HJ.out]
        have : (s.extract 1 (s.size - 1)).data.toList = [] := by rw [ext_toList]; exact List.drop_of_length_le (by rw [List.length_take, size_len]; omega)
        rw [this, made_nil]; simp)
      clear OA HJ q1
      go_enter Tryz.func18, Tryz.ntmps18
      go_wp2_with fail
      refine (D.out _).mono ?_
      rintro e w' ⟨rfl, rfl⟩
      go_wp2_with fail
      go_ret
      exact ⟨by rw [HM.out]; rfl, Below.refl _ _⟩
  have b1 : ((s[0].toNat : Int) == 60) = false := u8_ne q1
  by_cases q2 : s[0] = 95 ∧ s[1] = 58
  · have b3 : ((s[0].toNat : Int) == 63) = false := u8_ne (d := 63) (by rw [q2.1]; decide)
    have hp : ((s.extract 0 2).toList == [95, 58]) = true := by rw [HP, q2.1, q2.2]; rfl
    have HJ : Hid (kindL s.data.toList = if made (s.extract 2 s.size).data.toList 6 labB then 3 else 0) := Lib.hid (by rw [HK.out, if_neg q1, if_pos q2.1, if_pos q2.2])
    clear HP HK OA OC q1 q2
    by_cases g : (2 : Int) < s.size
    · cases hm : made (s.extract 2 s.size).data.toList 6 labB
      all_goals
        rw [hm] at OB HJ
        have DA := Lib.hid OB
        clear OB hm
        go_enter Tryz.func18, Tryz.ntmps18
        go_wp2_with fail
        refine (D.out _).mono ?_
        rintro e w' ⟨rfl, rfl⟩
        go_wp2_with fail
        refine (DA.out _).mono ?_
        rintro e w' ⟨rfl, hb⟩
        go_wp2_with fail
        go_ret
        exact ⟨by rw [HJ.out]; rfl, hb⟩
    · have HM : Hid (kindL s.data.toList = 0) := Lib.hid (by
        rw [HJ.out]
        have : (s.extract 2 s.size).data.toList = [] := by rw [ext_toList]; exact List.drop_of_length_le (by rw [List.length_take, size_len]; omega)
        rw [this, made_nil]; simp)
      clear OB HJ
      go_enter Tryz.func18, Tryz.ntmps18
      go_wp2_with fail
      refine (D.out _).mono ?_
      rintro e w' ⟨rfl, rfl⟩
      go_wp2_with fail
      go_ret
      exact ⟨by rw [HM.out]; rfl, Below.refl _ _⟩
  have hp : ((s.extract 0 2).toList == [95, 58]) = false := by rw [HP]; exact pair_ne _ _ q2
  have HJ : Hid (kindL s.data.toList = if s[0] = 63 then (if made (s.extract 1 s.size).data.toList 6 labB then 4 else 0) else 0) := Lib.hid (by
    rw [HK.out, if_neg q1]
    by_cases q3 : s[0] = 95
    · have q4 : ¬ s[1] = 58 := fun h => q2 ⟨q3, h⟩
      rw [if_pos q3, if_neg q4, if_neg (by rw [q3]; decide)]
    · rw [if_neg q3])
  clear HP HK OA OB q1 q2
  by_cases q3 : s[0] = 63
  · have b3 : ((s[0].toNat : Int) == 63) = true := u8_yes q3
    cases hm : made (s.extract 1 s.size).data.toList 6 labB
    all_goals
      have HM : Hid (kindL s.data.toList = if made (s.extract 1 s.size).data.toList 6 labB then 4 else 0) := Lib.hid (by rw [HJ.out, if_pos q3])
      rw [hm] at OC HM
      have DA := Lib.hid OC
      clear OC hm HJ q3
      by_cases g : (2 : Int) < s.size
      all_goals
        go_enter Tryz.func18, Tryz.ntmps18
        go_wp2_with fail
        refine (D.out _).mono ?_
        rintro e w' ⟨rfl, rfl⟩
        go_wp2_with fail
        refine (DA.out _).mono ?_
        rintro e w' ⟨rfl, hb⟩
        go_wp2_with fail
        go_ret
        exact ⟨by rw [HM.out]; rfl, hb⟩
  · have b3 : ((s[0].toNat : Int) == 63) = false := u8_ne q3
    have HM : Hid (kindL s.data.toList = 0) := Lib.hid (by rw [HJ.out, if_neg q3])
    clear OC HJ q3
    by_cases g : (2 : Int) < s.size
    all_goals
      go_enter Tryz.func18, Tryz.ntmps18
      go_wp2_with fail
      refine (D.out _).mono ?_
      rintro e w' ⟨rfl, rfl⟩
      go_wp2_with fail
      go_ret
      exact ⟨by rw [HM.out]; rfl, Below.refl _ _⟩
end Go.Proofs.YtkcbgppplgkkbaaGreat
