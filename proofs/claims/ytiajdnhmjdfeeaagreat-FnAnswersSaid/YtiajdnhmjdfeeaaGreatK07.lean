/- The contracts of the model's functions on texts.; The contract of the model's KindOf.; The contracts of the functions on triples: which are right. -/
import Derived.Test.YtiajdnhmjdfeeaaGreatK06
import Derived.Deep.RegionHeld3
namespace Go.Proofs.YtiajdnhmjdfeeaaGreat
open Go.RowKit
theorem text_cases (c : UInt8) : (textB c = true ∧ ((c.toNat : Int) != 10) = false) ∨ (textB c = true ∧ ((c.toNat : Int) != 10) = true ∧ 32 ≤ (c.toNat : Int) ∧ (c.toNat : Int) ≤ 126) ∨
    (textB c = false ∧ ((c.toNat : Int) != 10) = true ∧ (c.toNat : Int) < 32) ∨ (textB c = false ∧ ((c.toNat : Int) != 10) = true ∧ 126 < (c.toNat : Int)) := by
  unfold textB
  simp only [Bool.or_eq_true, Bool.and_eq_true, decide_eq_true_eq, Bool.or_eq_false_iff, Bool.and_eq_false_iff, decide_eq_false_iff_not, bne_iff_ne, bne_eq_false_iff_eq, beq_iff_eq, beq_eq_false_iff_ne]
  omega
theorem textOk_of {r t : List UInt8} (h : unesc r = some t) : textOk r = (decide (t.length ≤ 12) && t.all textB) := by
  unfold textOk made
  rw [h]
  cases t with
  | nil => rfl
  | cons c q => simp
set_option maxRecDepth 100000 in
set_option maxHeartbeats 1600000 in
theorem specText (s : ByteArray) (hs : s.size ≤ 2097152) (w : World) :
    Calls Tryz.prog 145 #[.string s] w fun e w' => e = .returned (.tuple #[.string (bs ((textIn s.data.toList).getD [])), .bool (textIn s.data.toList).isSome]) ∧ w = w' := by
  by_cases h2 : 2 ≤ s.size
  rotate_left
  · have HN : Hid (textIn s.data.toList = none) := Lib.hid (by
      rcases hl : s.data.toList with _ | ⟨x, r⟩
      · rfl
      · have : r = [] := by have := size_len s; rw [hl, List.length_cons] at this; exact List.length_eq_zero_iff.1 (by omega)
        subst this
        rw [textIn_cons]; simp)
    have g : (s.size : Int) < 2 := by omega
    clear h2
    go_enter Tryz.func145, Tryz.ntmps145
    go_wp2_with fail
    go_ret2
    exact ⟨by rw [HN.out]; rfl, rfl⟩
  have he := ends s h2
  have HT : Hid (textIn s.data.toList = if s[0] = 34 ∧ s[s.size - 1] = 34 then (if textOk (s.extract 1 (s.size - 1)).data.toList then unesc (s.extract 1 (s.size - 1)).data.toList else none) else none) := Lib.hid (by
    rw [he, textIn_cons, List.getLast?_concat, List.dropLast_concat]; simp)
  clear he
  have g0 : ¬ (s.size : Int) < 2 := by omega
  have g1 : (0 : Int) < s.size := by omega
  cases c0 : ((s[0].toNat : Int) == 34)
  · have d0 : ((s[0].toNat : Int) != 34) = true := by simp [bne, c0]
    have HN : Hid (textIn s.data.toList = none) := Lib.hid (by rw [HT.out, if_neg]; rintro ⟨h, _⟩; rw [h] at c0; exact absurd c0 (by decide))
    go_enter Tryz.func145, Tryz.ntmps145
    go_wp2_with fail
    go_ret2
    exact ⟨by rw [HN.out]; rfl, rfl⟩
  have d0 : ((s[0].toNat : Int) != 34) = false := by simp [bne, c0]
  cases c1 : ((s[s.size - 1].toNat : Int) == 34)
  · have d1 : ((s[s.size - 1].toNat : Int) != 34) = true := by simp [bne, c1]
    have HN : Hid (textIn s.data.toList = none) := Lib.hid (by rw [HT.out, if_neg]; rintro ⟨_, h⟩; rw [h] at c1; exact absurd c1 (by decide))
    go_enter Tryz.func145, Tryz.ntmps145
    go_wp2_with fail
    go_ret2
    exact ⟨by rw [HN.out]; rfl, rfl⟩
  have d1 : ((s[s.size - 1].toNat : Int) != 34) = false := by simp [bne, c1]
  have hu : (s.extract 1 (s.size - 1)).size ≤ 2097152 := by simp; omega
  have C := fun w => specUnescaped (s.extract 1 (s.size - 1)) w hu
  have HV : Hid (textIn s.data.toList = if textOk (s.extract 1 (s.size - 1)).data.toList then unesc (s.extract 1 (s.size - 1)).data.toList else none) := Lib.hid (by
    rw [HT.out, if_pos ⟨(u8_int s[0] 34).1 c0, (u8_int s[s.size - 1] 34).1 c1⟩])
  have hun := unesc_len (s.extract 1 (s.size - 1)).data.toList
  rw [size_len] at hun
  cases hx : unesc (s.extract 1 (s.size - 1)).data.toList with
  | none =>
    rw [hx] at C
    have D := Lib.hid C
    have HN : Hid (textIn s.data.toList = none) := Lib.hid (by rw [HV.out, hx]; simp)
    clear C hun hu hx
    go_enter Tryz.func145, Tryz.ntmps145
    go_wp2_with fail
    refine (D.out _).mono ?_
    rintro e w' ⟨rfl, rfl⟩
    go_wp2_with fail
    go_ret2
    exact ⟨by rw [HN.out]; rfl, rfl⟩
  | some t =>
    have htl := hun t hx
    rw [hx] at C
    have HO := Lib.hid (textOk_of hx)
    have D := Lib.hid C
    have HX := Lib.hid hx
    have htl2 : t.length ≤ 2097152 := by omega
    clear C hun hu hx htl
    by_cases hlen : t.length ≤ 12
    rotate_left
    · have HN : Hid (textIn s.data.toList = none) := Lib.hid (by rw [HV.out, HO.out, decide_eq_false hlen]; rfl)
      have g3 : (12 : Int) < (bs t).size := by rw [bs_size]; omega
      clear hlen
      go_enter Tryz.func145, Tryz.ntmps145
      go_wp2_with fail
      refine (D.out _).mono ?_
      rintro e w' ⟨rfl, rfl⟩
      go_wp2_with fail
      go_ret2
      exact ⟨by rw [HN.out]; rfl, rfl⟩
    · have HY : Hid (textOk (s.extract 1 (s.size - 1)).data.toList = t.all textB) := Lib.hid (by rw [HO.out, decide_eq_true hlen]; rfl)
      obtain ⟨q, hq⟩ : ∃ q : ByteArray, bs t = q := ⟨_, rfl⟩
      obtain rfl : q.data.toList = t := by rw [← hq, bs_toList]
      rw [size_len] at hlen htl2
      rw [Option.getD_some, Option.isSome_some, bs_of] at D
      clear hq
      have g3 : ¬ (12 : Int) < q.size := by omega
      go_enter Tryz.func145, Tryz.ntmps145
      go_wp2_with fail
      refine (D.out _).mono ?_
      rintro e w' ⟨rfl, rfl⟩
      go_wp2_with fail
      go_loop [6] (fun i => ∃ k : Nat, k ≤ q.size ∧ i = .int .i64 k ∧ Hid ((q.data.toList.take k).all textB = true)) (fun i => q.size - (intOf i).toNat)
      case atStart => exact ⟨0, Nat.zero_le _, rfl, Lib.hid (by simp)⟩
      case round =>
        obtain ⟨k, hk, rfl, hb⟩ := hrel
        by_cases hlt : k < q.size
        · have HS := Lib.hid (take_snoc q k hlt)
          have HD := Lib.hid (drop_cons q k hlt)
          rcases text_cases q[k] with ⟨hl, e1⟩ | ⟨hl, e1, e2, e3⟩ | ⟨hl, e1, e2⟩ | ⟨hl, e1, e2⟩
          · have HF : Hid ((q.data.toList.take (k + 1)).all textB = true) := Lib.hid (by rw [HS.out, List.all_append, hb.out]; simp [hl])
            clear hl
            go_wp2_with fail
            go_round
            case rel => exact ⟨k + 1, by omega, by go_num, HF⟩
            case measure => simp [intOf]; omega
          · have HF : Hid ((q.data.toList.take (k + 1)).all textB = true) := Lib.hid (by rw [HS.out, List.all_append, hb.out]; simp [hl])
            clear hl
            go_wp2_with fail
            go_round
            case rel => exact ⟨k + 1, by omega, by go_num, HF⟩
            case measure => simp [intOf]; omega
          all_goals
            have HF : Hid (q.data.toList.all textB = false) := Lib.hid (by
              rw [← List.take_append_drop k q.data.toList, List.all_append, HD.out, List.all_cons, hl]; simp)
            have HN : Hid (textIn s.data.toList = none) := Lib.hid (by rw [HV.out, HY.out, HF.out]; rfl)
            clear hl
            go_wp2_with fail
            go_ret2
            exact ⟨by rw [HN.out]; rfl, rfl⟩
        · have HF : Hid (q.data.toList.all textB = true) := Lib.hid (by have := hb.out; rwa [take_all _ _ (by omega)] at this)
          have HN : Hid (textIn s.data.toList = some q.data.toList) := Lib.hid (by rw [HV.out, HY.out, HF.out, HX.out]; rfl)
          go_wp2_with fail
          go_ret2
          exact ⟨by rw [HN.out]; simp [bs_of], rfl⟩
end Go.Proofs.YtiajdnhmjdfeeaaGreat
namespace Go.Proofs.YtiajdnhmjdfeeaaGreat
open Go.RowKit
theorem made_name (m : List UInt8) : made m 12 (othB [58, 47, 35]) = made m 12 nameB := by
  unfold made
  congr 2
  funext c
  have h1 := u8_int c 58; have h2 := u8_int c 47; have h3 := u8_int c 35
  unfold othB nameB
  rw [Bool.eq_iff_iff]
  simp only [Bool.or_eq_true, List.contains_cons, List.contains_nil, Bool.or_false, beq_iff_eq] at *
  rw [← h1, ← h2, ← h3]
  simp [or_assoc]
theorem made_lab (m : List UInt8) (k : Nat) : made m k (othB []) = made m k labB := by
  unfold made
  congr 2
  funext c
  unfold othB
  simp
/-- The answer by the first byte, for a word of two bytes or more that is no text. -/
theorem kind_of (s : ByteArray) (h : 2 ≤ s.size) (hn : kindL s.data.toList ≠ 2) : kindL s.data.toList = if s[0] = 60 then (if s[s.size - 1] = 62 then (if made (s.extract 1 (s.size - 1)).data.toList 12 nameB then 1 else 0) else 0) else
    if s[0] = 95 then (if s[1] = 58 then (if made (s.extract 2 s.size).data.toList 6 labB then 3 else 0) else 0) else if s[0] = 63 then (if made (s.extract 1 s.size).data.toList 6 labB then 4 else 0) else 0 := by
  have h0 := drop_cons s 0 (by omega)
  rw [List.drop_zero] at h0
  have h1 := drop_cons s 1 (by omega)
  have he := ends s h
  have e1 : (s.extract 1 s.size).data.toList = s.data.toList.drop 1 := by rw [ext_toList, take_all _ _ (Nat.le_refl _)]
  have e2 : (s.extract 2 s.size).data.toList = s.data.toList.drop 2 := by rw [ext_toList, take_all _ _ (Nat.le_refl _)]
  have e3 : s.data.toList.drop 1 = (s.extract 1 (s.size - 1)).data.toList ++ [s[s.size - 1]] := by
    have := congrArg (List.drop 1) he; simpa using this
  have g1 : (s.data.toList.drop 1).getLast? = some s[s.size - 1] := by rw [e3, List.getLast?_concat]
  have g2 : (s.data.toList.drop 1).dropLast = (s.extract 1 (s.size - 1)).data.toList := by rw [e3, List.dropLast_concat]
  have g3 : (s.data.toList.drop 1).head? = some s[1] := by rw [h1]; rfl
  have g4 : (s.data.toList.drop 1).drop 1 = s.data.toList.drop 2 := by rw [List.drop_drop]
  have hk : kindL s.data.toList = kindL (s[0] :: s.data.toList.drop 1) := by rw [← h0]
  rw [hk] at hn ⊢
  rw [kindL_cons, g1, g2, g3, g4] at hn ⊢
  rw [e1, e2]
  simp only [Option.some.injEq] at hn ⊢
  by_cases q : s[0] = 34
  · rw [if_neg (by rw [q]; decide), if_pos q] at hn
    have n1 : ¬ s[0] = 60 := by rw [q]; decide
    have n2 : ¬ s[0] = 95 := by rw [q]; decide
    have n3 : ¬ s[0] = 63 := by rw [q]; decide
    rw [if_neg n1, if_pos q, if_neg n1, if_neg n2, if_neg n3]
    by_cases q1 : s[s.size - 1] = 34
    · rw [if_pos q1] at hn ⊢
      cases q2 : textOk (s.extract 1 (s.size - 1)).data.toList
      · simp
      · rw [q2] at hn; simp at hn
    · rw [if_neg q1]
  · simp only [if_neg q]
theorem pre_two (s : ByteArray) (h : 2 ≤ s.size) : (s.extract 0 2).toList = [s[0], s[1]] := by
  have h0 := drop_cons s 0 (by omega)
  have h1 := drop_cons s 1 (by omega)
  rw [List.drop_zero] at h0
  rw [ByteArray.toList_eq, ext_toList, h0, h1]
  rfl
theorem kind_small (s : ByteArray) (h : s.size < 2) (_hn : kindL s.data.toList ≠ 2) : kindL s.data.toList = 0 := by
  rcases hl : s.data.toList with _ | ⟨x, r⟩
  · rfl
  · have : r = [] := by have := size_len s; rw [hl, List.length_cons] at this; exact List.length_eq_zero_iff.1 (by omega)
    subst this
    rw [kindL_cons]; simp [made_nil]
theorem pair_ne (a b : UInt8) (h : ¬ (a = 95 ∧ b = 58)) : ([a, b] == [95, 58]) = false := by
  rw [beq_eq_false_iff_ne]
  intro e
  simp only [List.cons.injEq, and_true] at e
  exact h e
theorem u8_ne {c d : UInt8} (h : ¬ c = d) : ((c.toNat : Int) == (d.toNat : Int)) = false := by
  rw [beq_eq_false_iff_ne]
  intro e
  exact h ((u8_int c d).1 (by rw [beq_iff_eq]; exact e))
theorem u8_yes {c d : UInt8} (h : c = d) : ((c.toNat : Int) == (d.toNat : Int)) = true := (u8_int c d).2 h
set_option maxRecDepth 100000 in
set_option maxHeartbeats 1600000 in
theorem specKindOf (s : ByteArray) (hs : s.size ≤ 2097152) (w : World) :
    Calls Tryz.prog 105 #[.string s] w fun e w' => e = .returned (.int .i64 (kindL s.data.toList)) ∧ Below w.heap.size w w' := by
  have C := fun w => specText s hs w
  have hk := textIn_kind s.data.toList
  generalize hq : (bs ((textIn s.data.toList).getD [])) = q at C
  clear hq
  cases hi : (textIn s.data.toList).isSome
  rotate_left
  · rw [hi] at C hk
    have HK : Hid (kindL s.data.toList = 2) := Lib.hid (of_decide_eq_true hk.symm)
    have D := Lib.hid C
    clear C hk hi
    go_enter Tryz.func105, Tryz.ntmps105
    go_wp2_with fail
    refine (D.out _).mono ?_
    rintro e w' ⟨rfl, rfl⟩
    go_wp2_with fail
    go_ret
    exact ⟨by rw [HK.out]; rfl, Below.refl _ _⟩
  rw [hi] at C hk
  have hn : kindL s.data.toList ≠ 2 := of_decide_eq_false hk.symm
  have D := Lib.hid C
  clear C hk hi
  by_cases h2 : 2 ≤ s.size
  rotate_left
  · have HK : Hid (kindL s.data.toList = 0) := Lib.hid (kind_small s (by omega) hn)
    have g1 : ¬ (2 : Int) < s.size := by omega
    have g2 : ¬ (1 : Int) < s.size := by omega
    clear h2 hn
    go_enter Tryz.func105, Tryz.ntmps105
    go_wp2_with fail
    refine (D.out _).mono ?_
    rintro e w' ⟨rfl, rfl⟩
    go_wp2_with fail
    go_ret
    exact ⟨by rw [HK.out]; rfl, Below.refl _ _⟩
  have HK := Lib.hid (kind_of s h2 hn)
  have HP := pre_two s h2
  clear hn
  have i0 : (0 : Int) < s.size := by omega
  have i1 : (1 : Int) < s.size := by omega
  have i2 : (2 : Int) ≤ s.size := by omega
  have z1 : (s.extract 1 (s.size - 1)).size ≤ 2097152 := by simp; omega
  have z2 : (s.extract 2 s.size).size ≤ 2097152 := by simp; omega
  have z3 : (s.extract 1 s.size).size ≤ 2097152 := by simp; omega
  have OA := fun w => specOf (s.extract 1 (s.size - 1)) (bs [58, 47, 35]) 12 z1 (by decide) w
  have OB := fun w => specOf (s.extract 2 s.size) (bs []) 6 z2 (by decide) w
  have OC := fun w => specOf (s.extract 1 s.size) (bs []) 6 z3 (by decide) w
  rw [bs_toList, made_name] at OA
  rw [bs_toList, made_lab] at OB
  rw [bs_toList, made_lab] at OC
  clear z1 z2 z3
  by_cases q1 : s[0] = 60
  · have b1 : ((s[0].toNat : Int) == 60) = true := u8_yes q1
    have b3 : ((s[0].toNat : Int) == 63) = false := u8_ne (d := 63) (by rw [q1]; decide)
    have hp : ((s.extract 0 2).toList == [95, 58]) = false := by rw [HP]; exact pair_ne _ _ (by rw [q1]; simp)
    have HJ : Hid (kindL s.data.toList = if s[s.size - 1] = 62 then (if made (s.extract 1 (s.size - 1)).data.toList 12 nameB then 1 else 0) else 0) := Lib.hid (by rw [HK.out, if_pos q1])
    clear HP HK OB OC
    by_cases g : (2 : Int) < s.size
    · by_cases q2 : s[s.size - 1] = 62
      · have b2 : ((s[s.size - 1].toNat : Int) == 62) = true := u8_yes q2
        cases hm : made (s.extract 1 (s.size - 1)).data.toList 12 nameB
        all_goals
          rw [hm] at OA
          have HM : Hid (kindL s.data.toList = if made (s.extract 1 (s.size - 1)).data.toList 12 nameB then 1 else 0) := Lib.hid (by rw [HJ.out, if_pos q2])
          rw [hm] at HM
          have DA := Lib.hid OA
          clear OA hm HJ q1 q2
          go_enter Tryz.func105, Tryz.ntmps105
          go_wp2_with fail
          refine (D.out _).mono ?_
          rintro e w' ⟨rfl, rfl⟩
          go_wp2_with fail
          refine (DA.out _).mono ?_
          rintro e w' ⟨rfl, hb⟩
          go_wp2_with fail
          go_ret
          exact ⟨by rw [HM.out]; rfl, hb⟩
      · have b2 : ((s[s.size - 1].toNat : Int) == 62) = false := u8_ne q2
        have HM : Hid (kindL s.data.toList = 0) := Lib.hid (by rw [HJ.out, if_neg q2])
        clear OA HJ q1 q2
        go_enter Tryz.func105, Tryz.ntmps105
        go_wp2_with fail
        refine (D.out _).mono ?_
        rintro e w' ⟨rfl, rfl⟩
        go_wp2_with fail
        go_ret
        exact ⟨by rw [HM.out]; rfl, Below.refl _ _⟩
    · have HM : Hid (kindL s.data.toList = 0) := Lib.hid (by
        rw [HJ.out]
        have : (s.extract 1 (s.size - 1)).data.toList = [] := by rw [ext_toList]; exact List.drop_of_length_le (by rw [List.length_take, size_len]; omega)
        rw [this, made_nil]; simp)
      clear OA HJ q1
      go_enter Tryz.func105, Tryz.ntmps105
      go_wp2_with fail
      refine (D.out _).mono ?_
      rintro e w' ⟨rfl, rfl⟩
      go_wp2_with fail
      go_ret
      exact ⟨by rw [HM.out]; rfl, Below.refl _ _⟩
  have b1 : ((s[0].toNat : Int) == 60) = false := u8_ne q1
  by_cases q2 : s[0] = 95 ∧ s[1] = 58
  · have b3 : ((s[0].toNat : Int) == 63) = false := u8_ne (d := 63) (by rw [q2.1]; decide)
    have hp : ((s.extract 0 2).toList == [95, 58]) = true := by rw [HP, q2.1, q2.2]; rfl
    have HJ : Hid (kindL s.data.toList = if made (s.extract 2 s.size).data.toList 6 labB then 3 else 0) := Lib.hid (by rw [HK.out, if_neg q1, if_pos q2.1, if_pos q2.2])
    clear HP HK OA OC q1 q2
    by_cases g : (2 : Int) < s.size
    · cases hm : made (s.extract 2 s.size).data.toList 6 labB
      all_goals
        rw [hm] at OB HJ
        have DA := Lib.hid OB
        clear OB hm
        go_enter Tryz.func105, Tryz.ntmps105
        go_wp2_with fail
        refine (D.out _).mono ?_
        rintro e w' ⟨rfl, rfl⟩
        go_wp2_with fail
        refine (DA.out _).mono ?_
        rintro e w' ⟨rfl, hb⟩
        go_wp2_with fail
        go_ret
        exact ⟨by rw [HJ.out]; rfl, hb⟩
    · have HM : Hid (kindL s.data.toList = 0) := Lib.hid (by
        rw [HJ.out]
        have : (s.extract 2 s.size).data.toList = [] := by rw [ext_toList]; exact List.drop_of_length_le (by rw [List.length_take, size_len]; omega)
        rw [this, made_nil]; simp)
      clear OB HJ
      go_enter Tryz.func105, Tryz.ntmps105
      go_wp2_with fail
      refine (D.out _).mono ?_
      rintro e w' ⟨rfl, rfl⟩
      go_wp2_with fail
      go_ret
      exact ⟨by rw [HM.out]; rfl, Below.refl _ _⟩
  have hp : ((s.extract 0 2).toList == [95, 58]) = false := by rw [HP]; exact pair_ne _ _ q2
  have HJ : Hid (kindL s.data.toList = if s[0] = 63 then (if made (s.extract 1 s.size).data.toList 6 labB then 4 else 0) else 0) := Lib.hid (by
    rw [HK.out, if_neg q1]
    by_cases q3 : s[0] = 95
    · have q4 : ¬ s[1] = 58 := fun h => q2 ⟨q3, h⟩
      rw [if_pos q3, if_neg q4, if_neg (by rw [q3]; decide)]
    · rw [if_neg q3])
  clear HP HK OA OB q1 q2
  by_cases q3 : s[0] = 63
  · have b3 : ((s[0].toNat : Int) == 63) = true := u8_yes q3
    cases hm : made (s.extract 1 s.size).data.toList 6 labB
    all_goals
      have HM : Hid (kindL s.data.toList = if made (s.extract 1 s.size).data.toList 6 labB then 4 else 0) := Lib.hid (by rw [HJ.out, if_pos q3])
      rw [hm] at OC HM
      have DA := Lib.hid OC
      clear OC hm HJ q3
      by_cases g : (2 : Int) < s.size
      all_goals
        go_enter Tryz.func105, Tryz.ntmps105
        go_wp2_with fail
        refine (D.out _).mono ?_
        rintro e w' ⟨rfl, rfl⟩
        go_wp2_with fail
        refine (DA.out _).mono ?_
        rintro e w' ⟨rfl, hb⟩
        go_wp2_with fail
        go_ret
        exact ⟨by rw [HM.out]; rfl, hb⟩
  · have b3 : ((s[0].toNat : Int) == 63) = false := u8_ne q3
    have HM : Hid (kindL s.data.toList = 0) := Lib.hid (by rw [HJ.out, if_neg q3])
    clear OC HJ q3
    by_cases g : (2 : Int) < s.size
    all_goals
      go_enter Tryz.func105, Tryz.ntmps105
      go_wp2_with fail
      refine (D.out _).mono ?_
      rintro e w' ⟨rfl, rfl⟩
      go_wp2_with fail
      go_ret
      exact ⟨by rw [HM.out]; rfl, Below.refl _ _⟩
end Go.Proofs.YtiajdnhmjdfeeaaGreat
namespace Go.Proofs.YtiajdnhmjdfeeaaGreat
open Go.RowKit
def triOk (s p o : List UInt8) : Bool := (decide (kindL s = 1) || decide (kindL s = 3)) && decide (kindL p = 1) && (decide (kindL o = 1) || decide (kindL o = 2) || decide (kindL o = 3))
theorem kindL_le (l : List UInt8) : kindL l ≤ 4 := by
  unfold kindL
  split
  · rename_i k r h
    have := shape_len h
    split <;> omega
  · omega
set_option maxRecDepth 100000 in
set_option maxHeartbeats 1600000 in
theorem implTripleOk (s p o : ByteArray) (hs : s.size ≤ 2097152) (hp : p.size ≤ 2097152) (ho : o.size ≤ 2097152) (w : World) :
    Calls Tryz.prog 43 #[.agg #[.string s, .string p, .string o]] w fun e w' => e = .returned (.bool (triOk s.data.toList p.data.toList o.data.toList)) ∧ Below w.heap.size w w' := by
  have CS' := implKindOf s hs
  have CP' := implKindOf p hp
  have CO' := implKindOf o ho
  unfold triOk
  have gp := kindL_le p.data.toList
  generalize kindL s.data.toList = ks at CS' ⊢
  generalize kindL p.data.toList = kp at CP' gp ⊢
  generalize kindL o.data.toList = ko at CO' ⊢
  have CS := Lib.hid CS'
  have CP := Lib.hid CP'
  have CO := Lib.hid CO'
  clear CS' CP' CO'
  go_enter Tryz.func43, Tryz.ntmps43
  go_wp2_with fail
  go_region_held3 (fun w' => w'.cell? ⟨w.heap.size, 0, none⟩ = some (.string s) ∧ w'.cell? ⟨w.heap.size, 1, none⟩ = some (.string p) ∧ w'.cell? ⟨w.heap.size, 2, none⟩ = some (.string o))
    (first | go_keep | (go_split_ands; refine ⟨?_, ?_, ?_⟩ <;> (rw [hb2.cell (by first | (simp; done) | exact World.block_lt_of_cell? _ _ (by assumption))]; assumption)) | (go_split_ands; refine ⟨?_, ?_, ?_⟩ <;> (rw [hb1.cell (by first | (simp; done) | exact World.block_lt_of_cell? _ _ (by assumption))]; assumption)))
    (first
      | (go_at_call_of 95 s; refine (CS.out _).mono ?_; rintro e w1 ⟨rfl, hb1⟩)
      | (go_at_call_of 95 o; refine (CO.out _).mono ?_; rintro e w2 ⟨rfl, hb2⟩))
  go_split_ands
  have hbel : Below w.heap.size w w2 := ((((Below.refl _ _).alloc (Nat.le_refl _) _).drew).trans (hb1.mono (by simp))).trans (hb2.mono (by have := hb1.size; simp at this; omega))
  clear hb1 hb2
  have ES : (((ks : Int) != 1) = false ∧ ks = 1) ∨ (((ks : Int) != 1) = true ∧ ((ks : Int) != 3) = false ∧ ks = 3) ∨ (((ks : Int) != 1) = true ∧ ((ks : Int) != 3) = true ∧ ks ≠ 1 ∧ ks ≠ 3) := by
    simp only [bne_iff_ne, bne_eq_false_iff_eq]; omega
  have EO : (((ko : Int) == 1) = true ∧ (decide (ko = 1) || decide (ko = 2) || decide (ko = 3)) = true) ∨ (((ko : Int) == 1) = false ∧ ((ko : Int) == 2) = true ∧ (decide (ko = 1) || decide (ko = 2) || decide (ko = 3)) = true) ∨
      (((ko : Int) == 1) = false ∧ ((ko : Int) == 2) = false ∧ ((ko : Int) == 3) = true ∧ (decide (ko = 1) || decide (ko = 2) || decide (ko = 3)) = true) ∨ (((ko : Int) == 1) = false ∧ ((ko : Int) == 2) = false ∧ ((ko : Int) == 3) = false ∧ (decide (ko = 1) || decide (ko = 2) || decide (ko = 3)) = false) := by
    simp only [beq_iff_eq, beq_eq_false_iff_ne, Bool.or_eq_true, Bool.or_eq_false_iff, decide_eq_true_eq, decide_eq_false_iff_not]; omega
  have EP : (((kp : Int) != 1) = false ∧ decide (kp = 1) = true) ∨ (((kp : Int) != 1) = true ∧ decide (kp = 1) = false) := by
    simp only [bne_iff_ne, bne_eq_false_iff_eq, decide_eq_true_eq, decide_eq_false_iff_not]; omega
  clear gp
  have HO := Lib.hid EO
  have HP := Lib.hid EP
  clear EO EP
  rcases ES with ⟨s1, h⟩ | ⟨s1, s2, h⟩ | ⟨s1, s2, h, h'⟩
  rotate_right
  · have HR : Hid (((decide (ks = 1) || decide (ks = 3)) && decide (kp = 1) && (decide (ko = 1) || decide (ko = 2) || decide (ko = 3))) = false) := Lib.hid (by rw [decide_eq_false h, decide_eq_false h']; rfl)
    clear h h' CP HO HP
    go_wp2_with fail
    go_ret
    exact ⟨by rw [HR.out]; rfl, hbel⟩
  all_goals
    have HR : Hid (((decide (ks = 1) || decide (ks = 3)) && decide (kp = 1) && (decide (ko = 1) || decide (ko = 2) || decide (ko = 3))) = (decide (kp = 1) && (decide (ko = 1) || decide (ko = 2) || decide (ko = 3)))) := Lib.hid (by rw [h]; rfl)
    clear h
    go_wp2_with fail
    refine (CP.out _).mono ?_
    rintro e w3 ⟨rfl, hb3⟩
    have hbel2 := hbel.trans (hb3.mono hbel.size)
    clear hbel hb3
    rcases HP.out with ⟨p1, h⟩ | ⟨p1, h⟩
    rotate_right
    · have HQ : Hid (((decide (ks = 1) || decide (ks = 3)) && decide (kp = 1) && (decide (ko = 1) || decide (ko = 2) || decide (ko = 3))) = false) := Lib.hid (by rw [HR.out, h]; rfl)
      clear h HR HO HP
      go_wp2_with fail
      go_ret
      exact ⟨by rw [HQ.out]; rfl, hbel2⟩
    have HQ : Hid (((decide (ks = 1) || decide (ks = 3)) && decide (kp = 1) && (decide (ko = 1) || decide (ko = 2) || decide (ko = 3))) = (decide (ko = 1) || decide (ko = 2) || decide (ko = 3))) := Lib.hid (by rw [HR.out, h]; rfl)
    clear h HR HP
    rcases HO.out with ⟨o1, h⟩ | ⟨o1, o2, h⟩ | ⟨o1, o2, o3, h⟩ | ⟨o1, o2, o3, h⟩
    all_goals
      have HB := Lib.hid h
      clear h HO
      go_wp2_with fail
      go_ret
      exact ⟨by rw [HQ.out, HB.out]; rfl, hbel2⟩
set_option maxRecDepth 100000 in
set_option maxHeartbeats 1600000 in
theorem specTripleOk (s p o : ByteArray) (hs : s.size ≤ 2097152) (hp : p.size ≤ 2097152) (ho : o.size ≤ 2097152) (w : World) :
    Calls Tryz.prog 96 #[.agg #[.string s, .string p, .string o]] w fun e w' => e = .returned (.bool (triOk s.data.toList p.data.toList o.data.toList)) ∧ Below w.heap.size w w' := by
  have CS' := specKindOf s hs
  have CP' := specKindOf p hp
  have CO' := specKindOf o ho
  unfold triOk
  have gp := kindL_le o.data.toList
  generalize kindL s.data.toList = ks at CS' ⊢
  generalize kindL p.data.toList = kp at CP' ⊢
  generalize kindL o.data.toList = ko at CO' gp ⊢
  have CS := Lib.hid CS'
  have CP := Lib.hid CP'
  have CO := Lib.hid CO'
  clear CS' CP' CO'
  have ES : (((ks : Int) == 1) = true ∧ ks = 1) ∨ (((ks : Int) == 1) = false ∧ ((ks : Int) == 3) = true ∧ ks = 3) ∨ (((ks : Int) == 1) = false ∧ ((ks : Int) == 3) = false ∧ ks ≠ 1 ∧ ks ≠ 3) := by
    simp only [beq_iff_eq, beq_eq_false_iff_ne]; omega
  have EP : (((kp : Int) == 1) = true ∧ decide (kp = 1) = true) ∨ (((kp : Int) == 1) = false ∧ decide (kp = 1) = false) := by
    simp only [beq_iff_eq, beq_eq_false_iff_ne, decide_eq_true_eq, decide_eq_false_iff_not]; omega
  have EO : ((1 : Int) ≤ (ko : Int) ∧ (ko : Int) ≤ 3 ∧ (decide (ko = 1) || decide (ko = 2) || decide (ko = 3)) = true) ∨ ((ko : Int) < 1 ∧ (decide (ko = 1) || decide (ko = 2) || decide (ko = 3)) = false) ∨ ((3 : Int) < (ko : Int) ∧ (decide (ko = 1) || decide (ko = 2) || decide (ko = 3)) = false) := by
    simp only [Bool.or_eq_true, Bool.or_eq_false_iff, decide_eq_true_eq, decide_eq_false_iff_not]; omega
  have HO := Lib.hid EO
  have HP := Lib.hid EP
  have HS := Lib.hid ES
  clear EO EP ES gp
  go_enter Tryz.func96, Tryz.ntmps96
  go_wp2_with fail
  refine (CS.out _).mono ?_
  rintro e w1 ⟨rfl, hb1⟩
  have c1 : w1.cell? ⟨w.heap.size, 1, none⟩ = some (.string p) := by rw [hb1.cell (by simp)]; simp
  have c2 : w1.cell? ⟨w.heap.size, 2, none⟩ = some (.string o) := by rw [hb1.cell (by simp)]; simp
  have hbel : Below w.heap.size w w1 := ((Below.refl _ _).alloc (Nat.le_refl _) _).trans (hb1.mono (by simp))
  have hw1 := World.block_lt_of_cell? _ _ c1
  clear hb1
  go_wp2_with fail
  refine (CO.out _).mono ?_
  rintro e w2 ⟨rfl, hb2⟩
  have c3 : w2.cell? ⟨w.heap.size, 1, none⟩ = some (.string p) := by rw [hb2.cell hw1]; exact c1
  have hbel2 := hbel.trans (hb2.mono hbel.size)
  clear hb2 hbel c1 c2 hw1
  rcases HS.out with ⟨s1, h⟩ | ⟨s1, s2, h⟩ | ⟨s1, s2, h, h'⟩
  rotate_right
  · have HR : Hid (((decide (ks = 1) || decide (ks = 3)) && decide (kp = 1) && (decide (ko = 1) || decide (ko = 2) || decide (ko = 3))) = false) := Lib.hid (by rw [decide_eq_false h, decide_eq_false h']; rfl)
    clear h h' CP HO HP HS
    go_wp2_with fail
    go_ret
    exact ⟨by rw [HR.out]; rfl, hbel2⟩
  all_goals
    have HR : Hid (((decide (ks = 1) || decide (ks = 3)) && decide (kp = 1) && (decide (ko = 1) || decide (ko = 2) || decide (ko = 3))) = (decide (kp = 1) && (decide (ko = 1) || decide (ko = 2) || decide (ko = 3)))) := Lib.hid (by rw [h]; rfl)
    clear h HS
    go_wp2_with fail
    refine (CP.out _).mono ?_
    rintro e w3 ⟨rfl, hb3⟩
    have hbel3 := hbel2.trans (hb3.mono hbel2.size)
    clear hbel2 hb3
    rcases HP.out with ⟨p1, h⟩ | ⟨p1, h⟩
    rotate_right
    · have HQ : Hid (((decide (ks = 1) || decide (ks = 3)) && decide (kp = 1) && (decide (ko = 1) || decide (ko = 2) || decide (ko = 3))) = false) := Lib.hid (by rw [HR.out, h]; rfl)
      clear h HR HO HP
      go_wp2_with fail
      go_ret
      exact ⟨by rw [HQ.out]; rfl, hbel3⟩
    have HQ : Hid (((decide (ks = 1) || decide (ks = 3)) && decide (kp = 1) && (decide (ko = 1) || decide (ko = 2) || decide (ko = 3))) = (decide (ko = 1) || decide (ko = 2) || decide (ko = 3))) := Lib.hid (by rw [HR.out, h]; rfl)
    clear h HR HP
    rcases HO.out with ⟨o1, o2, h⟩ | ⟨o1, h⟩ | ⟨o1, h⟩
    all_goals
      have HB := Lib.hid h
      clear h HO
      go_wp2_with go_in
      go_ret
      exact ⟨by rw [HQ.out, HB.out]; first | rfl | (simp; omega), hbel3⟩
end Go.Proofs.YtiajdnhmjdfeeaaGreat
