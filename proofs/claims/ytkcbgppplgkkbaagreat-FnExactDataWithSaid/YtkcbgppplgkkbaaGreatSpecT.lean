/- The contracts of the model's functions on texts. -/
import Derived.Test.YtkcbgppplgkkbaaGreatKindL
import Derived.Test.YtkcbgppplgkkbaaGreatSpecK
namespace Go.Proofs.YtkcbgppplgkkbaaGreat
open Go.RowKit
theorem text_cases (c : UInt8) : (textB c = true ∧ ((c.toNat : Int) != 10) = false) ∨ (textB c = true ∧ ((c.toNat : Int) != 10) = true ∧ 32 ≤ (c.toNat : Int) ∧ (c.toNat : Int) ≤ 126) ∨
    (textB c = false ∧ ((c.toNat : Int) != 10) = true ∧ (c.toNat : Int) < 32) ∨ (textB c = false ∧ ((c.toNat : Int) != 10) = true ∧ 126 < (c.toNat : Int)) := by
  unfold textB
  simp only [Bool.or_eq_true, Bool.and_eq_true, decide_eq_true_eq, Bool.or_eq_false_iff, Bool.and_eq_false_iff, decide_eq_false_iff_not, bne_iff_ne, bne_eq_false_iff_eq, beq_iff_eq, beq_eq_false_iff_ne]
  omega
theorem textOk_of {r t : List UInt8} (h : unesc r = some t) : textOk r = (decide (t.length ≤ 12) && t.all textB) := by
  unfold textOk made
  rw [h]
  cases t with
  | nil => rfl
  | cons c q => simp
set_option maxRecDepth 100000 in
set_option maxHeartbeats 1600000 in
theorem specText (s : ByteArray) (hs : s.size ≤ 2097152) (w : World) :
    Calls Tryz.prog 35 #[.string s] w fun e w' => e = .returned (.tuple #[.string (bs ((textIn s.data.toList).getD [])), .bool (textIn s.data.toList).isSome]) ∧ w = w' := by
  by_cases h2 : 2 ≤ s.size
  rotate_left
  · have HN : Hid (textIn s.data.toList = none) := Lib.hid (by
      rcases hl : s.data.toList with _ | ⟨x, r⟩
      · rfl
      · have : r = [] := by have := size_len s; rw [hl, List.length_cons] at this; exact List.length_eq_zero_iff.1 (by omega)
        subst this
        rw [textIn_cons]; simp)
    have g : (s.size : Int) < 2 := by omega
    clear h2
    go_enter Tryz.func35, Tryz.ntmps35
    go_wp2_with fail
    go_ret2
    exact ⟨by rw [HN.out]; rfl, rfl⟩
  have he := ends s h2
  have HT : Hid (textIn s.data.toList = if s[0] = 34 ∧ s[s.size - 1] = 34 then (if textOk (s.extract 1 (s.size - 1)).data.toList then unesc (s.extract 1 (s.size - 1)).data.toList else none) else none) := Lib.hid (by
    rw [he, textIn_cons, List.getLast?_concat, List.dropLast_concat]; simp)
  clear he
  have g0 : ¬ (s.size : Int) < 2 := by omega
  have g1 : (0 : Int) < s.size := by omega
  cases c0 : ((s[0].toNat : Int) == 34)
  · have d0 : ((s[0].toNat : Int) != 34) = true := by simp [bne, c0]
    have HN : Hid (textIn s.data.toList = none) := Lib.hid (by rw [HT.out, if_neg]; rintro ⟨h, _⟩; rw [h] at c0; exact absurd c0 (by decide))
    go_enter Tryz.func35, Tryz.ntmps35
    go_wp2_with fail
    go_ret2
    exact ⟨by rw [HN.out]; rfl, rfl⟩
  have d0 : ((s[0].toNat : Int) != 34) = false := by simp [bne, c0]
  cases c1 : ((s[s.size - 1].toNat : Int) == 34)
  · have d1 : ((s[s.size - 1].toNat : Int) != 34) = true := by simp [bne, c1]
    have HN : Hid (textIn s.data.toList = none) := Lib.hid (by rw [HT.out, if_neg]; rintro ⟨_, h⟩; rw [h] at c1; exact absurd c1 (by decide))
    go_enter Tryz.func35, Tryz.ntmps35
    go_wp2_with fail
    go_ret2
    exact ⟨by rw [HN.out]; rfl, rfl⟩
  have d1 : ((s[s.size - 1].toNat : Int) != 34) = false := by simp [bne, c1]
  have hu : (s.extract 1 (s.size - 1)).size ≤ 2097152 := by simp; omega
  have C := fun w => specUnescaped (s.extract 1 (s.size - 1)) w hu
  have HV : Hid (textIn s.data.toList = if textOk (s.extract 1 (s.size - 1)).data.toList then unesc (s.extract 1 (s.size - 1)).data.toList else none) := Lib.hid (by
    rw [HT.out, if_pos ⟨(u8_int s[0] 34).1 c0, (u8_int s[s.size - 1] 34).1 c1⟩])
  have hun := unesc_len (s.extract 1 (s.size - 1)).data.toList
  rw [size_len] at hun
  cases hx : unesc (s.extract 1 (s.size - 1)).data.toList with
  | none =>
    rw [hx] at C
    have D := Lib.hid C
    have HN : Hid (textIn s.data.toList = none) := Lib.hid (by rw [HV.out, hx]; simp)
    clear C hun hu hx
    go_enter Tryz.func35, Tryz.ntmps35
    go_wp2_with fail
    refine (D.out _).mono ?_
    rintro e w' ⟨rfl, rfl⟩
    go_wp2_with fail
    go_ret2
    exact ⟨by rw [HN.out]; rfl, rfl⟩
  | some t =>
    have htl := hun t hx
    rw [hx] at C
    have HO := Lib.hid (textOk_of hx)
    have D := Lib.hid C
    have HX := Lib.hid hx
    have htl2 : t.length ≤ 2097152 := by omega
    clear C hun hu hx htl
    by_cases hlen : t.length ≤ 12
    rotate_left
    · have HN : Hid (textIn s.data.toList = none) := Lib.hid (by rw [HV.out, HO.out, decide_eq_false hlen]; rfl)
      have g3 : (12 : Int) < (bs t).size := by rw [bs_size]; omega
      clear hlen
      go_enter Tryz.func35, Tryz.ntmps35
      go_wp2_with fail
      refine (D.out _).mono ?_
      rintro e w' ⟨rfl, rfl⟩
      go_wp2_with fail
      go_ret2
      exact ⟨by rw [HN.out]; rfl, rfl⟩
    · have HY : Hid (textOk (s.extract 1 (s.size - 1)).data.toList = t.all textB) := Lib.hid (by rw [HO.out, decide_eq_true hlen]; rfl)
      obtain ⟨q, hq⟩ : ∃ q : ByteArray, bs t = q := ⟨_, rfl⟩
      obtain rfl : q.data.toList = t := by rw [← hq, bs_toList]
      rw [size_len] at hlen htl2
      rw [Option.getD_some, Option.isSome_some, bs_of] at D
      clear hq
      have g3 : ¬ (12 : Int) < q.size := by omega
      go_enter Tryz.func35, Tryz.ntmps35
      go_wp2_with fail
      refine (D.out _).mono ?_
      rintro e w' ⟨rfl, rfl⟩
      go_wp2_with fail
      go_loop [6] (fun i => ∃ k : Nat, k ≤ q.size ∧ i = .int .i64 k ∧ Hid ((q.data.toList.take k).all textB = true)) (fun i => q.size - (intOf i).toNat)
      case atStart => exact ⟨0, Nat.zero_le _, rfl, Lib.hid (by simp)⟩
      case round =>
        obtain ⟨k, hk, rfl, hb⟩ := hrel
        by_cases hlt : k < q.size
        · have HS := Lib.hid (take_snoc q k hlt)
          have HD := Lib.hid (drop_cons q k hlt)
          rcases text_cases q[k] with ⟨hl, e1⟩ | ⟨hl, e1, e2, e3⟩ | ⟨hl, e1, e2⟩ | ⟨hl, e1, e2⟩
          · have HF : Hid ((q.data.toList.take (k + 1)).all textB = true) := Lib.hid (by rw [HS.out, List.all_append, hb.out]; simp [hl])
            clear hl
            go_wp2_with fail
            go_round
            case rel => exact ⟨k + 1, by omega, by go_num, HF⟩
            case measure => simp [intOf]; omega
          · have HF : Hid ((q.data.toList.take (k + 1)).all textB = true) := Lib.hid (by rw [HS.out, List.all_append, hb.out]; simp [hl])
            clear hl
            go_wp2_with fail
            go_round
            case rel => exact ⟨k + 1, by omega, by go_num, HF⟩
            case measure => simp [intOf]; omega
          all_goals
            have HF : Hid (q.data.toList.all textB = false) := Lib.hid (by
              rw [← List.take_append_drop k q.data.toList, List.all_append, HD.out, List.all_cons, hl]; simp)
            have HN : Hid (textIn s.data.toList = none) := Lib.hid (by rw [HV.out, HY.out, HF.out]; rfl)
            clear hl
            go_wp2_with fail
            go_ret2
            exact ⟨by rw [HN.out]; rfl, rfl⟩
        · have HF : Hid (q.data.toList.all textB = true) := Lib.hid (by have := hb.out; rwa [take_all _ _ (by omega)] at this)
          have HN : Hid (textIn s.data.toList = some q.data.toList) := Lib.hid (by rw [HV.out, HY.out, HF.out, HX.out]; rfl)
          go_wp2_with fail
          go_ret2
          exact ⟨by rw [HN.out]; simp [bs_of], rfl⟩
end Go.Proofs.YtkcbgppplgkkbaaGreat
