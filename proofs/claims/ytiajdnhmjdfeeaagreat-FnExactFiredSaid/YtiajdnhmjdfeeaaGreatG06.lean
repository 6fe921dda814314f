/- The contracts of the model's functions on kinds. -/
import Derived.Test.YtiajdnhmjdfeeaaGreatG04
import Derived.Deep.QuietTactic
import Derived.BigQuiet
import Derived.WalkSmall
import Derived.Test.YtiajdnhmjdfeeaaGreatG05
namespace Go.Proofs.YtiajdnhmjdfeeaaGreat
open Go.RowKit
def othB (o : List UInt8) (c : UInt8) : Bool := labB c || o.contains c
theorem lab_cases (c : UInt8) : (labB c = true ∧ 97 ≤ (c.toNat : Int) ∧ (c.toNat : Int) ≤ 122) ∨ (labB c = true ∧ (c.toNat : Int) < 97 ∧ 48 ≤ (c.toNat : Int) ∧ (c.toNat : Int) ≤ 57) ∨
    (labB c = false ∧ (c.toNat : Int) < 97 ∧ (c.toNat : Int) < 48) ∨ (labB c = false ∧ 122 < (c.toNat : Int)) ∨ (labB c = false ∧ (c.toNat : Int) < 97 ∧ 57 < (c.toNat : Int)) := by
  unfold labB
  simp only [Bool.or_eq_true, Bool.and_eq_true, decide_eq_true_eq, Bool.or_eq_false_iff, Bool.and_eq_false_iff, decide_eq_false_iff_not]
  omega
theorem contains_snoc (o : ByteArray) (j : Nat) (h : j < o.size) (c : UInt8) : (o.data.toList.take (j + 1)).contains c = ((o.data.toList.take j).contains c || ((c.toNat : Int) == (o[j].toNat : Int))) := by
  rw [take_snoc o j h, Bool.eq_iff_iff]
  have := u8_int c o[j]
  simp at *
  rw [this]
set_option maxRecDepth 100000 in
set_option maxHeartbeats 1600000 in
theorem specOf (s o : ByteArray) (most : Nat) (hs : s.size ≤ 2097152) (ho : o.size ≤ 100) (w : World) :
    Calls Tryz.prog 146 #[.string s, .int .i64 most, .string o] w fun e w' => e = .returned (.bool (made s.data.toList most (othB o.data.toList))) ∧ Below w.heap.size w w' := by
  go_enter Tryz.func146, Tryz.ntmps146
  go_wp2_with fail
  go_loopw [7] (fun i wr => ∃ k : Nat, k ≤ s.size ∧ i = .int .i64 k ∧ Hid ((s.data.toList.take k).all (othB o.data.toList) = true) ∧ Below w.heap.size w wr) (fun i _ => s.size - (intOf i).toNat)
  case atStart => exact ⟨0, Nat.zero_le _, rfl, Lib.hid (by simp), Below.refl _ _⟩
  case round =>
    obtain ⟨k, hk, rfl, hb, hnx⟩ := hrel
    obtain ⟨wo, rfl⟩ : ∃ wo : World, wo = wr := ⟨_, rfl⟩
    by_cases hlt : k < s.size
    · have HT := Lib.hid (take_snoc s k hlt)
      have HD := Lib.hid (drop_cons s k hlt)
      rcases lab_cases s[k] with ⟨hl, c1, c2⟩ | ⟨hl, c1, c2, c3⟩ | ⟨hl, c1, c2⟩ | ⟨hl, c1⟩ | ⟨hl, c1, c2⟩
      all_goals
        have HL := Lib.hid hl
        clear hl
        go_wp2_with fail
        go_loopw [8, 9] (fun f j wr => ∃ q : Nat, q ≤ o.size ∧ j = .int .i64 q ∧ (∃ b : Bool, f = .bool b ∧ Hid (b = (labB s[k] || (o.data.toList.take q).contains s[k]))) ∧ Below w.heap.size w wr) (fun _ j _ => o.size - (intOf j).toNat)
        case atStart => exact ⟨0, Nat.zero_le _, rfl, ⟨_, rfl, Lib.hid (by rw [HL.out]; simp; try omega)⟩, hnx⟩
        case round =>
          obtain ⟨q, hq, rfl, ⟨b, rfl, hbb⟩, hnx2⟩ := hrel
          by_cases hlt2 : q < o.size
          · have HC := Lib.hid (contains_snoc o q hlt2 s[k])
            cases b
            · go_wp2_with fail
              go_quiet (fail)
              go_wp2_with fail
              go_roundw
              case rel => exact ⟨q + 1, by omega, by go_num, ⟨_, rfl, Lib.hid (by rw [HC.out, ← Bool.or_assoc, ← hbb.out]; simp)⟩, below_drewN hnx2 _⟩
              case measure => simp [intOf]; omega
            · go_wp2_with fail
              go_quiet (fail)
              go_wp2_with fail
              go_roundw
              case rel => exact ⟨q + 1, by omega, by go_num, ⟨_, rfl, Lib.hid (by rw [HC.out, ← Bool.or_assoc, ← hbb.out]; simp)⟩, below_drewN hnx2 _⟩
              case measure => simp [intOf]; omega
          · have HB : Hid (b = othB o.data.toList s[k]) := Lib.hid (by have := hbb.out; rwa [take_all _ _ (by omega)] at this)
            clear hbb
            cases b
            · have HF : Hid (s.data.toList.all (othB o.data.toList) = false) := Lib.hid (by
                rw [← List.take_append_drop k s.data.toList, List.all_append, HD.out, List.all_cons, ← HB.out]; simp)
              go_wp2_with fail
              go_ret
              exact ⟨by unfold made; rw [HF.out]; simp, hnx2⟩
            · have HF : Hid ((s.data.toList.take (k + 1)).all (othB o.data.toList) = true) := Lib.hid (by rw [HT.out, List.all_append, hb.out]; simp [← HB.out])
              go_wp2_with fail
              go_roundw
              case rel => exact ⟨k + 1, by omega, by go_num, HF, hnx2⟩
              case measure => simp [intOf]; omega
    · have HF : Hid (s.data.toList.all (othB o.data.toList) = true) := Lib.hid (by have := hb.out; rwa [take_all _ _ (by omega)] at this)
      have HM : Hid (made s.data.toList most (othB o.data.toList) = (decide (1 ≤ s.size) && decide (s.size ≤ most))) := Lib.hid (by unfold made; rw [HF.out, size_len]; simp)
      by_cases g1 : (1 : Int) ≤ s.size
      · by_cases g2 : (s.size : Int) ≤ most
        · go_wp2_with fail
          go_ret
          exact ⟨by rw [HM.out, decide_eq_true (by omega : 1 ≤ s.size), decide_eq_true (by omega : s.size ≤ most)]; rfl, hnx⟩
        · go_wp2_with fail
          go_ret
          exact ⟨by rw [HM.out, decide_eq_true (by omega : 1 ≤ s.size), decide_eq_false (by omega : ¬ s.size ≤ most)]; rfl, hnx⟩
      · go_wp2_with fail
        go_ret
        exact ⟨by rw [HM.out, decide_eq_false (by omega : ¬ 1 ≤ s.size)]; rfl, hnx⟩
end Go.Proofs.YtiajdnhmjdfeeaaGreat
/- The contracts of the model's functions on texts. -/
namespace Go.Proofs.YtiajdnhmjdfeeaaGreat
open Go.RowKit
theorem text_cases (c : UInt8) : (textB c = true ∧ ((c.toNat : Int) != 10) = false) ∨ (textB c = true ∧ ((c.toNat : Int) != 10) = true ∧ 32 ≤ (c.toNat : Int) ∧ (c.toNat : Int) ≤ 126) ∨
    (textB c = false ∧ ((c.toNat : Int) != 10) = true ∧ (c.toNat : Int) < 32) ∨ (textB c = false ∧ ((c.toNat : Int) != 10) = true ∧ 126 < (c.toNat : Int)) := by
  unfold textB
  simp only [Bool.or_eq_true, Bool.and_eq_true, decide_eq_true_eq, Bool.or_eq_false_iff, Bool.and_eq_false_iff, decide_eq_false_iff_not, bne_iff_ne, bne_eq_false_iff_eq, beq_iff_eq, beq_eq_false_iff_ne]
  omega
theorem textOk_of {r t : List UInt8} (h : unesc r = some t) : textOk r = (decide (t.length ≤ 12) && t.all textB) := by
  unfold textOk made
  rw [h]
  cases t with
  | nil => rfl
  | cons c q => simp
set_option maxRecDepth 100000 in
set_option maxHeartbeats 1600000 in
theorem specText (s : ByteArray) (hs : s.size ≤ 2097152) (w : World) :
    Calls Tryz.prog 145 #[.string s] w fun e w' => e = .returned (.tuple #[.string (bs ((textIn s.data.toList).getD [])), .bool (textIn s.data.toList).isSome]) ∧ w = w' := by
  by_cases h2 : 2 ≤ s.size
  rotate_left
  · have HN : Hid (textIn s.data.toList = none) := Lib.hid (by
      rcases hl : s.data.toList with _ | ⟨x, r⟩
      · rfl
      · have : r = [] := by have := size_len s; rw [hl, List.length_cons] at this; exact List.length_eq_zero_iff.1 (by omega)
        subst this
        rw [textIn_cons]; simp)
    have g : (s.size : Int) < 2 := by omega
    clear h2
    go_enter Tryz.func145, Tryz.ntmps145
    go_wp2_with fail
    go_ret2
    exact ⟨by rw [HN.out]; rfl, rfl⟩
  have he := ends s h2
  have HT : Hid (textIn s.data.toList = if s[0] = 34 ∧ s[s.size - 1] = 34 then (if textOk (s.extract 1 (s.size - 1)).data.toList then unesc (s.extract 1 (s.size - 1)).data.toList else none) else none) := Lib.hid (by
    rw [he, textIn_cons, List.getLast?_concat, List.dropLast_concat]; simp)
  clear he
  have g0 : ¬ (s.size : Int) < 2 := by omega
  have g1 : (0 : Int) < s.size := by omega
  cases c0 : ((s[0].toNat : Int) == 34)
  · have d0 : ((s[0].toNat : Int) != 34) = true := by simp [bne, c0]
    have HN : Hid (textIn s.data.toList = none) := Lib.hid (by rw [HT.out, if_neg]; rintro ⟨h, _⟩; rw [h] at c0; exact absurd c0 (by decide))
    go_enter Tryz.func145, Tryz.ntmps145
    go_wp2_with fail
    go_ret2
    exact ⟨by rw [HN.out]; rfl, rfl⟩
  have d0 : ((s[0].toNat : Int) != 34) = false := by simp [bne, c0]
  cases c1 : ((s[s.size - 1].toNat : Int) == 34)
  · have d1 : ((s[s.size - 1].toNat : Int) != 34) = true := by simp [bne, c1]
    have HN : Hid (textIn s.data.toList = none) := Lib.hid (by rw [HT.out, if_neg]; rintro ⟨_, h⟩; rw [h] at c1; exact absurd c1 (by decide))
    go_enter Tryz.func145, Tryz.ntmps145
    go_wp2_with fail
    go_ret2
    exact ⟨by rw [HN.out]; rfl, rfl⟩
  have d1 : ((s[s.size - 1].toNat : Int) != 34) = false := by simp [bne, c1]
  have hu : (s.extract 1 (s.size - 1)).size ≤ 2097152 := by simp; omega
  have C := fun w => specUnescaped (s.extract 1 (s.size - 1)) w hu
  have HV : Hid (textIn s.data.toList = if textOk (s.extract 1 (s.size - 1)).data.toList then unesc (s.extract 1 (s.size - 1)).data.toList else none) := Lib.hid (by
    rw [HT.out, if_pos ⟨(u8_int s[0] 34).1 c0, (u8_int s[s.size - 1] 34).1 c1⟩])
  have hun := unesc_len (s.extract 1 (s.size - 1)).data.toList
  rw [size_len] at hun
  cases hx : unesc (s.extract 1 (s.size - 1)).data.toList with
  | none =>
    rw [hx] at C
    have D := Lib.hid C
    have HN : Hid (textIn s.data.toList = none) := Lib.hid (by rw [HV.out, hx]; simp)
    clear C hun hu hx
    go_enter Tryz.func145, Tryz.ntmps145
    go_wp2_with fail
    refine (D.out _).mono ?_
    rintro e w' ⟨rfl, rfl⟩
    go_wp2_with fail
    go_ret2
    exact ⟨by rw [HN.out]; rfl, rfl⟩
  | some t =>
    have htl := hun t hx
    rw [hx] at C
    have HO := Lib.hid (textOk_of hx)
    have D := Lib.hid C
    have HX := Lib.hid hx
    have htl2 : t.length ≤ 2097152 := by omega
    clear C hun hu hx htl
    by_cases hlen : t.length ≤ 12
    rotate_left
    · have HN : Hid (textIn s.data.toList = none) := Lib.hid (by rw [HV.out, HO.out, decide_eq_false hlen]; rfl)
      have g3 : (12 : Int) < (bs t).size := by rw [bs_size]; omega
      clear hlen
      go_enter Tryz.func145, Tryz.ntmps145
      go_wp2_with fail
      refine (D.out _).mono ?_
      rintro e w' ⟨rfl, rfl⟩
      go_wp2_with fail
      go_ret2
      exact ⟨by rw [HN.out]; rfl, rfl⟩
    · have HY : Hid (textOk (s.extract 1 (s.size - 1)).data.toList = t.all textB) := Lib.hid (by rw [HO.out, decide_eq_true hlen]; rfl)
      obtain ⟨q, hq⟩ : ∃ q : ByteArray, bs t = q := ⟨_, rfl⟩
      obtain rfl : q.data.toList = t := by rw [← hq, bs_toList]
      rw [size_len] at hlen htl2
      rw [Option.getD_some, Option.isSome_some, bs_of] at D
      clear hq
      have g3 : ¬ (12 : Int) < q.size := by omega
      go_enter Tryz.func145, Tryz.ntmps145
      go_wp2_with fail
      refine (D.out _).mono ?_
      rintro e w' ⟨rfl, rfl⟩
      go_wp2_with fail
      go_loop [6] (fun i => ∃ k : Nat, k ≤ q.size ∧ i = .int .i64 k ∧ Hid ((q.data.toList.take k).all textB = true)) (fun i => q.size - (intOf i).toNat)
      case atStart => exact ⟨0, Nat.zero_le _, rfl, Lib.hid (by simp)⟩
      case round =>
        obtain ⟨k, hk, rfl, hb⟩ := hrel
        by_cases hlt : k < q.size
        · have HS := Lib.hid (take_snoc q k hlt)
          have HD := Lib.hid (drop_cons q k hlt)
          rcases text_cases q[k] with ⟨hl, e1⟩ | ⟨hl, e1, e2, e3⟩ | ⟨hl, e1, e2⟩ | ⟨hl, e1, e2⟩
          · have HF : Hid ((q.data.toList.take (k + 1)).all textB = true) := Lib.hid (by rw [HS.out, List.all_append, hb.out]; simp [hl])
            clear hl
            go_wp2_with fail
            go_round
            case rel => exact ⟨k + 1, by omega, by go_num, HF⟩
            case measure => simp [intOf]; omega
          · have HF : Hid ((q.data.toList.take (k + 1)).all textB = true) := Lib.hid (by rw [HS.out, List.all_append, hb.out]; simp [hl])
            clear hl
            go_wp2_with fail
            go_round
            case rel => exact ⟨k + 1, by omega, by go_num, HF⟩
            case measure => simp [intOf]; omega
          all_goals
            have HF : Hid (q.data.toList.all textB = false) := Lib.hid (by
              rw [← List.take_append_drop k q.data.toList, List.all_append, HD.out, List.all_cons, hl]; simp)
            have HN : Hid (textIn s.data.toList = none) := Lib.hid (by rw [HV.out, HY.out, HF.out]; rfl)
            clear hl
            go_wp2_with fail
            go_ret2
            exact ⟨by rw [HN.out]; rfl, rfl⟩
        · have HF : Hid (q.data.toList.all textB = true) := Lib.hid (by have := hb.out; rwa [take_all _ _ (by omega)] at this)
          have HN : Hid (textIn s.data.toList = some q.data.toList) := Lib.hid (by rw [HV.out, HY.out, HF.out, HX.out]; rfl)
          go_wp2_with fail
          go_ret2
          exact ⟨by rw [HN.out]; simp [bs_of], rfl⟩
end Go.Proofs.YtiajdnhmjdfeeaaGreat
/- The contract of the model's KindOf. -/
namespace Go.Proofs.YtiajdnhmjdfeeaaGreat
open Go.RowKit
theorem made_name (m : List UInt8) : made m 12 (othB [58, 47, 35]) = made m 12 nameB := by
  unfold made
  congr 2
  funext c
  have h1 := u8_int c 58; have h2 := u8_int c 47; have h3 := u8_int c 35
  unfold othB nameB
  rw [Bool.eq_iff_iff]
  simp only [Bool.or_eq_true, List.contains_cons, List.contains_nil, Bool.or_false, beq_iff_eq] at *
  rw [← h1, ← h2, ← h3]
  simp [or_assoc]
theorem made_lab (m : List UInt8) (k : Nat) : made m k (othB []) = made m k labB := by
  unfold made
  congr 2
  funext c
  unfold othB
  simp
/-- The answer by the first byte, for a word of two bytes or more that is no text. -/
theorem kind_of (s : ByteArray) (h : 2 ≤ s.size) (hn : kindL s.data.toList ≠ 2) : kindL s.data.toList = if s[0] = 60 then (if s[s.size - 1] = 62 then (if made (s.extract 1 (s.size - 1)).data.toList 12 nameB then 1 else 0) else 0) else
    if s[0] = 95 then (if s[1] = 58 then (if made (s.extract 2 s.size).data.toList 6 labB then 3 else 0) else 0) else if s[0] = 63 then (if made (s.extract 1 s.size).data.toList 6 labB then 4 else 0) else 0 := by
  have h0 := drop_cons s 0 (by omega)
  rw [List.drop_zero] at h0
  have h1 := drop_cons s 1 (by omega)
  have he := ends s h
  have e1 : (s.extract 1 s.size).data.toList = s.data.toList.drop 1 := by rw [ext_toList, take_all _ _ (Nat.le_refl _)]
  have e2 : (s.extract 2 s.size).data.toList = s.data.toList.drop 2 := by rw [ext_toList, take_all _ _ (Nat.le_refl _)]
  have e3 : s.data.toList.drop 1 = (s.extract 1 (s.size - 1)).data.toList ++ [s[s.size - 1]] := by
    have := congrArg (List.drop 1) he; simpa using this
  have g1 : (s.data.toList.drop 1).getLast? = some s[s.size - 1] := by rw [e3, List.getLast?_concat]
  have g2 : (s.data.toList.drop 1).dropLast = (s.extract 1 (s.size - 1)).data.toList := by rw [e3, List.dropLast_concat]
  have g3 : (s.data.toList.drop 1).head? = some s[1] := by rw [h1]; rfl
  have g4 : (s.data.toList.drop 1).drop 1 = s.data.toList.drop 2 := by rw [List.drop_drop]
  have hk : kindL s.data.toList = kindL (s[0] :: s.data.toList.drop 1) := by rw [← h0]
  rw [hk] at hn ⊢
  rw [kindL_cons, g1, g2, g3, g4] at hn ⊢
  rw [e1, e2]
  simp only [Option.some.injEq] at hn ⊢
  by_cases q : s[0] = 34
  · rw [if_neg (by rw [q]; decide), if_pos q] at hn
    have n1 : ¬ s[0] = 60 := by rw [q]; decide
    have n2 : ¬ s[0] = 95 := by rw [q]; decide
    have n3 : ¬ s[0] = 63 := by rw [q]; decide
    rw [if_neg n1, if_pos q, if_neg n1, if_neg n2, if_neg n3]
    by_cases q1 : s[s.size - 1] = 34
    · rw [if_pos q1] at hn ⊢
      cases q2 : textOk (s.extract 1 (s.size - 1)).data.toList
      · simp
      · rw [q2] at hn; simp at hn
    · rw [if_neg q1]
  · simp only [if_neg q]
theorem pre_two (s : ByteArray) (h : 2 ≤ s.size) : (s.extract 0 2).toList = [s[0], s[1]] := by
  have h0 := drop_cons s 0 (by omega)
  have h1 := drop_cons s 1 (by omega)
  rw [List.drop_zero] at h0
  rw [ByteArray.toList_eq, ext_toList, h0, h1]
  rfl
theorem kind_small (s : ByteArray) (h : s.size < 2) (_hn : kindL s.data.toList ≠ 2) : kindL s.data.toList = 0 := by
  rcases hl : s.data.toList with _ | ⟨x, r⟩
  · rfl
  · have : r = [] := by have := size_len s; rw [hl, List.length_cons] at this; exact List.length_eq_zero_iff.1 (by omega)
    subst this
    rw [kindL_cons]; simp [made_nil]
theorem pair_ne (a b : UInt8) (h : ¬ (a = 95 ∧ b = 58)) : ([a, b] == [95, 58]) = false := by
  rw [beq_eq_false_iff_ne]
  intro e
  simp only [List.cons.injEq, and_true] at e
  exact h e
theorem u8_ne {c d : UInt8} (h : ¬ c = d) : ((c.toNat : Int) == (d.toNat : Int)) = false := by
  rw [beq_eq_false_iff_ne]
  intro e
  exact h ((u8_int c d).1 (by rw [beq_iff_eq]; exact e))
theorem u8_yes {c d : UInt8} (h : c = d) : ((c.toNat : Int) == (d.toNat : Int)) = true := (u8_int c d).2 h
set_option maxRecDepth 100000 in
set_option maxHeartbeats 1600000 in
theorem specKindOf (s : ByteArray) (hs : s.size ≤ 2097152) (w : World) :
    Calls Tryz.prog 105 #[.string s] w fun e w' => e = .returned (.int .i64 (kindL s.data.toList)) ∧ Below w.heap.size w w' := by
  have C := fun w => specText s hs w
  have hk := textIn_kind s.data.toList
  generalize hq : (bs ((textIn s.data.toList).getD [])) = q at C
  clear hq
  cases hi : (textIn s.data.toList).isSome
  rotate_left
  · rw [hi] at C hk
    have HK : Hid (kindL s.data.toList = 2) := Lib.hid (of_decide_eq_true hk.symm)
    have D := Lib.hid C
    clear C hk hi
    go_enter Tryz.func105, Tryz.ntmps105
    go_wp2_with fail
    refine (D.out _).mono ?_
    rintro e w' ⟨rfl, rfl⟩
    go_wp2_with fail
    go_ret
    exact ⟨by rw [HK.out]; rfl, Below.refl _ _⟩
  rw [hi] at C hk
  have hn : kindL s.data.toList ≠ 2 := of_decide_eq_false hk.symm
  have D := Lib.hid C
  clear C hk hi
  by_cases h2 : 2 ≤ s.size
  rotate_left
  · have HK : Hid (kindL s.data.toList = 0) := Lib.hid (kind_small s (by omega) hn)
    have g1 : ¬ (2 : Int) < s.size := by omega
    have g2 : ¬ (1 : Int) < s.size := by omega
    clear h2 hn
    go_enter Tryz.func105, Tryz.ntmps105
    go_wp2_with fail
    refine (D.out _).mono ?_
    rintro e w' ⟨rfl, rfl⟩
    go_wp2_with fail
    go_ret
    exact ⟨by rw [HK.out]; rfl, Below.refl _ _⟩
  have HK := Lib.hid (kind_of s h2 hn)
  have HP := pre_two s h2
  clear hn
  have i0 : (0 : Int) < s.size := by omega
  have i1 : (1 : Int) < s.size := by omega
  have i2 : (2 : Int) ≤ s.size := by omega
  have z1 : (s.extract 1 (s.size - 1)).size ≤ 2097152 := by simp; omega
  have z2 : (s.extract 2 s.size).size ≤ 2097152 := by simp; omega
  have z3 : (s.extract 1 s.size).size ≤ 2097152 := by simp; omega
  have OA := fun w => specOf (s.extract 1 (s.size - 1)) (bs [58, 47, 35]) 12 z1 (by decide) w
  have OB := fun w => specOf (s.extract 2 s.size) (bs []) 6 z2 (by decide) w
  have OC := fun w => specOf (s.extract 1 s.size) (bs []) 6 z3 (by decide) w
  rw [bs_toList, made_name] at OA
  rw [bs_toList, made_lab] at OB
  rw [bs_toList, made_lab] at OC
  clear z1 z2 z3
  by_cases q1 : s[0] = 60
  · have b1 : ((s[0].toNat : Int) == 60) = true := u8_yes q1
    have b3 : ((s[0].toNat : Int) == 63) = false := u8_ne (d := 63) (by rw [q1]; decide)
    have hp : ((s.extract 0 2).toList == [95, 58]) = false := by rw [HP]; exact pair_ne _ _ (by rw [q1]; simp)
    have HJ : Hid (kindL s.data.toList = if s[s.size - 1] = 62 then (if made (s.extract 1 (s.size - 1)).data.toList 12 nameB then 1 else 0) else 0) := Lib.hid (by rw [HK.out, if_pos q1])
    clear HP HK OB OC
    by_cases g : (2 : Int) < s.size
    · by_cases q2 : s[s.size - 1] = 62
      · have b2 : ((s[s.size - 1].toNat : Int) == 62) = true := u8_yes q2
        cases hm : made (s.extract 1 (s.size - 1)).data.toList 12 nameB
        all_goals
          rw [hm] at OA
          have HM : Hid (kindL s.data.toList = if made (s.extract 1 (s.size - 1)).data.toList 12 nameB then 1 else 0) := Lib.hid (by rw [HJ.out, if_pos q2])
          rw [hm] at HM
          have DA := Lib.hid OA
          clear OA hm HJ q1 q2
          go_enter Tryz.func105, Tryz.ntmps105
          go_wp2_with fail
          refine (D.out _).mono ?_
          rintro e w' ⟨rfl, rfl⟩
          go_wp2_with fail
          refine (DA.out _).mono ?_
          rintro e w' ⟨rfl, hb⟩
          go_wp2_with fail
          go_ret
          exact ⟨by rw [HM.out]; rfl, hb⟩
      · have b2 : ((s[s.size - 1].toNat : Int) == 62) = false := u8_ne q2
        have HM : Hid (kindL s.data.toList = 0) := Lib.hid (by rw [HJ.out, if_neg q2])
        clear OA HJ q1 q2
        go_enter Tryz.func105, Tryz.ntmps105
        go_wp2_with fail
        refine (D.out _).mono ?_
        rintro e w' ⟨rfl, rfl⟩
        go_wp2_with fail
        go_ret
        exact ⟨by rw [HM.out]; rfl, Below.refl _ _⟩
    · have HM : Hid (kindL s.data.toList = 0) := Lib.hid (by
        rw [HJ.out]
        have : (s.extract 1 (s.size - 1)).data.toList = [] := by rw [ext_toList]; exact List.drop_of_length_le (by rw [List.length_take, size_len]; omega)
        rw [this, made_nil]; simp)
      clear OA HJ q1
      go_enter Tryz.func105, Tryz.ntmps105
      go_wp2_with fail
      refine (D.out _).mono ?_
      rintro e w' ⟨rfl, rfl⟩
      go_wp2_with fail
      go_ret
      exact ⟨by rw [HM.out]; rfl, Below.refl _ _⟩
  have b1 : ((s[0].toNat : Int) == 60) = false := u8_ne q1
  by_cases q2 : s[0] = 95 ∧ s[1] = 58
  · have b3 : ((s[0].toNat : Int) == 63) = false := u8_ne (d := 63) (by rw [q2.1]; decide)
    have hp : ((s.extract 0 2).toList == [95, 58]) = true := by rw [HP, q2.1, q2.2]; rfl
    have HJ : Hid (kindL s.data.toList = if made (s.extract 2 s.size).data.toList 6 labB then 3 else 0) := Lib.hid (by rw [HK.out, if_neg q1, if_pos q2.1, if_pos q2.2])
    clear HP HK OA OC q1 q2
    by_cases g : (2 : Int) < s.size
    · cases hm : made (s.extract 2 s.size).data.toList 6 labB
      all_goals
        rw [hm] at OB HJ
        have DA := Lib.hid OB
        clear OB hm
        go_enter Tryz.func105, Tryz.ntmps105
        go_wp2_with fail
        refine (D.out _).mono ?_
        rintro e w' ⟨rfl, rfl⟩
        go_wp2_with fail
        refine (DA.out _).mono ?_
        rintro e w' ⟨rfl, hb⟩
        go_wp2_with fail
        go_ret
        exact ⟨by rw [HJ.out]; rfl, hb⟩
    · have HM : Hid (kindL s.data.toList = 0) := Lib.hid (by
        rw [HJ.out]
        have : (s.extract 2 s.size).data.toList = [] := by rw [ext_toList]; exact List.drop_of_length_le (by rw [List.length_take, size_len]; omega)
        rw [this, made_nil]; simp)
      clear OB HJ
      go_enter Tryz.func105, Tryz.ntmps105
      go_wp2_with fail
      refine (D.out _).mono ?_
      rintro e w' ⟨rfl, rfl⟩
      go_wp2_with fail
      go_ret
      exact ⟨by rw [HM.out]; rfl, Below.refl _ _⟩
  have hp : ((s.extract 0 2).toList == [95, 58]) = false := by rw [HP]; exact pair_ne _ _ q2
  have HJ : Hid (kindL s.data.toList = if s[0] = 63 then (if made (s.extract 1 s.size).data.toList 6 labB then 4 else 0) else 0) := Lib.hid (by
    rw [HK.out, if_neg q1]
    by_cases q3 : s[0] = 95
    · have q4 : ¬ s[1] = 58 := fun h => q2 ⟨q3, h⟩
      rw [if_pos q3, if_neg q4, if_neg (by rw [q3]; decide)]
    · rw [if_neg q3])
  clear HP HK OA OB q1 q2
  by_cases q3 : s[0] = 63
  · have b3 : ((s[0].toNat : Int) == 63) = true := u8_yes q3
    cases hm : made (s.extract 1 s.size).data.toList 6 labB
    all_goals
      have HM : Hid (kindL s.data.toList = if made (s.extract 1 s.size).data.toList 6 labB then 4 else 0) := Lib.hid (by rw [HJ.out, if_pos q3])
      rw [hm] at OC HM
      have DA := Lib.hid OC
      clear OC hm HJ q3
      by_cases g : (2 : Int) < s.size
      all_goals
        go_enter Tryz.func105, Tryz.ntmps105
        go_wp2_with fail
        refine (D.out _).mono ?_
        rintro e w' ⟨rfl, rfl⟩
        go_wp2_with fail
        refine (DA.out _).mono ?_
        rintro e w' ⟨rfl, hb⟩
        go_wp2_with fail
        go_ret
        exact ⟨by rw [HM.out]; rfl, hb⟩
  · have b3 : ((s[0].toNat : Int) == 63) = false := u8_ne q3
    have HM : Hid (kindL s.data.toList = 0) := Lib.hid (by rw [HJ.out, if_neg q3])
    clear OC HJ q3
    by_cases g : (2 : Int) < s.size
    all_goals
      go_enter Tryz.func105, Tryz.ntmps105
      go_wp2_with fail
      refine (D.out _).mono ?_
      rintro e w' ⟨rfl, rfl⟩
      go_wp2_with fail
      go_ret
      exact ⟨by rw [HM.out]; rfl, Below.refl _ _⟩
end Go.Proofs.YtiajdnhmjdfeeaaGreat
