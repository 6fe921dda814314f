/- The contracts of the program's functions on kinds. -/
import Derived.Test.YtkcbgppplgkkbaaGreatKindM
import Derived.Test.YtkcbgppplgkkbaaGreatShelf
namespace Go.Proofs.YtkcbgppplgkkbaaGreat
open Go.RowKit
theorem implLabel (c : UInt8) (w : World) : Calls Tryz.prog 129 #[.int .u8 c.toNat] w fun e w' => e = .returned (.bool (labB c)) ∧ w = w' := by
  unfold labB
  by_cases h1 : (97 : Int) ≤ c.toNat <;> by_cases h2 : (c.toNat : Int) ≤ 122 <;> by_cases h3 : (48 : Int) ≤ c.toNat <;> by_cases h4 : (c.toNat : Int) ≤ 57
  all_goals
    go_enter Tryz.func129, Tryz.ntmps129
    go_wp2
    go_ret
    exact ⟨by simp [h1, h2, h3, h4], rfl⟩
theorem implName (c : UInt8) (w : World) : Calls Tryz.prog 128 #[.int .u8 c.toNat] w fun e w' => e = .returned (.bool (nameB c)) ∧ w = w' := by
  unfold nameB
  cases h1 : labB c <;> cases h2 : ((c.toNat : Int) == 58) <;> cases h3 : ((c.toNat : Int) == 47) <;> cases h4 : ((c.toNat : Int) == 35)
  all_goals
    have C := implLabel c w
    rw [h1] at C
    clear h1
    go_enter Tryz.func128, Tryz.ntmps128
    go_wp2_with fail
    refine C.mono ?_
    clear C
    rintro e w' ⟨rfl, rfl⟩
    go_wp2_with fail
    go_ret
    exact ⟨rfl, rfl⟩
theorem implText (c : UInt8) (w : World) : Calls Tryz.prog 132 #[.int .u8 c.toNat] w fun e w' => e = .returned (.bool (textB c)) ∧ w = w' := by
  unfold textB
  by_cases h1 : (32 : Int) ≤ c.toNat <;> by_cases h2 : (c.toNat : Int) ≤ 126 <;> cases h3 : ((c.toNat : Int) == 10)
  all_goals
    go_enter Tryz.func132, Tryz.ntmps132
    go_wp2
    go_ret
    exact ⟨by simp [h1, h2], rfl⟩
set_option maxRecDepth 100000 in
set_option maxHeartbeats 800000 in
theorem implMade (f : Nat) (p : UInt8 → Bool) (hf : Hid (∀ (c : UInt8) (w : World), Calls Tryz.prog f #[.int .u8 c.toNat] w fun e w' => e = .returned (.bool (p c)) ∧ w = w')) (hen : ∀ (args : Array Value) (w : World), (callFunc f args).run Tryz.prog w = .ok (.enter f args) w) (s : ByteArray) (most : Nat) (hs : s.size ≤ 2097152) (w : World) :
    Calls Tryz.prog 127 #[.string s, .int .i64 most, .func (.func f) #[] #[]] w fun e w' => e = .returned (.bool (made s.data.toList most p)) ∧ w = w' := by
  by_cases h1 : 1 ≤ s.size ∧ s.size ≤ most
  · obtain ⟨h1, h2⟩ := h1
    have h3 : ¬ (s.size : Int) < 1 := by omega
    have h4 : ¬ (most : Int) < (s.size : Int) := by omega
    go_enter Tryz.func127, Tryz.ntmps127
    go_wp2
    have HM : Hid (made s.data.toList most p = s.data.toList.all p) := Lib.hid (by unfold made; rw [size_len, decide_eq_true h1, decide_eq_true h2]; rfl)
    clear h1 h2 h3 h4
    go_loop [7] (fun i => ∃ k : Nat, k ≤ s.size ∧ i = .int .i64 k ∧ Hid ((s.data.toList.take k).all p = true)) (fun i => s.size - (intOf i).toNat)
    case atStart => exact ⟨0, Nat.zero_le _, rfl, Lib.hid (by simp)⟩
    case round =>
      obtain ⟨k, hk, rfl, hb⟩ := hrel
      by_cases hlt : k < s.size
      · have HT := Lib.hid (take_snoc s k hlt)
        have HD := Lib.hid (drop_cons s k hlt)
        cases hp : p s[k]
        · have HF : Hid (s.data.toList.all p = false) := Lib.hid (by
            rw [← List.take_append_drop k s.data.toList, List.all_append, HD.out, List.all_cons, hp]; simp)
          have HP := Lib.hid hp
          clear hp
          go_wp2_with fail
          refine (hf.out _ _).mono ?_
          rintro e w' ⟨rfl, rfl⟩
          rw [HP.out]
          go_wp2_with fail
          go_ret
          exact ⟨by rw [HM.out, HF.out]; rfl, rfl⟩
        · have HF : Hid ((s.data.toList.take (k + 1)).all p = true) := Lib.hid (by rw [HT.out, List.all_append, hb.out]; simp [hp])
          have HP := Lib.hid hp
          clear hp
          go_wp2_with fail
          refine (hf.out _ _).mono ?_
          rintro e w' ⟨rfl, rfl⟩
          rw [HP.out]
          go_wp2_with fail
          go_round
          case rel => exact ⟨k + 1, by omega, by go_num, HF⟩
          case measure => simp [intOf]; omega
      · have HF : Hid (s.data.toList.all p = true) := Lib.hid (by have := hb.out; rwa [take_all _ _ (by omega)] at this)
        go_wp2_with fail
        go_ret
        exact ⟨by rw [HM.out, HF.out]; rfl, rfl⟩
  · have HM : Hid (made s.data.toList most p = false) := Lib.hid (by
      unfold made; rw [size_len]
      rcases Nat.lt_or_ge s.size 1 with g | g
      · rw [decide_eq_false (by omega : ¬ 1 ≤ s.size)]; rfl
      · rw [decide_eq_false (by omega : ¬ s.size ≤ most)]; simp)
    by_cases g : (s.size : Int) < 1
    · clear h1
      go_enter Tryz.func127, Tryz.ntmps127
      go_wp2_with fail
      go_ret
      exact ⟨by rw [HM.out]; rfl, rfl⟩
    · have g2 : (most : Int) < (s.size : Int) := by omega
      clear h1
      go_enter Tryz.func127, Tryz.ntmps127
      go_wp2_with fail
      go_ret
      exact ⟨by rw [HM.out]; rfl, rfl⟩
theorem implBetween (s : ByteArray) (a b : UInt8) (hs : s.size ≤ 2097152) (w : World) :
    Calls Tryz.prog 63 #[.string s, .string (bs [a]), .string (bs [b])] w fun e w' => e = .returned (.tuple #[.string (bs ((inner s.data.toList a b).getD [])), .bool (inner s.data.toList a b).isSome]) ∧ w = w' := by
  unfold inner
  have hl : (bs (Lib.trimPrefix s.data.toList [a])).size ≤ 9223372036854775807 := by
    rw [bs_size]; unfold Lib.trimPrefix; split <;> simp <;> omega
  have C1 := fun w => Tryz.strings_CutPrefix s (bs [a]) w
  have C2 := fun w => Tryz.strings_CutSuffix (bs (Lib.trimPrefix s.data.toList [a])) (bs [b]) w hl
  simp only [bs_toList] at C1 C2
  cases h1 : Lib.hasPrefix s.data.toList [a] <;> cases h2 : Lib.hasSuffix (Lib.trimPrefix s.data.toList [a]) [b]
  all_goals
    rw [h1] at C1
    rw [h2] at C2
    clear h1 h2
    have D1 := Lib.hid C1
    have D2 := Lib.hid C2
    clear C1 C2
    go_enter Tryz.func63, Tryz.ntmps63
    go_wp2_with fail
    refine (D1.out _).mono ?_
    rintro e w' ⟨rfl, rfl⟩
    go_wp2_with fail
    refine (D2.out _).mono ?_
    rintro e w'' ⟨rfl, rfl⟩
    go_wp2_with fail
    go_ret2
    exact ⟨rfl, rfl⟩
end Go.Proofs.YtkcbgppplgkkbaaGreat
