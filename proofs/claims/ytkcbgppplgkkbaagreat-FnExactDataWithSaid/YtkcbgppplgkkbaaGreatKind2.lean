/- The contracts of the program's functions on kinds: what a word is, and what a text has in it. -/
import Derived.Test.YtkcbgppplgkkbaaGreatKind
namespace Go.Proofs.YtkcbgppplgkkbaaGreat
open Go.RowKit
/-- The type of the value that holds a word of kind k. -/
def tyOf (k : Nat) : TypeId := if k = 1 then 73 else if k = 2 then 74 else if k = 3 then 76 else 77
def termVal (k : Nat) (r : List UInt8) : Value := .iface (tyOf k) (.agg #[.string (bs r)])
theorem implUnmarked (s : ByteArray) (hs : s.size ≤ 2097152) (w : World) :
    Calls Tryz.prog 56 #[.string s] w fun e w' => e = .returned (match shape s.data.toList with | some (k, r) => .tuple #[termVal k r, .bool true] | none => .tuple #[.nilIface, .bool false]) ∧ w = w' := by
  have B1 := fun w => implBetween s 60 62 hs w
  have B2 := fun w => implBetween s 34 34 hs w
  have C3 := fun w => Tryz.strings_CutPrefix s (bs [95, 58]) w
  have C4 := fun w => Tryz.strings_CutPrefix s (bs [63]) w
  simp only [bs_toList] at C3 C4
  unfold shape
  cases h1 : inner s.data.toList 60 62 with
  | some r =>
    rw [h1] at B1
    have D1 := Lib.hid B1
    clear B1 B2 C3 C4 h1
    go_enter Tryz.func56, Tryz.ntmps56
    go_wp2_with fail
    refine (D1.out _).mono ?_
    rintro e w' ⟨rfl, rfl⟩
    go_wp2_with fail
    go_ret2
    exact ⟨rfl, rfl⟩
  | none =>
    rw [h1] at B1
    clear h1
    cases h2 : inner s.data.toList 34 34 with
    | some r =>
      rw [h2] at B2
      have D1 := Lib.hid B1
      have D2 := Lib.hid B2
      clear B1 B2 C3 C4 h2
      go_enter Tryz.func56, Tryz.ntmps56
      go_wp2_with fail
      refine (D1.out _).mono ?_
      rintro e w' ⟨rfl, rfl⟩
      go_wp2_with fail
      refine (D2.out _).mono ?_
      rintro e w'' ⟨rfl, rfl⟩
      go_wp2_with fail
      go_ret2
      exact ⟨rfl, rfl⟩
    | none =>
      rw [h2] at B2
      clear h2
      unfold Lib.trimPrefix at C3 C4
      cases h3 : Lib.hasPrefix s.data.toList [95, 58] <;> cases h4 : Lib.hasPrefix s.data.toList [63]
      all_goals
        rw [h3] at C3
        rw [h4] at C4
        have D1 := Lib.hid B1
        have D2 := Lib.hid B2
        have D3 := Lib.hid C3
        have D4 := Lib.hid C4
        clear B1 B2 C3 C4 h3 h4
        go_enter Tryz.func56, Tryz.ntmps56
        go_wp2_with fail
        refine (D1.out _).mono ?_
        rintro e w' ⟨rfl, rfl⟩
        go_wp2_with fail
        refine (D2.out _).mono ?_
        rintro e w'' ⟨rfl, rfl⟩
        go_wp2_with fail
        refine (D3.out _).mono ?_
        rintro e w3 ⟨rfl, rfl⟩
        go_wp2_with fail
        try
          refine (D4.out _).mono ?_
          rintro e w4 ⟨rfl, rfl⟩
          go_wp2_with fail
        go_ret2
        exact ⟨rfl, rfl⟩
theorem nameRight (r : List UInt8) (hr : r.length ≤ 2097152) (w : World) :
    Calls Tryz.prog 126 #[.agg #[.string (bs r)]] w fun e w' => e = .returned (.bool (made r 12 nameB)) ∧ Below w.heap.size w w' := by
  have C := fun w => implMade 128 nameB (Lib.hid implName) (enters_of Tryz.func128 (by kernel_rfl) rfl) (bs r) 12 (by rw [bs_size]; omega) w
  rw [bs_toList] at C
  have D := Lib.hid C
  clear C
  go_enter Tryz.func126, Tryz.ntmps126
  go_wp2_with fail
  refine (D.out _).mono ?_
  rintro e w' ⟨rfl, rfl⟩
  go_wp2_with fail
  go_ret
  exact ⟨rfl, (Below.refl _ _).alloc (Nat.le_refl _) _⟩
theorem blankRight (r : List UInt8) (hr : r.length ≤ 2097152) (w : World) :
    Calls Tryz.prog 134 #[.agg #[.string (bs r)]] w fun e w' => e = .returned (.bool (made r 6 labB)) ∧ Below w.heap.size w w' := by
  have C := fun w => implMade 129 labB (Lib.hid implLabel) (enters_of Tryz.func129 (by kernel_rfl) rfl) (bs r) 6 (by rw [bs_size]; omega) w
  rw [bs_toList] at C
  have D := Lib.hid C
  clear C
  go_enter Tryz.func134, Tryz.ntmps134
  go_wp2_with fail
  refine (D.out _).mono ?_
  rintro e w' ⟨rfl, rfl⟩
  go_wp2_with fail
  go_ret
  exact ⟨rfl, (Below.refl _ _).alloc (Nat.le_refl _) _⟩
theorem varRight (r : List UInt8) (hr : r.length ≤ 2097152) (w : World) :
    Calls Tryz.prog 135 #[.agg #[.string (bs r)]] w fun e w' => e = .returned (.bool (made r 6 labB)) ∧ Below w.heap.size w w' := by
  have C := fun w => implMade 129 labB (Lib.hid implLabel) (enters_of Tryz.func129 (by kernel_rfl) rfl) (bs r) 6 (by rw [bs_size]; omega) w
  rw [bs_toList] at C
  have D := Lib.hid C
  clear C
  go_enter Tryz.func135, Tryz.ntmps135
  go_wp2_with fail
  refine (D.out _).mono ?_
  rintro e w' ⟨rfl, rfl⟩
  go_wp2_with fail
  go_ret
  exact ⟨rfl, (Below.refl _ _).alloc (Nat.le_refl _) _⟩
theorem textRight (r : List UInt8) (hr : r.length ≤ 2097152) (w : World) :
    Calls Tryz.prog 130 #[.agg #[.string (bs r)]] w fun e w' => e = .returned (.bool (textOk r)) ∧ Below w.heap.size w w' := by
  have C := fun w => implUnescaped (bs r) w (by rw [bs_size]; omega)
  rw [bs_toList] at C
  unfold textOk
  cases hu : unesc r with
  | none =>
    rw [hu] at C
    have D := Lib.hid C
    clear C hu
    go_enter Tryz.func130, Tryz.ntmps130
    go_wp2_with fail
    refine (D.out _).mono ?_
    rintro e w' ⟨rfl, hb⟩
    go_wp2_with fail
    go_ret
    exact ⟨rfl, ((Below.refl _ _).alloc (Nat.le_refl _) _).trans (hb.mono (by simp))⟩
  | some t =>
    have ht := unesc_len _ _ hu
    have M := fun w => implMade 132 textB (Lib.hid implText) (enters_of Tryz.func132 (by kernel_rfl) rfl) (bs t) 12 (by rw [bs_size]; omega) w
    rw [bs_toList] at M
    have DM := Lib.hid M
    rw [hu] at C
    have D := Lib.hid C
    clear C hu M
    cases t with
    | nil =>
      have hne : (bs []).toList.isEmpty = true := by rw [bs_list]; rfl
      have hne2 : (bs []).toList = [] := bs_list []
      go_enter Tryz.func130, Tryz.ntmps130
      go_wp2_with fail
      refine (D.out _).mono ?_
      rintro e w' ⟨rfl, hb⟩
      go_wp2_with fail
      go_ret
      exact ⟨rfl, ((Below.refl _ _).alloc (Nat.le_refl _) _).trans (hb.mono (by simp))⟩
    | cons c q =>
      have hne : (bs (c :: q)).toList.isEmpty = false := by rw [bs_list]; rfl
      have hne2 : ¬ (bs (c :: q)).toList = [] := by rw [bs_list]; simp
      go_enter Tryz.func130, Tryz.ntmps130
      go_wp2_with fail
      refine (D.out _).mono ?_
      rintro e w' ⟨rfl, hb⟩
      go_wp2_with fail
      refine (DM.out _).mono ?_
      rintro e w'' ⟨rfl, rfl⟩
      go_wp2_with fail
      go_ret
      exact ⟨rfl, ((Below.refl _ _).alloc (Nat.le_refl _) _).trans (hb.mono (by simp))⟩
end Go.Proofs.YtkcbgppplgkkbaaGreat
