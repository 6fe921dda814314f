/- The contract of the program's TextIn. -/
import Derived.Test.YtfigcefdkdlcaabKind3
namespace Go.Proofs.Ytfigcefdkdlcaab
open Go.RowKit
theorem textIn_shape {l : List UInt8} {k : Nat} {r : List UInt8} (h : shape l = some (k, r)) : textIn l = if k = 2 ∧ kindOk k r = true then unesc r else none := by
  unfold textIn
  rw [h]
  by_cases hk : k = 2
  · subst hk
    have e : kindOk 2 r = textOk r := rfl
    simp [e]
  · simp [hk]
set_option maxRecDepth 100000 in
theorem implTextInNo (s : ByteArray) (w : World) (hn : textIn s.data.toList = none) (C : Calls Try.prog 49 #[.string s] w fun e w' => e = .returned (.tuple #[.nilIface, .bool false]) ∧ Below w.heap.size w w') :
    Calls Try.prog 18 #[.string s] w fun e w' => e = .returned (.tuple #[.string (bs ((textIn s.data.toList).getD [])), .bool (textIn s.data.toList).isSome]) ∧ Below w.heap.size w w' := by
  have D := Lib.hid C
  have HN := Lib.hid hn
  clear C hn
  go_enter Try.func18, Try.ntmps18
  go_wp2_with fail
  refine D.out.mono ?_
  rintro e w' ⟨rfl, hb⟩
  go_wp2_with fail
  go_ret2
  exact ⟨by rw [HN.out]; rfl, hb⟩
set_option maxRecDepth 100000 in
theorem implTextIn1 (s : ByteArray) (w : World) (r : List UInt8) (hn : textIn s.data.toList = none) (C : Calls Try.prog 49 #[.string s] w fun e w' => e = .returned (.tuple #[.iface 59 (.agg #[.string (bs r)]), .bool true]) ∧ Below w.heap.size w w') :
    Calls Try.prog 18 #[.string s] w fun e w' => e = .returned (.tuple #[.string (bs ((textIn s.data.toList).getD [])), .bool (textIn s.data.toList).isSome]) ∧ Below w.heap.size w w' := by
  have D := Lib.hid C
  have HN := Lib.hid hn
  have a2 := as12 (.string (bs r))
  clear C hn
  go_enter Try.func18, Try.ntmps18
  go_wp2_with fail
  refine D.out.mono ?_
  rintro e w' ⟨rfl, hb⟩
  go_wp2_with fail
  go_ret2
  exact ⟨by rw [HN.out]; rfl, hb⟩
set_option maxRecDepth 100000 in
theorem implTextIn3 (s : ByteArray) (w : World) (r : List UInt8) (hn : textIn s.data.toList = none) (C : Calls Try.prog 49 #[.string s] w fun e w' => e = .returned (.tuple #[.iface 62 (.agg #[.string (bs r)]), .bool true]) ∧ Below w.heap.size w w') :
    Calls Try.prog 18 #[.string s] w fun e w' => e = .returned (.tuple #[.string (bs ((textIn s.data.toList).getD [])), .bool (textIn s.data.toList).isSome]) ∧ Below w.heap.size w w' := by
  have D := Lib.hid C
  have HN := Lib.hid hn
  have a2 := as32 (.string (bs r))
  clear C hn
  go_enter Try.func18, Try.ntmps18
  go_wp2_with fail
  refine D.out.mono ?_
  rintro e w' ⟨rfl, hb⟩
  go_wp2_with fail
  go_ret2
  exact ⟨by rw [HN.out]; rfl, hb⟩
set_option maxRecDepth 100000 in
theorem implTextIn4 (s : ByteArray) (w : World) (r : List UInt8) (hn : textIn s.data.toList = none) (C : Calls Try.prog 49 #[.string s] w fun e w' => e = .returned (.tuple #[.iface 63 (.agg #[.string (bs r)]), .bool true]) ∧ Below w.heap.size w w') :
    Calls Try.prog 18 #[.string s] w fun e w' => e = .returned (.tuple #[.string (bs ((textIn s.data.toList).getD [])), .bool (textIn s.data.toList).isSome]) ∧ Below w.heap.size w w' := by
  have D := Lib.hid C
  have HN := Lib.hid hn
  have a2 := as42 (.string (bs r))
  clear C hn
  go_enter Try.func18, Try.ntmps18
  go_wp2_with fail
  refine D.out.mono ?_
  rintro e w' ⟨rfl, hb⟩
  go_wp2_with fail
  go_ret2
  exact ⟨by rw [HN.out]; rfl, hb⟩
set_option maxRecDepth 100000 in
theorem implTextIn2 (s : ByteArray) (w : World) (r : List UInt8) (hr : r.length ≤ 2097152) (hn : textIn s.data.toList = unesc r) (C : Calls Try.prog 49 #[.string s] w fun e w' => e = .returned (.tuple #[.iface 60 (.agg #[.string (bs r)]), .bool true]) ∧ Below w.heap.size w w') :
    Calls Try.prog 18 #[.string s] w fun e w' => e = .returned (.tuple #[.string (bs ((textIn s.data.toList).getD [])), .bool (textIn s.data.toList).isSome]) ∧ Below w.heap.size w w' := by
  have D := Lib.hid C
  have U := fun w => implUnescaped (bs r) w (by rw [bs_size]; exact hr)
  rw [bs_toList] at U
  rw [hn]
  have DU := Lib.hid U
  have a2 := as22 (.string (bs r))
  clear C hn U
  go_enter Try.func18, Try.ntmps18
  go_wp2_with fail
  refine D.out.mono ?_
  rintro e w' ⟨rfl, hb⟩
  go_wp2_with fail
  refine (DU.out _).mono ?_
  rintro e w2 ⟨rfl, hb2⟩
  go_wp2_with fail
  go_ret2
  have hsz := hb.size
  exact ⟨rfl, (hb.alloc hsz _).trans (hb2.mono (by simp; omega))⟩
theorem implTextIn (s : ByteArray) (hs : s.size ≤ 2097152) (w : World) :
    Calls Try.prog 18 #[.string s] w fun e w' => e = .returned (.tuple #[.string (bs ((textIn s.data.toList).getD [])), .bool (textIn s.data.toList).isSome]) ∧ Below w.heap.size w w' := by
  rcases hsh : shape s.data.toList with _ | ⟨k, r⟩
  · exact implTextInNo s w (by unfold textIn; rw [hsh]) (implTermOf0 s hs w hsh)
  · have h := shape_len hsh
    rw [size_len] at h
    have ht := textIn_shape hsh
    obtain rfl | rfl | rfl | rfl : k = 1 ∨ k = 2 ∨ k = 3 ∨ k = 4 := by omega
    · have C := implTermOf1 s hs w r hsh
      cases hk : kindOk 1 r
      · rw [hk] at C ht
        exact implTextInNo s w (by rw [ht]; simp) (by simpa only [Bool.false_eq_true, ↓reduceIte] using C)
      · rw [hk] at C ht
        exact implTextIn1 s w r (by rw [ht]; simp) (by simpa only [↓reduceIte] using C)
    · have C := implTermOf2 s hs w r hsh
      cases hk : kindOk 2 r
      · rw [hk] at C ht
        exact implTextInNo s w (by rw [ht]; simp) (by simpa only [Bool.false_eq_true, ↓reduceIte] using C)
      · rw [hk] at C ht
        exact implTextIn2 s w r (by omega) (by rw [ht]; simp) (by simpa only [↓reduceIte] using C)
    · have C := implTermOf3 s hs w r hsh
      cases hk : kindOk 3 r
      · rw [hk] at C ht
        exact implTextInNo s w (by rw [ht]; simp) (by simpa only [Bool.false_eq_true, ↓reduceIte] using C)
      · rw [hk] at C ht
        exact implTextIn3 s w r (by rw [ht]; simp) (by simpa only [↓reduceIte] using C)
    · have C := implTermOf4 s hs w r hsh
      cases hk : kindOk 4 r
      · rw [hk] at C ht
        exact implTextInNo s w (by rw [ht]; simp) (by simpa only [Bool.false_eq_true, ↓reduceIte] using C)
      · rw [hk] at C ht
        exact implTextIn4 s w r (by rw [ht]; simp) (by simpa only [↓reduceIte] using C)
end Go.Proofs.Ytfigcefdkdlcaab
