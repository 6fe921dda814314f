/- What stands ahead of the first such byte, and behind it. -/
import Derived.Test.YtapcbhpkbdlinaaBase
import Derived.Test.YtapcbhpkbdlinaaShelf
import Derived.Lib.Bytealg
import Derived.Deep.QuietTactic
import Derived.BigQuiet
import Derived.WalkSmall
import Derived.IntWalk
namespace Go.Proofs.Ytapcbhpkbdlinaa
open Go.RowKit
def cutL : List UInt8 → UInt8 → List UInt8 × List UInt8 × Bool
  | [], _ => ([], [], false)
  | x :: r, c => if x = c then ([], r, true) else (x :: (cutL r c).1, (cutL r c).2)
theorem cutL_yes (c : UInt8) (r : List UInt8) : cutL (c :: r) c = ([], r, true) := by simp [cutL]
theorem cutL_no {x c : UInt8} (r : List UInt8) (h : ¬ x = c) : cutL (x :: r) c = (x :: (cutL r c).1, (cutL r c).2) := by simp [cutL, h]
theorem cutL_index (c : UInt8) : ∀ l : List UInt8, (Lib.indexByte l c = -1 ∧ cutL l c = (l, [], false)) ∨ ∃ k : Nat, k < l.length ∧ Lib.indexByte l c = k ∧ cutL l c = (l.take k, l.drop (k + 1), true)
  | [] => .inl ⟨rfl, rfl⟩
  | x :: r => by
    by_cases h : x = c
    · refine .inr ⟨0, by simp, ?_, ?_⟩
      · simp [Lib.indexByte, h]
      · rw [h, cutL_yes]; rfl
    · have hb : (x == c) = false := by simpa using h
      rcases cutL_index c r with ⟨h1, h2⟩ | ⟨k, hk, h1, h2⟩
      · refine .inl ⟨by simp [Lib.indexByte, hb, h1], ?_⟩
        rw [cutL_no r h, h2]
      · refine .inr ⟨k + 1, by simpa using hk, ?_, ?_⟩
        · have : ¬ ((k : Int) = -1) := by omega
          simp [Lib.indexByte, hb, h1, this]
        · rw [cutL_no r h, h2]; simp
theorem cutL_len (l : List UInt8) (c : UInt8) : (cutL l c).1.length ≤ l.length ∧ (cutL l c).2.1.length ≤ l.length := by
  rcases cutL_index c l with ⟨_, h⟩ | ⟨k, hk, _, h⟩ <;> rw [h] <;> simp <;> omega
set_option maxRecDepth 100000 in
theorem libCut (s : ByteArray) (c : UInt8) (hs : s.size ≤ 2097152) (w : World) :
    Calls Try.prog 120 #[.string s, .string ⟨#[c]⟩] w fun e w' => e = .returned (.tuple #[.string (bs (cutL s.data.toList c).1), .string (bs (cutL s.data.toList c).2.1), .bool (cutL s.data.toList c).2.2]) ∧ Below w.heap.size w w' := by
  have C := Try.stringslite_Index_one s c
  rcases cutL_index c s.data.toList with ⟨h1, h2⟩ | ⟨k, hk, h1, h2⟩
  · rw [h1] at C
    have D := Lib.hid C
    have H2 := Lib.hid h2
    clear C h1 h2
    go_enter Try.func120, Try.ntmps120
    go_wp2_with fail
    refine (D.out _).mono ?_
    rintro e w' ⟨rfl, rfl⟩
    go_wp2_with fail
    go_ret3
    exact ⟨by rw [H2.out]; simp only [bs_of]; rfl, Below.refl _ _⟩
  · rw [h1] at C
    rw [size_len] at hk
    have D := Lib.hid C
    have H2 := Lib.hid h2
    clear C h1 h2
    have s1 := fun wx => run_slice_string_h (P := Try.prog) wx 9 s Try.underlying9 .i64 (k : Int) (by omega) (by omega)
    have s2 := fun wx => run_slice_string_l (P := Try.prog) wx 9 s Try.underlying9 .i64 ((k : Int) + 1) (by omega) (by omega)
    have hw : IntKind.i64.wrap ((k : Int) + 1) = (k : Int) + 1 := IntWalk.i64_in _ (by omega)
    have e1 : ((k : Int) + 1).toNat = k + 1 := by omega
    have H0 : Hid (s.extract 0 k = bs (s.data.toList.take k)) := Lib.hid (bs_eq (by rw [ext_toList, List.drop_zero]))
    have H1 : Hid (s.extract (k + 1) s.size = bs (s.data.toList.drop (k + 1))) := Lib.hid (bs_eq (by rw [ext_toList, take_all _ _ (Nat.le_refl _)]))
    simp only [Int.toNat_natCast] at s1
    rw [e1] at s2
    clear e1
    go_enter Try.func120, Try.ntmps120
    go_wp2_with fail
    refine (D.out _).mono ?_
    rintro e w' ⟨rfl, rfl⟩
    go_wp2_with fail
    go_quiet (fail)
    go_wp2_with fail
    go_ret3
    exact ⟨by rw [H2.out, H0.out, H1.out]; rfl, below_drewN (Below.refl _ _) _⟩
theorem strCut (s : ByteArray) (c : UInt8) (hs : s.size ≤ 2097152) (w : World) :
    Calls Try.prog 74 #[.string s, .string ⟨#[c]⟩] w fun e w' => e = .returned (.tuple #[.string (bs (cutL s.data.toList c).1), .string (bs (cutL s.data.toList c).2.1), .bool (cutL s.data.toList c).2.2]) ∧ Below w.heap.size w w' := by
  have D := Lib.hid (libCut s c hs w)
  go_enter Try.func74, Try.ntmps74
  go_wp2_with fail
  refine D.out.mono ?_
  rintro e w' ⟨rfl, hb⟩
  go_wp2_with fail
  go_ret3
  exact ⟨rfl, hb⟩
end Go.Proofs.Ytapcbhpkbdlinaa
