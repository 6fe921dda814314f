/- The contracts of the functions that escape. -/
import Derived.Test.YtegjbfbmhlaelaaBase
namespace Go.Proofs.Ytegjbfbmhlaelaa
open Go.RowKit
set_option maxHeartbeats 400000 in
theorem specEscaped (s : ByteArray) (w : World) (hs : s.size ≤ 2097152) :
    Calls Try.prog 158 #[.string s] w fun e w' => e = .returned (.string (bs (esc s.data.toList))) ∧ w = w' := by
  go_enter Try.func158, Try.ntmps158
  go_wp2
  go_loop [3, 4] (fun o i => ∃ k : Nat, k ≤ s.size ∧ i = .int .i64 k ∧ ∃ b : ByteArray, o = .string b ∧ b.size ≤ 2 * k ∧ Hid (b.data.toList = esc (s.data.toList.take k))) (fun _ i => s.size - (intOf i).toNat)
  case atStart => exact ⟨0, Nat.zero_le _, rfl, _, rfl, Nat.le_refl _, Lib.hid rfl⟩
  case round =>
    obtain ⟨k, hk, rfl, b, rfl, hbs, hb⟩ := hrel
    by_cases hlt : k < s.size
    · have HS : Hid (esc (s.data.toList.take (k + 1)) = b.data.toList ++ escB s[k]) := Lib.hid (by rw [take_snoc s k hlt, esc_snoc, hb.out])
      go_wp2
      all_goals
        go_round
        case rel => exact ⟨k + 1, by omega, by go_num, _, rfl, by simp [lit_size]; omega, Lib.hid (by rw [HS.out, app_toList, escB_b]; simp [*, drop_cons s k hlt])⟩
        case measure => simp [intOf]; omega
    · go_wp2
      go_ret
      exact ⟨by rw [bs_eq hb.out, take_all _ _ (by omega)]; rfl, rfl⟩
end Go.Proofs.Ytegjbfbmhlaelaa
