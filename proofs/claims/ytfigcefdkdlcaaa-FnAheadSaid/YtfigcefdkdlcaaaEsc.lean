/- The contracts of the functions that escape. -/
import Derived.Test.YtfigcefdkdlcaaaBase
namespace Go.Proofs.Ytfigcefdkdlcaaa
open Go.RowKit
set_option maxHeartbeats 400000 in
theorem specEscaped (s : ByteArray) (w : World) (hs : s.size ≤ 2097152) :
    Calls Try.prog 19 #[.string s] w fun e w' => e = .returned (.string (bs (esc s.data.toList))) ∧ w = w' := by
  go_enter Try.func19, Try.ntmps19
  go_wp2
  go_loop [3, 4] (fun o i => ∃ k : Nat, k ≤ s.size ∧ i = .int .i64 k ∧ ∃ b : ByteArray, o = .string b ∧ b.size ≤ 2 * k ∧ Hid (b.data.toList = esc (s.data.toList.take k))) (fun _ i => s.size - (intOf i).toNat)
  case atStart => exact ⟨0, Nat.zero_le _, rfl, _, rfl, Nat.le_refl _, Lib.hid rfl⟩
  case round =>
    obtain ⟨k, hk, rfl, b, rfl, hbs, hb⟩ := hrel
    by_cases hlt : k < s.size
    · have HS : Hid (esc (s.data.toList.take (k + 1)) = b.data.toList ++ escB s[k]) := Lib.hid (by rw [take_snoc s k hlt, esc_snoc, hb.out])
      go_wp2
      all_goals
        go_round
        case rel => exact ⟨k + 1, by omega, by go_num, _, rfl, by simp [lit_size]; omega, Lib.hid (by rw [HS.out, app_toList, escB_b]; simp [*, drop_cons s k hlt])⟩
        case measure => simp [intOf]; omega
    · go_wp2
      go_ret
      exact ⟨by rw [bs_eq hb.out, take_all _ _ (by omega)]; rfl, rfl⟩
theorem esc_round {w wr w1 : World} {s : ByteArray} {k n : Nat} {v v' : Value} {news : List Value} {c : UInt8} {e : Nat}
    (hown : wr.ownsRow w.heap.size e 1 v (esc (s.data.toList.take k)).length ((esc (s.data.toList.take k)).map b8)) (hnx : Below w.heap.size w wr)
    (hown' : w1.ownsRow w.heap.size e 1 v' ((esc (s.data.toList.take k)).length + n) ((esc (s.data.toList.take k)).map b8 ++ news)) {o : Obj} (hg : (wr.alloc o).grownBy w1 v.ownBlock)
    (hs : esc (s.data.toList.take (k + 1)) = esc (s.data.toList.take k) ++ escB c) (hn : (escB c).length = n) (hx : news = (escB c).map b8) :
    w1.ownsRow w.heap.size e 1 v' (esc (s.data.toList.take (k + 1))).length ((esc (s.data.toList.take (k + 1))).map b8) ∧ Below w.heap.size w w1 := by
  have hsz := hnx.size
  refine ⟨?_, (hnx.alloc hsz _).grown hg (by simp; omega) (fun b hb => (hown.lt b hb).1)⟩
  rw [hs]
  exact own_snoc hown' hn.symm hx
set_option maxHeartbeats 800000 in
theorem implEscaped (s : ByteArray) (w : World) (hs : s.size ≤ 2097152) :
    Calls Try.prog 17 #[.string s] w fun e w' => e = .returned (.string (bs (esc s.data.toList))) ∧ Below w.heap.size w w' := by
  obtain ⟨i0, hi, hz0, hz1, hz2⟩ := info_parts infoU8
  go_enter Try.func17, Try.ntmps17
  go_wp2_with (at_make; refine wpList_make_own _ rfl _ _ 22 rfl w.heap.size 5 i0 (.int .u8 0) 1 Try.underlying22 hi hz0 hz1 .i64 .i64 _ s.size rfl rfl rfl ?c1 ?c2 (Nat.le_refl _) ?_)
  case c1 => rw [hz2]; omega
  case c2 => unfold maxLen; omega
  intro w0 hown0 hg0
  have hb0 : Below w.heap.size w w0 := (Below.refl _ _).grown hg0 (Nat.le_refl _) (by simp)
  clear hg0
  go_wp2
  go_loopw [3, 4] (fun v i wr => ∃ k : Nat, k ≤ s.size ∧ i = .int .i64 k ∧ wr.ownsRow w.heap.size 5 1 v (esc (s.data.toList.take k)).length ((esc (s.data.toList.take k)).map b8) ∧ Below w.heap.size w wr) (fun _ i _ => s.size - (intOf i).toNat)
  case atStart => exact ⟨0, Nat.zero_le _, rfl, hown0, hb0⟩
  case round =>
    obtain ⟨k, hk, rfl, hown, hnx⟩ := hrel
    have hsz := hnx.size
    by_cases hlt : k < s.size
    · have HS : Hid (esc (s.data.toList.take (k + 1)) = esc (s.data.toList.take k) ++ escB s[k]) := Lib.hid (by rw [take_snoc s k hlt, esc_snoc])
      have HL : Hid ((esc (s.data.toList.take k)).length ≤ 2 * k) := Lib.hid (by have := (esc_len (s.data.toList.take k)).2; rw [List.length_take, size_len] at this; omega)
      rcases test3 s[k] with ⟨h1, he⟩ | ⟨h1, h2, he⟩ | ⟨h1, h2, h3, he⟩ | ⟨h1, h2, h3, he⟩
      all_goals have HE := Lib.hid he; clear he
      · go_wp2_with (at_builtin; refine wpList_append_own _ rfl _ _ 22 rfl w.heap.size 5 i0 (.int .u8 0) 1 1 Try.underlying22 hi hz0 hz1 hz2 rfl (by decide) _ _ _ rfl (hown.alloc _) ⟨wr.heap.size, 0, none⟩ 2 2 [.int .u8 92, .int .u8 s[k].toNat] rfl rfl two_cell ?c2 ?c3 ?c4 ?c5 ?_)
        case c2 => simp [Value.oneCell']
        case c3 => have := HL.out; unfold maxLen; omega
        case c4 => have := HL.out; omega
        case c5 => simp; omega
        intro v' w1 hown' hgrow _
        have R := esc_round hown hnx hown' hgrow HS.out (by rw [HE.out]; rfl) (by rw [HE.out, (u8_int s[k] 34).1 h1]; rfl)
        clear hown' hgrow hown hnx
        go_wp2
        go_roundw
        case rel => exact ⟨k + 1, by omega, by go_num, R.1, R.2⟩
        case measure => simp [intOf]; omega
      · go_wp2_with (at_builtin; refine wpList_append_own _ rfl _ _ 22 rfl w.heap.size 5 i0 (.int .u8 0) 1 1 Try.underlying22 hi hz0 hz1 hz2 rfl (by decide) _ _ _ rfl (hown.alloc _) ⟨wr.heap.size, 0, none⟩ 2 2 [.int .u8 92, .int .u8 s[k].toNat] rfl rfl two_cell ?c2 ?c3 ?c4 ?c5 ?_)
        case c2 => simp [Value.oneCell']
        case c3 => have := HL.out; unfold maxLen; omega
        case c4 => have := HL.out; omega
        case c5 => simp; omega
        intro v' w1 hown' hgrow _
        have R := esc_round hown hnx hown' hgrow HS.out (by rw [HE.out]; rfl) (by rw [HE.out, (u8_int s[k] 92).1 h2]; rfl)
        clear hown' hgrow hown hnx
        go_wp2
        go_roundw
        case rel => exact ⟨k + 1, by omega, by go_num, R.1, R.2⟩
        case measure => simp [intOf]; omega
      · go_wp2_with (at_builtin; refine wpList_append_own _ rfl _ _ 22 rfl w.heap.size 5 i0 (.int .u8 0) 1 1 Try.underlying22 hi hz0 hz1 hz2 rfl (by decide) _ _ _ rfl (hown.alloc _) ⟨wr.heap.size, 0, none⟩ 2 2 [.int .u8 92, .int .u8 110] rfl rfl two_cell ?c2 ?c3 ?c4 ?c5 ?_)
        case c2 => simp [Value.oneCell']
        case c3 => have := HL.out; unfold maxLen; omega
        case c4 => have := HL.out; omega
        case c5 => simp; omega
        intro v' w1 hown' hgrow _
        have R := esc_round hown hnx hown' hgrow HS.out (by rw [HE.out]; rfl) (by rw [HE.out]; rfl)
        clear hown' hgrow hown hnx
        go_wp2
        go_roundw
        case rel => exact ⟨k + 1, by omega, by go_num, R.1, R.2⟩
        case measure => simp [intOf]; omega
      · go_wp2_with (at_builtin; refine wpList_append_own _ rfl _ _ 22 rfl w.heap.size 5 i0 (.int .u8 0) 1 1 Try.underlying22 hi hz0 hz1 hz2 rfl (by decide) _ _ _ rfl (hown.alloc _) ⟨wr.heap.size, 0, none⟩ 1 1 [.int .u8 s[k].toNat] rfl rfl one_cell ?c2 ?c3 ?c4 ?c5 ?_)
        case c2 => simp [Value.oneCell']
        case c3 => have := HL.out; unfold maxLen; omega
        case c4 => have := HL.out; omega
        case c5 => simp; omega
        intro v' w1 hown' hgrow _
        have R := esc_round hown hnx hown' hgrow HS.out (by rw [HE.out]; rfl) (by rw [HE.out]; rfl)
        clear hown' hgrow hown hnx
        go_wp2
        go_roundw
        case rel => exact ⟨k + 1, by omega, by go_num, R.1, R.2⟩
        case measure => simp [intOf]; omega
    · have hcv := str_of_own (P := Try.prog) 22 9 Try.underlying22 Try.underlying5 Try.underlying9 hown
      go_wp2
      go_ret
      exact ⟨by rw [take_all _ _ (by omega)]; rfl, hnx⟩
end Go.Proofs.Ytfigcefdkdlcaaa
