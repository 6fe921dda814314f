/- A slice of prefixes that came in: what its cells hold.; The contracts of the functions that take the escapes away again.; What kind a word is: plain functions on lists of bytes. -/
import Derived.Test.YtiajdnhmjdfeeaaGreatK02
import Derived.Test.YtiajdnhmjdfeeaaGreatK01
import Derived.Lib.Strings
namespace Go.Proofs.YtiajdnhmjdfeeaaGreat
open Go.ChangeShapes Go.WideShapes Go.ChangeAt Go.RowKit
abbrev Pre2 := ByteArray × ByteArray
def PreAt (w : World) (x : Addr) (i : Nat) (t : Pre2) : Prop := w.cell? (x.add (2 * i)) = some (.string t.1) ∧ w.cell? (x.add (2 * i + 1)) = some (.string t.2) ∧ t.1.size ≤ maxLen ∧ t.2.size ≤ maxLen
/-- The slice is nil, or its cells hold the prefixes ts, two texts each. -/
def IsPres (w : World) (a : Option Addr) (len cap : Nat) (ts : List Pre2) : Prop :=
  (a = none ∧ len = 0 ∧ cap = 0 ∧ ts = []) ∨
  ∃ x, a = some x ∧ len ≤ cap ∧ cap ≤ maxLen ∧ ts.length = len ∧ ∀ (i : Nat) (t : Pre2), ts[i]? = some t → PreAt w x i t
/-- The place of a slice that has an element, and its cells. -/
theorem IsPres.cells {w : World} {a : Option Addr} {len cap : Nat} {ts : List Pre2} (h : IsPres w a len cap ts) (h0 : 0 < len) : ∃ b off, a = some ⟨b, off, none⟩ ∧ b < w.heap.size ∧ len ≤ cap ∧ cap ≤ maxLen ∧ ts.length = len ∧
    ∀ (i : Nat) (t : Pre2), ts[i]? = some t → w.cell? ⟨b, off + i * 2, none⟩ = some (.string t.1) ∧ w.cell? ⟨b, off + i * 2 + 1, none⟩ = some (.string t.2) ∧ t.1.size ≤ maxLen ∧ t.2.size ≤ maxLen := by
  rcases h with ⟨_, rfl, _⟩ | ⟨x, rfl, h1, h2, h3, h4⟩
  · omega
  · obtain ⟨b, off, spot⟩ := x
    have ht : ts[0]? = some ts[0] := List.getElem?_eq_getElem (by omega)
    have hc := (h4 0 _ ht).1
    obtain rfl : spot = none := by simpa [Addr.add] using World.cell?_spot hc
    refine ⟨b, off, rfl, ?_, h1, h2, h3, fun i t hi => ?_⟩
    · have := World.block_lt_of_cell? _ _ hc
      simpa [Addr.add] using this
    · obtain ⟨c0, c1, w0, w1⟩ := h4 i t hi
      rw [add_plain] at c0 c1
      rw [Nat.mul_comm] at c0 c1
      exact ⟨c0, by rw [Nat.add_assoc]; exact c1, w0, w1⟩
theorem IsPres.len {w : World} {a : Option Addr} {len cap : Nat} {ts : List Pre2} (h : IsPres w a len cap ts) : ts.length = len := by
  rcases h with ⟨_, rfl, _, rfl⟩ | ⟨x, _, _, _, h, _⟩
  · rfl
  · exact h
theorem IsPres.grown {w w' : World} {a : Option Addr} {len cap : Nat} {ts : List Pre2} (h : IsPres w a len cap ts) (hg : w.grownBy w' none) : IsPres w' a len cap ts := by
  rcases h with h | ⟨x, rfl, h1, h2, h3, h4⟩
  · exact .inl h
  · refine .inr ⟨x, rfl, h1, h2, h3, fun i t hi => ?_⟩
    obtain ⟨c0, c1, w0, w1⟩ := h4 i t hi
    exact ⟨hg.cell c0 (by simp), hg.cell c1 (by simp), w0, w1⟩
end Go.Proofs.YtiajdnhmjdfeeaaGreat
namespace Go.Proofs.YtiajdnhmjdfeeaaGreat
open Go.RowKit
theorem unesc_quote {c : UInt8} {r : List UInt8} (h : ((c.toNat : Int) == 34) = true) : unesc (c :: r) = none := by rw [unesc.eq_def]; simp only [h, if_true]
theorem unesc_line {c : UInt8} {r : List UInt8} (h : ((c.toNat : Int) == 10) = true) : unesc (c :: r) = none := by rw [unesc.eq_def]; simp only [h, if_true, ite_self]
theorem unesc_plain {c : UInt8} {r : List UInt8} (h1 : ((c.toNat : Int) == 34) = false) (h2 : ((c.toNat : Int) == 10) = false) (h3 : ((c.toNat : Int) == 92) = false) : unesc (c :: r) = (unesc r).map (c :: ·) := by
  rw [unesc.eq_def]; simp only [h1, h2, h3]; simp
theorem unesc_end {c : UInt8} (h3 : ((c.toNat : Int) == 92) = true) : unesc [c] = none := by
  rw [(u8_int c 92).1 h3]; rfl
theorem unesc_two {c d : UInt8} {r : List UInt8} (h3 : ((c.toNat : Int) == 92) = true) : unesc (c :: d :: r) =
    if ((d.toNat : Int) == 34) = true then (unesc r).map (d :: ·) else if ((d.toNat : Int) == 92) = true then (unesc r).map (d :: ·) else
      if ((d.toNat : Int) == 110) = true then (unesc r).map (10 :: ·) else none := by
  rw [(u8_int c 92).1 h3, unesc]; rfl
set_option maxHeartbeats 800000 in
theorem specUnescaped (s : ByteArray) (w : World) (hs : s.size ≤ 2097152) :
    Calls Tryz.prog 174 #[.string s] w fun e w' => e = .returned (.tuple #[.string (bs ((unesc s.data.toList).getD [])), .bool (unesc s.data.toList).isSome]) ∧ w = w' := by
  go_enter Tryz.func174, Tryz.ntmps174
  go_wp2
  go_loop [4, 5] (fun o i => ∃ k : Nat, k ≤ s.size ∧ i = .int .i64 k ∧ ∃ b : ByteArray, o = .string b ∧ b.size ≤ k ∧ Hid (unesc s.data.toList = (unesc (s.data.toList.drop k)).map (b.data.toList ++ ·))) (fun _ i => s.size - (intOf i).toNat)
  case atStart => exact ⟨0, Nat.zero_le _, rfl, _, rfl, Nat.le_refl _, Lib.hid (by simp)⟩
  case round =>
    obtain ⟨k, hk, rfl, b, rfl, hbs, hb⟩ := hrel
    by_cases hlt : k < s.size
    · have hd := drop_cons s k hlt
      have HD := Lib.hid hd; clear hd
      cases h1 : ((s[k].toNat : Int) == 34)
      rotate_left
      · have g1 : (s[k].toNat : Int) = 34 := by simpa using h1
        have HN : Hid (unesc s.data.toList = none) := Lib.hid (by rw [hb.out, HD.out, unesc_quote h1]; rfl)
        go_wp2
        go_ret2
        exact ⟨by rw [HN.out]; rfl, rfl⟩

      have g1 : ¬ (s[k].toNat : Int) = 34 := by simpa using h1
      cases h2 : ((s[k].toNat : Int) == 10)
      rotate_left
      · have g2 : (s[k].toNat : Int) = 10 := by simpa using h2
        have HN : Hid (unesc s.data.toList = none) := Lib.hid (by rw [hb.out, HD.out, unesc_line h2]; rfl)
        go_wp2
        go_ret2
        exact ⟨by rw [HN.out]; rfl, rfl⟩

      have g2 : ¬ (s[k].toNat : Int) = 10 := by simpa using h2
      cases h3 : ((s[k].toNat : Int) == 92)
      · have g3 : ((s[k].toNat : Int) != 92) = true := by simp [bne, h3]
        have HN : Hid (unesc s.data.toList = (unesc (s.data.toList.drop (k + 1))).map (b.data.toList ++ s[k] :: ·)) := Lib.hid (by rw [hb.out, HD.out, unesc_plain h1 h2 h3, Option.map_map]; rfl)
        go_wp2
        go_round
        case rel => exact ⟨k + 1, by omega, by go_num, _, rfl, by simp; omega, Lib.hid (by rw [HN.out, app_toList, ext_one s k hlt]; simp)⟩
        case measure => simp [intOf]; omega

      have g3 : ((s[k].toNat : Int) != 92) = false := by simp [bne, h3]
      by_cases hend : k + 1 = s.size
      · have g4 : ((k : Int) + 1 == (s.size : Int)) = true := by rw [beq_iff_eq]; omega
        have HN : Hid (unesc s.data.toList = none) := Lib.hid (by rw [hb.out, HD.out, drop_all s (k + 1) (by omega), unesc_end h3]; rfl)
        clear hend
        go_wp2
        go_ret2
        exact ⟨by rw [HN.out]; rfl, rfl⟩

      have hlt2 : k + 1 < s.size := by omega
      clear hend
      have g4 : ((k : Int) + 1 == (s.size : Int)) = false := by rw [beq_eq_false_iff_ne]; omega
      have HD2 : Hid (s.data.toList.drop (k + 1) = s[k + 1] :: s.data.toList.drop (k + 1 + 1)) := Lib.hid (drop_cons s (k + 1) hlt2)
      have HU := Lib.hid (unesc_two (c := s[k]) (d := s[k + 1]) (r := s.data.toList.drop (k + 1 + 1)) h3)
      cases h5 : ((s[k + 1].toNat : Int) == 34)
      rotate_left
      · have HN : Hid (unesc s.data.toList = (unesc (s.data.toList.drop (k + 1 + 1))).map (b.data.toList ++ s[k + 1] :: ·)) := Lib.hid (by rw [hb.out, HD.out, HD2.out, HU.out, if_pos h5, Option.map_map]; rfl)
        go_wp2
        go_round
        case rel => exact ⟨k + 1 + 1, by omega, by go_num, _, rfl, by simp; omega, Lib.hid (by rw [HN.out, app_toList, ext_one s (k + 1) hlt2]; simp)⟩
        case measure => simp [intOf]; omega

      cases h6 : ((s[k + 1].toNat : Int) == 92)
      rotate_left
      · have HN : Hid (unesc s.data.toList = (unesc (s.data.toList.drop (k + 1 + 1))).map (b.data.toList ++ s[k + 1] :: ·)) := Lib.hid (by rw [hb.out, HD.out, HD2.out, HU.out, if_neg (by simp [h5]), if_pos h6, Option.map_map]; rfl)
        go_wp2
        go_round
        case rel => exact ⟨k + 1 + 1, by omega, by go_num, _, rfl, by simp; omega, Lib.hid (by rw [HN.out, app_toList, ext_one s (k + 1) hlt2]; simp)⟩
        case measure => simp [intOf]; omega

      cases h7 : ((s[k + 1].toNat : Int) == 110)
      · have HN : Hid (unesc s.data.toList = none) := Lib.hid (by rw [hb.out, HD.out, HD2.out, HU.out, if_neg (by simp [h5]), if_neg (by simp [h6]), if_neg (by simp [h7])]; rfl)
        go_wp2
        go_ret2
        exact ⟨by rw [HN.out]; rfl, rfl⟩

      · have HN : Hid (unesc s.data.toList = (unesc (s.data.toList.drop (k + 1 + 1))).map (b.data.toList ++ 10 :: ·)) := Lib.hid (by rw [hb.out, HD.out, HD2.out, HU.out, if_neg (by simp [h5]), if_neg (by simp [h6]), if_pos h7, Option.map_map]; rfl)
        go_wp2
        go_round
        case rel => exact ⟨k + 1 + 1, by omega, by go_num, _, rfl, by simp [lit_size]; omega, Lib.hid (by rw [HN.out, app_toList]; simp)⟩
        case measure => simp [intOf]; omega

    · have HN : Hid (unesc s.data.toList = some b.data.toList) := Lib.hid (by rw [hb.out, drop_all s k (by omega)]; simp [unesc])
      go_wp2
      go_ret2
      exact ⟨by rw [HN.out]; simp [bs_of], rfl⟩
set_option maxRecDepth 100000 in
set_option maxHeartbeats 1600000 in
theorem implUnescaped (s : ByteArray) (w : World) (hs : s.size ≤ 2097152) :
    Calls Tryz.prog 247 #[.string s] w fun e w' => e = .returned (.tuple #[.string (bs ((unesc s.data.toList).getD [])), .bool (unesc s.data.toList).isSome]) ∧ Below w.heap.size w w' := by
  obtain ⟨i0, hi, hz0, hz1, hz2⟩ := info_parts infoU8
  go_enter Tryz.func247, Tryz.ntmps247
  go_wp2_with (at_make; refine wpList_make_own _ rfl _ _ 43 rfl w.heap.size 5 i0 (.int .u8 0) 1 Tryz.underlying43 hi hz0 hz1 .i64 .i64 _ s.size rfl rfl rfl ?c1 ?c2 (Nat.le_refl _) ?_)
  case c1 => rw [hz2]; omega
  case c2 => unfold maxLen; omega
  intro w0 hown0 hg0
  have hb0 : Below w.heap.size w w0 := (Below.refl _ _).grown hg0 (Nat.le_refl _) (by simp)
  clear hg0
  go_wp2
  go_loopw [4, 5] (fun v i wr => ∃ k : Nat, k ≤ s.size ∧ i = .int .i64 k ∧ ∃ l : List UInt8, l.length ≤ k ∧ wr.ownsRow w.heap.size 5 1 v l.length (l.map b8) ∧ Below w.heap.size w wr ∧ Hid (unesc s.data.toList = (unesc (s.data.toList.drop k)).map (l ++ ·))) (fun _ i _ => s.size - (intOf i).toNat)
  case atStart => exact ⟨0, Nat.zero_le _, rfl, [], by simp, hown0, hb0, Lib.hid (by simp)⟩
  case round =>
    obtain ⟨k, hk, rfl, l, hbs, hown, hnx, hb⟩ := hrel
    have hsz := hnx.size
    by_cases hlt : k < s.size
    · have hd := drop_cons s k hlt
      have HD := Lib.hid hd; clear hd
      cases h1 : ((s[k].toNat : Int) == 34)
      rotate_left
      · have g1 : (s[k].toNat : Int) = 34 := by simpa using h1
        have HN : Hid (unesc s.data.toList = none) := Lib.hid (by rw [hb.out, HD.out, unesc_quote h1]; rfl)
        go_wp2_with go_in
        go_ret2
        exact ⟨by rw [HN.out]; rfl, hnx⟩

      have g1 : ¬ (s[k].toNat : Int) = 34 := by simpa using h1
      cases h2 : ((s[k].toNat : Int) == 10)
      rotate_left
      · have g2 : (s[k].toNat : Int) = 10 := by simpa using h2
        have HN : Hid (unesc s.data.toList = none) := Lib.hid (by rw [hb.out, HD.out, unesc_line h2]; rfl)
        go_wp2_with go_in
        go_ret2
        exact ⟨by rw [HN.out]; rfl, hnx⟩

      have g2 : ¬ (s[k].toNat : Int) = 10 := by simpa using h2
      cases h3 : ((s[k].toNat : Int) == 92)
      · have g3 : ((s[k].toNat : Int) != 92) = true := by simp [bne, h3]
        have HN : Hid (unesc s.data.toList = (unesc (s.data.toList.drop (k + 1))).map (l ++ s[k] :: ·)) := Lib.hid (by rw [hb.out, HD.out, unesc_plain h1 h2 h3, Option.map_map]; rfl)
        go_wp2_with (first | (at_builtin; refine wpList_append_own _ rfl _ _ 43 rfl w.heap.size 5 i0 (.int .u8 0) 1 1 Tryz.underlying43 hi hz0 hz1 hz2 rfl (by decide) _ _ _ rfl (hown.alloc _) ⟨wr.heap.size, 0, none⟩ 1 1 [.int .u8 s[k].toNat] rfl rfl one_cell ?c2 ?c3 ?c4 ?c5 ?_) | go_in)
        case c2 => simp [Value.oneCell']
        case c3 => unfold maxLen; omega
        case c4 => omega
        case c5 => simp; omega
        intro v' w1 hown' hgrow _
        have R := own_round (m := [s[k]]) hown hnx hown' hgrow rfl rfl
        clear hown' hgrow hown hnx
        go_wp2
        go_roundw
        case rel => exact ⟨k + 1, by omega, by go_num, l ++ [s[k]], by simp; omega, R.1, R.2, Lib.hid (by rw [HN.out]; simp)⟩
        case measure => simp [intOf]; omega

      have g3 : ((s[k].toNat : Int) != 92) = false := by simp [bne, h3]
      by_cases hend : k + 1 = s.size
      · have g4 : ((k : Int) + 1 == (s.size : Int)) = true := by rw [beq_iff_eq]; omega
        have HN : Hid (unesc s.data.toList = none) := Lib.hid (by rw [hb.out, HD.out, drop_all s (k + 1) (by omega), unesc_end h3]; rfl)
        clear hend
        go_wp2_with go_in
        go_ret2
        exact ⟨by rw [HN.out]; rfl, hnx⟩

      have hlt2 : k + 1 < s.size := by omega
      clear hend
      have g4 : ((k : Int) + 1 == (s.size : Int)) = false := by rw [beq_eq_false_iff_ne]; omega
      have HD2 : Hid (s.data.toList.drop (k + 1) = s[k + 1] :: s.data.toList.drop (k + 1 + 1)) := Lib.hid (drop_cons s (k + 1) hlt2)
      have HU := Lib.hid (unesc_two (c := s[k]) (d := s[k + 1]) (r := s.data.toList.drop (k + 1 + 1)) h3)
      cases h5 : ((s[k + 1].toNat : Int) == 34)
      rotate_left
      · have HN : Hid (unesc s.data.toList = (unesc (s.data.toList.drop (k + 1 + 1))).map (l ++ s[k + 1] :: ·)) := Lib.hid (by rw [hb.out, HD.out, HD2.out, HU.out, if_pos h5, Option.map_map]; rfl)
        go_wp2_with (first | (at_builtin; refine wpList_append_own _ rfl _ _ 43 rfl w.heap.size 5 i0 (.int .u8 0) 1 1 Tryz.underlying43 hi hz0 hz1 hz2 rfl (by decide) _ _ _ rfl (hown.alloc _) ⟨wr.heap.size, 0, none⟩ 1 1 [.int .u8 s[k + 1].toNat] rfl rfl one_cell ?c2 ?c3 ?c4 ?c5 ?_) | go_in)
        case c2 => simp [Value.oneCell']
        case c3 => unfold maxLen; omega
        case c4 => omega
        case c5 => simp; omega
        intro v' w1 hown' hgrow _
        have R := own_round (m := [s[k + 1]]) hown hnx hown' hgrow rfl rfl
        clear hown' hgrow hown hnx
        go_wp2
        go_roundw
        case rel => exact ⟨k + 1 + 1, by omega, by go_num, l ++ [s[k + 1]], by simp; omega, R.1, R.2, Lib.hid (by rw [HN.out]; simp)⟩
        case measure => simp [intOf]; omega

      cases h6 : ((s[k + 1].toNat : Int) == 92)
      rotate_left
      · have HN : Hid (unesc s.data.toList = (unesc (s.data.toList.drop (k + 1 + 1))).map (l ++ s[k + 1] :: ·)) := Lib.hid (by rw [hb.out, HD.out, HD2.out, HU.out, if_neg (by simp [h5]), if_pos h6, Option.map_map]; rfl)
        go_wp2_with (first | (at_builtin; refine wpList_append_own _ rfl _ _ 43 rfl w.heap.size 5 i0 (.int .u8 0) 1 1 Tryz.underlying43 hi hz0 hz1 hz2 rfl (by decide) _ _ _ rfl (hown.alloc _) ⟨wr.heap.size, 0, none⟩ 1 1 [.int .u8 s[k + 1].toNat] rfl rfl one_cell ?c2 ?c3 ?c4 ?c5 ?_) | go_in)
        case c2 => simp [Value.oneCell']
        case c3 => unfold maxLen; omega
        case c4 => omega
        case c5 => simp; omega
        intro v' w1 hown' hgrow _
        have R := own_round (m := [s[k + 1]]) hown hnx hown' hgrow rfl rfl
        clear hown' hgrow hown hnx
        go_wp2
        go_roundw
        case rel => exact ⟨k + 1 + 1, by omega, by go_num, l ++ [s[k + 1]], by simp; omega, R.1, R.2, Lib.hid (by rw [HN.out]; simp)⟩
        case measure => simp [intOf]; omega

      cases h7 : ((s[k + 1].toNat : Int) == 110)
      · have HN : Hid (unesc s.data.toList = none) := Lib.hid (by rw [hb.out, HD.out, HD2.out, HU.out, if_neg (by simp [h5]), if_neg (by simp [h6]), if_neg (by simp [h7])]; rfl)
        go_wp2_with go_in
        go_ret2
        exact ⟨by rw [HN.out]; rfl, hnx⟩

      · have HN : Hid (unesc s.data.toList = (unesc (s.data.toList.drop (k + 1 + 1))).map (l ++ 10 :: ·)) := Lib.hid (by rw [hb.out, HD.out, HD2.out, HU.out, if_neg (by simp [h5]), if_neg (by simp [h6]), if_pos h7, Option.map_map]; rfl)
        go_wp2_with (first | (at_builtin; refine wpList_append_own _ rfl _ _ 43 rfl w.heap.size 5 i0 (.int .u8 0) 1 1 Tryz.underlying43 hi hz0 hz1 hz2 rfl (by decide) _ _ _ rfl (hown.alloc _) ⟨wr.heap.size, 0, none⟩ 1 1 [.int .u8 10] rfl rfl one_cell ?c2 ?c3 ?c4 ?c5 ?_) | go_in)
        case c2 => simp [Value.oneCell']
        case c3 => unfold maxLen; omega
        case c4 => omega
        case c5 => simp; omega
        intro v' w1 hown' hgrow _
        have R := own_round (m := [10]) hown hnx hown' hgrow rfl rfl
        clear hown' hgrow hown hnx
        go_wp2
        go_roundw
        case rel => exact ⟨k + 1 + 1, by omega, by go_num, l ++ [10], by simp; omega, R.1, R.2, Lib.hid (by rw [HN.out]; simp)⟩
        case measure => simp [intOf]; omega

    · have HN : Hid (unesc s.data.toList = some l) := Lib.hid (by rw [hb.out, drop_all s k (by omega)]; simp [unesc])
      have hcv := str_of_own (P := Tryz.prog) 43 9 Tryz.underlying43 Tryz.underlying5 Tryz.underlying9 hown
      go_wp2
      go_ret2
      exact ⟨by rw [HN.out]; rfl, hnx⟩
end Go.Proofs.YtiajdnhmjdfeeaaGreat
namespace Go.Proofs.YtiajdnhmjdfeeaaGreat
def labB (c : UInt8) : Bool := (decide (97 ≤ (c.toNat : Int)) && decide ((c.toNat : Int) ≤ 122)) || (decide (48 ≤ (c.toNat : Int)) && decide ((c.toNat : Int) ≤ 57))
def nameB (c : UInt8) : Bool := labB c || ((c.toNat : Int) == 58) || ((c.toNat : Int) == 47) || ((c.toNat : Int) == 35)
def textB (c : UInt8) : Bool := (decide (32 ≤ (c.toNat : Int)) && decide ((c.toNat : Int) ≤ 126)) || ((c.toNat : Int) == 10)
def made (l : List UInt8) (most : Nat) (p : UInt8 → Bool) : Bool := decide (1 ≤ l.length) && decide (l.length ≤ most) && l.all p
/-- What stands between the two marks. -/
def inner (l : List UInt8) (a b : UInt8) : Option (List UInt8) :=
  if Lib.hasPrefix l [a] && Lib.hasSuffix (Lib.trimPrefix l [a]) [b] then some (Lib.trimSuffix (Lib.trimPrefix l [a]) [b]) else none
/-- Which mark a word has, and what stands behind it. -/
def shape (l : List UInt8) : Option (Nat × List UInt8) :=
  match inner l 60 62 with
  | some r => some (1, r)
  | none => match inner l 34 34 with
    | some r => some (2, r)
    | none => if Lib.hasPrefix l [95, 58] then some (3, l.drop 2) else if Lib.hasPrefix l [63] then some (4, l.drop 1) else none
def textOk (r : List UInt8) : Bool := match unesc r with
  | some t => t.isEmpty || made t 12 textB
  | none => false
def kindOk (k : Nat) (r : List UInt8) : Bool := if k = 1 then made r 12 nameB else if k = 2 then textOk r else made r 6 labB
def kindL (l : List UInt8) : Nat := match shape l with
  | some (k, r) => if kindOk k r then k else 0
  | none => 0
def textIn (l : List UInt8) : Option (List UInt8) := match shape l with
  | some (k, r) => if k = 2 && textOk r then unesc r else none
  | none => none
theorem shape_len {l : List UInt8} {k : Nat} {r : List UInt8} (h : shape l = some (k, r)) : r.length ≤ l.length ∧ 1 ≤ k ∧ k ≤ 4 := by
  have hi : ∀ a b q, inner l a b = some q → q.length ≤ l.length := by
    intro a b q hq
    unfold inner at hq
    split at hq
    · simp only [Option.some.injEq] at hq
      subst hq
      unfold Lib.trimSuffix Lib.trimPrefix
      split <;> (try split) <;> simp <;> omega
    · simp at hq
  unfold shape at h
  split at h
  · rename_i q hq; simp only [Option.some.injEq, Prod.mk.injEq] at h; obtain ⟨rfl, rfl⟩ := h; exact ⟨hi _ _ _ hq, by omega, by omega⟩
  · split at h
    · rename_i q hq; simp only [Option.some.injEq, Prod.mk.injEq] at h; obtain ⟨rfl, rfl⟩ := h; exact ⟨hi _ _ _ hq, by omega, by omega⟩
    · split at h
      · simp only [Option.some.injEq, Prod.mk.injEq] at h; obtain ⟨rfl, rfl⟩ := h; simp
      · split at h
        · simp only [Option.some.injEq, Prod.mk.injEq] at h; obtain ⟨rfl, rfl⟩ := h; simp
        · simp at h
end Go.Proofs.YtiajdnhmjdfeeaaGreat
