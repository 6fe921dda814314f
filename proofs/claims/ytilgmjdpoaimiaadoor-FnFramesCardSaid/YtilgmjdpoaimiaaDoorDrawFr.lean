/- Drawn frames: the reader's texts and bytes, what is read as frames, and a text to be framed. -/
import Derived.Test.YtilgmjdpoaimiaaDoorRdH
import Derived.Test.YtilgmjdpoaimiaaDoorFrmS
namespace Go.Proofs.YtilgmjdpoaimiaaDoor
open Go.RowKit Go.WideShapes
theorem grown_offF {a b c : World} {row r : Option Nat} (h : a.grownBy b row) (k : b.grownBy c r) (hr : ∀ j, r = some j → a.heap.size ≤ j) : a.grownBy c row :=
  ⟨k.os.trans h.os, k.tape.trans h.tape, k.output.trans h.output, Nat.le_trans h.size k.size, fun i hi hne => (k.block i (Nat.lt_of_lt_of_le hi h.size) fun e => by have := hr i e.symm; omega).trans (h.block i hi hne)⟩
theorem own_rdR {B C g e size n : Nat} {w w' : World} {v : Value} {xs : List Value} (h : w.ownsRow B e size v n xs) (hg : w.grownBy w' (some g)) (hBg : g < C) (hC : C ≤ B) : w'.ownsRow B e size v n xs := by
  refine World.ownsRow.kept h hg ?_
  rcases hv : v.ownBlock with _ | q
  · exact .inl rfl
  · refine .inr fun e => ?_
    have := (World.ownsRow.lt h q hv).1
    cases e
    omega
theorem rdText (B g : Nat) (w : World) (h : Rd B w g) :
    Calls Tryd.prog 19 #[.pointer (some ⟨g, 0, none⟩)] w fun e w' => ∃ s : ByteArray, s.size ≤ 6 ∧ e = .returned (.string s) ∧ Rd B w' g ∧ w.grownBy w' (some g) := by
  go_enter Tryd.func19, Tryd.ntmps19
  go_wp2_with fail
  refine (rdContent B g _ h).mono ?_
  rintro e w1 ⟨s, _, hs, rfl, hr, hg⟩
  go_wp2_with fail
  go_ret
  exact ⟨s, hs, rfl, hr, hg⟩
theorem mod_u8 (n : Nat) (h : n < 256) : b8 (UInt8.ofNat n) = .int .u8 (n : Int) := by
  unfold b8
  congr 1
  have : (UInt8.ofNat n).toNat = n := by simp; omega
  rw [this]
set_option maxHeartbeats 1600000 in
theorem rdBytes (B g : Nat) (w : World) (h : Rd B w g) :
    Calls Tryd.prog 24 #[.pointer (some ⟨g, 0, none⟩), .int .i64 5] w fun e w' => ∃ s : ByteArray, s.size ≤ 5 ∧ e = .returned (.string s) ∧ Rd B w' g ∧ w.grownBy w' (some g) := by
  obtain ⟨i0, hi, hz0, hz1, hz2⟩ := info_parts infoU8
  have hgw := h.2.1
  have R0 := h.alloc (.cells #[] 5)
  have G0 := World.grownBy_alloc w (.cells #[] 5) (some g)
  have O0 := (World.ownsRow_lit (size := 1) (e := 5) w #[] 0 (Nat.le_refl _) (by decide) rfl)
  go_enter Tryd.func24, Tryd.ntmps24
  go_wp2_with fail
  refine (rdBelow B g _ R0 6 (by omega) (by omega)).mono ?_
  rintro e w1 ⟨m, hm, hm2, rfl, hr1, hg1⟩
  obtain ⟨m, rfl⟩ := Int.eq_ofNat_of_zero_le hm
  have O1 := own_rdR O0 hg1 hgw (Nat.le_refl _)
  have G1 := G0.trans hg1
  clear O0 R0 G0 hg1 hm
  go_wp2_with fail
  go_loopw [5, 6] (fun v i wr => ∃ (k : Nat) (l : List UInt8), k ≤ m ∧ i = .int .i64 k ∧ l.length + k = m ∧ Hid (wr.ownsRow w.heap.size 5 1 v l.length (l.map b8)) ∧ Rd B wr g ∧ w.grownBy wr (some g)) (fun _ i _ => (intOf i).toNat)
  case atStart => exact ⟨m, [], Nat.le_refl _, rfl, by simp, Lib.hid O1, hr1, G1⟩
  case round =>
    obtain ⟨k, l, hk, rfl, hl, HQ, hr, hg⟩ := hrel
    clear O1 hr1 G1
    by_cases hk0 : (0 : Int) < k
    · go_wp2_with fail
      refine (rdBelow B g _ hr 256 (by omega) (by omega)).mono ?_
      rintro e w2 ⟨x, hx, hx2, rfl, hr2, hg2⟩
      obtain ⟨x, rfl⟩ := Int.eq_ofNat_of_zero_le hx
      have O2 := Lib.hid ((own_rdR HQ.out hg2 hgw (Nat.le_refl _)).alloc (.cells #[.int .u8 (x : Int)] 5))
      have hlt := fun j hj => (World.ownsRow.lt HQ.out j hj).1
      have G2 := hg.trans hg2
      have z2 := G2.size
      have e1 : (x : Int) % 256 = x := by omega
      clear hg2 HQ hr
      go_wp2_with (at_builtin; refine wpList_append_own _ rfl _ _ 22 rfl w.heap.size 5 i0 (.int .u8 0) 1 1 Tryd.underlying22 hi hz0 hz1 hz2 rfl (by decide) _ _ _ rfl O2.out ⟨w2.heap.size, 0, none⟩ 1 1 [.int .u8 (x : Int)] rfl rfl one_cell ?c2 ?c3 ?c4 ?c5 ?_)
      case c2 => simp [Value.oneCell']
      case c3 => unfold maxLen; omega
      case c4 => omega
      case c5 => simp; omega
      intro v' w3 hown hgrow _
      have O3 := own_snoc hown (m := [UInt8.ofNat x]) rfl (by rw [List.map_singleton, mod_u8 x (by omega)])
      have HO3 := Lib.hid O3
      have R3 := (hr2.alloc _).grown hgrow (fun j hj => by have := hlt j hj; have := h.1; omega)
      have G3 := grown_offF (G2.trans (World.grownBy_alloc w2 _ _)) hgrow hlt
      clear hown hgrow O3 O2 hr2 G2
      go_wp2_with fail
      go_roundw
      case rel => exact ⟨k - 1, l ++ [UInt8.ofNat x], by omega, by go_num, by rw [List.length_append, List.length_singleton]; omega, HO3, R3, G3⟩
      case measure => simp [intOf]; omega
    · have hcv := str_of_own (P := Tryd.prog) 22 9 Tryd.underlying22 Tryd.underlying5 Tryd.underlying9 HQ.out
      go_wp2_with fail
      go_ret
      exact ⟨bs l, by rw [bs_size]; omega, rfl, hr, hg⟩
set_option maxHeartbeats 1600000 in
theorem drawFrameOf (a : Option Addr) (len cap : Nat) (zs : List Int) (w : World) (h : Frame.IsRow .u8 w a len cap zs) :
    Calls Tryd.prog 12 #[.slice a len cap] w fun e w' => ∃ s : ByteArray, s.size ≤ 11 ∧ e = .returned (.string s) ∧ w.grownBy w' none := by
  go_enter Tryd.func12, Tryd.ntmps12
  go_wp2_with fail
  refine (rdOpen w a len cap zs h).mono ?_
  rintro e w1 ⟨rfl, r1, g1⟩
  go_wp2_with fail
  refine (rdText _ _ _ r1).mono ?_
  rintro e w2 ⟨s, hs, rfl, r2, g2⟩
  have G2 := grown_new g1 g2
  go_wp2_with fail
  refine (rdBytes _ _ _ r2).mono ?_
  rintro e w3 ⟨t, ht, rfl, r3, g3⟩
  have G3 := grown_new G2 g3
  go_wp2_with fail
  go_ret
  exact ⟨s ++ t, by rw [ByteArray.size_append]; omega, rfl, G3⟩
set_option maxHeartbeats 1600000 in
theorem drawTakeFrames (a : Option Addr) (len cap : Nat) (zs : List Int) (w : World) (h : Frame.IsRow .u8 w a len cap zs) :
    Calls Tryd.prog 7 #[.slice a len cap] w fun e w' => ∃ s : ByteArray, s.size ≤ 60 ∧ e = .returned (.string s) ∧ w.grownBy w' none := by
  go_enter Tryd.func7, Tryd.ntmps7
  go_wp2_with fail
  refine (rdOpen w a len cap zs h).mono ?_
  rintro e w1 ⟨rfl, r1, g1⟩
  go_wp2_with fail
  refine (rdBelow _ _ _ r1 4 (by omega) (by omega)).mono ?_
  rintro e w2 ⟨m, hm, hm2, rfl, r2, g2⟩
  obtain ⟨m, rfl⟩ := Int.eq_ofNat_of_zero_le hm
  have G2 := grown_new g1 g2
  clear g1 g2 r1 hm
  go_wp2_with fail
  go_loopw [4, 5] (fun v i wr => ∃ (k : Nat) (s : ByteArray), k ≤ m ∧ i = .int .i64 k ∧ s.size + 14 * k ≤ 14 * m ∧ v = .string s ∧ Rd w.heap.size wr w.heap.size ∧ w.grownBy wr none) (fun _ i _ => (intOf i).toNat)
  case atStart => exact ⟨m, ⟨#[]⟩, Nat.le_refl _, rfl, by show 0 + 14 * m ≤ 14 * m; omega, rfl, r2, G2⟩
  case round =>
    obtain ⟨k, s, hk, rfl, hl, rfl, hr, hg⟩ := hrel
    clear r2 G2
    by_cases hk0 : (0 : Int) < k
    · go_wp2_with fail
      refine (rdText _ _ _ hr).mono ?_
      rintro e w3 ⟨t, ht, rfl, r3, g3⟩
      have G3 := grown_new hg g3
      go_wp2_with fail
      refine (specFrameOf t _ (by omega)).mono ?_
      rintro e w4 ⟨rfl, hb4⟩
      have g4 := grown_of_below hb4
      have G4 := G3.trans g4
      have r4 := r3.grown g4 (by simp)
      have hfl : (bs (frameL t.data.toList)).size ≤ 14 := by
        rw [bs_size, frameL_len (by rw [size_len]; omega), size_len]
        omega
      generalize bs (frameL t.data.toList) = f at hfl
      have hsf : (s ++ f).size ≤ s.size + 14 := by rw [ByteArray.size_append]; omega
      go_wp2_with fail
      go_roundw
      case rel => exact ⟨k - 1, s ++ f, by omega, by go_num, by omega, rfl, r4, G4⟩
      case measure => simp [intOf]; omega
    · go_wp2_with fail
      refine (rdHurt _ _ _ hr s (by omega)).mono ?_
      rintro e w3 ⟨t, ht, rfl, r3, g3⟩
      have G3 := grown_new hg g3
      go_wp2_with fail
      go_ret
      exact ⟨t, by omega, rfl, G3⟩
end Go.Proofs.YtilgmjdpoaimiaaDoor
