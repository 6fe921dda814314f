/- Pairs that are marked: what they hold. -/
import Derived.Test.YtegjbfbmhlaelaaMarkQ
import Derived.Deep.RegionHeld3
namespace Go.Proofs.Ytegjbfbmhlaelaa
open Go.RowKit Go.WideShapes
set_option maxRecDepth 100000 in
set_option maxHeartbeats 1600000 in
theorem heldPairS (a : Option Addr) (n cap : Nat) (w : World) (h : IsPres w a n cap (marksP n)) (hl : n ≤ 12) :
    Calls Try.prog 17 #[.slice a n cap, .int .i64 1] w fun e w' => e = .returned (.int .i64 (1 + 2 * n)) ∧ Below w.heap.size w w' := by
  have H := Lib.hid h
  clear h
  go_enter Try.func17, Try.ntmps17
  go_wp2_with fail
  go_loopw [1, 5] (fun q i wr => ∃ k : Nat, k ≤ n ∧ i = .int .i64 k ∧ q = .int .i64 ((1 + 2 * k : Nat) : Int) ∧ Below w.heap.size w wr) (fun _ i _ => n - (intOf i).toNat)
  case atStart => exact ⟨0, Nat.zero_le _, rfl, rfl, Below.refl _ _⟩
  case round =>
    obtain ⟨k, hk, rfl, rfl, hnx⟩ := hrel
    by_cases hlt : k < n
    · obtain ⟨b, off, rfl, hb, _, _, _, hc⟩ := H.out.cells (by omega)
      obtain ⟨c0, c1, _, _⟩ := hc k _ (marksP_at hlt)
      have hk6 : (0 : Int) ≤ (k : Int) := by omega
      have hk7 : (k : Int) < (n : Int) := by omega
      have l0 : b < wr.heap.size := Nat.lt_of_lt_of_le hb hnx.size
      have m0 := markText (1 + 2 * k) (by omega) (by omega)
      have m1 := markText (1 + 2 * k + 1) (by omega) (by omega)
      unfold markP at c0 c1
      simp only at c0 c1
      obtain ⟨q, hq⟩ : ∃ q : Nat, 1 + 2 * k = q := ⟨_, rfl⟩
      rw [hq] at m0 m1 c0 c1
      have d1 : ((q + 1 : Nat) : Int) = (q : Int) + 1 := by omega
      rw [d1] at m1
      have M0 := Lib.hid m0
      have M1 := Lib.hid m1
      rw [hq]
      have hqs : q ≤ 25 := by omega
      have hq3 : ((1 + 2 * (k + 1) : Nat) : Int) = (q : Int) + 1 + 1 := by omega
      generalize mark q = t0 at *
      generalize mark (q + 1) = t1 at *
      clear hq m0 m1 d1 hc
      go_wp2_with fail
      have KK := c0
      rw [← hnx.cell (p := ⟨b, _, none⟩) hb] at KK
      have LL : b < wr.heap.size := Nat.lt_of_lt_of_le hb hnx.size
      go_region_held3 (fun w' => w'.cell? ⟨b, off + k * 2, none⟩ = some (.string t0))
        (first | go_keep | (rw [ha0.cell (by first | (simp; done) | exact World.block_lt_of_cell? _ _ (by assumption))]; assumption))
        (first | (go_at_call 71; refine (M0.out _).mono ?_; rintro e wa0 ⟨rfl, ha0⟩))
      have B0 : Below w.heap.size w wa0 := (Below.drew hnx).trans (ha0.mono hnx.size)
      clear ha0 KK LL hnx
      go_wp2_with fail
      have KK := c1
      rw [← B0.cell (p := ⟨b, _, none⟩) hb] at KK
      have LL : b < wa0.heap.size := Nat.lt_of_lt_of_le hb B0.size
      go_region_held3 (fun w' => w'.cell? ⟨b, off + k * 2 + 1, none⟩ = some (.string t1))
        (first | go_keep | (rw [ha1.cell (by first | (simp; done) | exact World.block_lt_of_cell? _ _ (by assumption))]; assumption))
        (first | (go_at_call 71; refine (M1.out _).mono ?_; rintro e wa1 ⟨rfl, ha1⟩))
      have B1 : Below w.heap.size w wa1 := (Below.drew B0).trans (ha1.mono B0.size)
      clear ha1 KK LL B0
      go_wp2_with fail
      go_roundw
      case rel => exact ⟨k + 1, by omega, by go_num, by rw [hq3], B1⟩
      case measure => simp [intOf]; omega
    · obtain rfl : k = n := by omega
      have hv : ((1 + 2 * k : Nat) : Int) = 1 + 2 * (k : Int) := by omega
      go_wp2_with fail
      go_ret
      exact ⟨by rw [← hv]; rfl, hnx⟩
end Go.Proofs.Ytegjbfbmhlaelaa
