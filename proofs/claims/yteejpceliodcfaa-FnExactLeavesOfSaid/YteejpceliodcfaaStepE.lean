/- The exact laws' own comparison of numbers and of steps. -/
import Derived.Test.YteejpceliodcfaaStepD
import Derived.Deep.RegionHeld3
import Derived.Deep.QuietTactic
import Derived.BigQuiet
namespace Go.Proofs.Yteejpceliodcfaa
open Go.RowKit Go.WideShapes
set_option maxRecDepth 100000 in
set_option maxHeartbeats 1600000 in
theorem eqInts (a b : Option Addr) (la ca lb cb : Nat) (zs : List Int) (w : World) (ha : IsInts w a la ca zs) (hb : IsInts w b lb cb zs) (hs : la ≤ 1048576) :
    Calls Try.prog 133 #[.slice a la ca, .slice b lb cb] w fun e w' => e = .returned (.bool true) ∧ Below w.heap.size w w' := by
  have hlb : lb = la := by rw [← ha.len, ← hb.len]
  subst hlb
  have HA := Lib.hid ha
  have HB := Lib.hid hb
  clear ha hb
  go_enter Try.func133, Try.ntmps133
  go_wp2_with fail
  go_loopw [5] (fun i wr => ∃ k : Nat, k ≤ lb ∧ i = .int .i64 k ∧ Below w.heap.size w wr) (fun i _ => lb - (intOf i).toNat)
  case atStart => exact ⟨0, Nat.zero_le _, rfl, Below.refl _ _⟩
  case round =>
    obtain ⟨k, hk, rfl, hnx⟩ := hrel
    have hk6 : (0 : Int) ≤ (k : Int) := by omega
    by_cases hlt : k < lb
    · obtain ⟨x, off, rfl, hx, _, _, hts, hc⟩ := HA.out.cells (by omega)
      obtain ⟨y, off', rfl, hy, _, _, _, hd⟩ := HB.out.cells (by omega)
      have ht : zs[k]? = some zs[k] := List.getElem?_eq_getElem (by omega)
      have c0 := hc k _ ht
      have d0 := hd k _ ht
      rw [← hnx.cell (p := ⟨x, _, none⟩) hx] at c0
      rw [← hnx.cell (p := ⟨y, _, none⟩) hy] at d0
      generalize zs[k] = z at c0 d0
      have hlt2 : (k : Int) < (lb : Int) := by omega
      clear ht hts hc hd
      go_wp2_with fail
      go_quiet (fail)
      go_wp2_with fail
      go_roundw
      case rel => exact ⟨k + 1, by omega, by go_num, ⟨hnx.os, hnx.tape, hnx.output, hnx.size, hnx.block⟩⟩
      case measure => simp [intOf]; omega
    · go_wp2_with fail
      go_ret
      exact ⟨rfl, hnx⟩
set_option maxRecDepth 100000 in
set_option maxHeartbeats 1600000 in
theorem eqStep (s p o : ByteArray) (r : Int) (a b : Option Addr) (la ca lb cb : Nat) (zs : List Int) (w : World) (ha : IsInts w a la ca zs) (hb : IsInts w b lb cb zs) (hs : la ≤ 1048576) :
    Calls Try.prog 96 #[.agg #[.string s, .string p, .string o, .int .i64 r, .slice a la ca], .agg #[.string s, .string p, .string o, .int .i64 r, .slice b lb cb]] w fun e w' => e = .returned (.bool true) ∧ Below w.heap.size w w' := by
  obtain ⟨W, hW⟩ : ∃ W, (w.alloc (.cells #[.string s, .string p, .string o, .int .i64 r, .slice a la ca] 117)).alloc (.cells #[.string s, .string p, .string o, .int .i64 r, .slice b lb cb] 117) = W := ⟨_, rfl⟩
  have X := (Box5.new w (.string s) (.string p) (.string o) (.int .i64 r) (.slice a la ca) 117).alloc (.cells #[.string s, .string p, .string o, .int .i64 r, .slice b lb cb] 117)
  have Y := Box5.new (w.alloc (.cells #[.string s, .string p, .string o, .int .i64 r, .slice a la ca] 117)) (.string s) (.string p) (.string o) (.int .i64 r) (.slice b lb cb) 117
  have B0 := ((Below.refl w.heap.size w).alloc (Nat.le_refl _) (.cells #[.string s, .string p, .string o, .int .i64 r, .slice a la ca] 117)).alloc (by simp) (.cells #[.string s, .string p, .string o, .int .i64 r, .slice b lb cb] 117)
  rw [World.size_alloc] at Y
  rw [hW] at X Y B0
  have HA := Lib.hid ha
  have HB := Lib.hid hb
  clear ha hb
  obtain ⟨c0, c1, c2, c3, c4⟩ := X.cells
  obtain ⟨d0, d1, d2, d3, d4⟩ := Y.cells
  go_enter Try.func96, Try.ntmps96
  go_wp2_with fail
  clear hW
  refine (eqTri s p o _).mono ?_
  rintro e w1 ⟨rfl, hb⟩
  have B1 := B0.trans (hb.mono B0.size)
  have X1 := X.next hb
  have Y1 := Y.next hb
  clear hb X Y B0 c0 c1 c2 c3 c4 d0 d1 d2 d3 d4
  obtain ⟨c0, c1, c2, c3, c4⟩ := X1.cells
  obtain ⟨d0, d1, d2, d3, d4⟩ := Y1.cells
  go_wp2_with fail
  refine (eqInts a b la ca lb cb zs w1 (HA.out.next B1) (HB.out.next B1) hs).mono ?_
  rintro e w2 ⟨rfl, hb⟩
  have B2 := B1.trans (hb.mono B1.size)
  clear hb B1 X1 Y1 c0 c1 c2 c3 c4 d0 d1 d2 d3 d4
  go_wp2_with fail
  go_ret
  exact ⟨rfl, B2⟩
set_option maxRecDepth 100000 in
set_option maxHeartbeats 1600000 in
theorem eqSteps (a b : Option Addr) (la ca lb cb : Nat) (ts : List StepV) (w : World) (ha : IsSteps w a la ca ts) (hb : IsSteps w b lb cb ts) (hs : la + tot ts ≤ 1048576) :
    Calls Try.prog 47 #[.slice a la ca, .slice b lb cb] w fun e w' => e = .returned (.bool true) ∧ Below w.heap.size w w' := by
  have hlb : lb = la := by rw [← ha.len, ← hb.len]
  subst hlb
  have HA := Lib.hid ha
  have HB := Lib.hid hb
  have HT := Lib.hid ha.len
  have HTOT : Hid (∀ t ∈ ts, t.2.2.length ≤ 1048576) := Lib.hid (fun t ht => by have := tot_mem ht; omega)
  clear ha hb
  go_enter Try.func47, Try.ntmps47
  go_wp2_with fail
  go_loopw [5] (fun i wr => ∃ k : Nat, k ≤ lb ∧ i = .int .i64 k ∧ Below w.heap.size w wr) (fun i _ => lb - (intOf i).toNat)
  case atStart => exact ⟨0, Nat.zero_le _, rfl, Below.refl _ _⟩
  case round =>
    obtain ⟨k, hk, rfl, hnx⟩ := hrel
    have hk6 : (0 : Int) ≤ (k : Int) := by omega
    by_cases hlt : k < lb
    · obtain ⟨x, off, rfl, hx, _, _, hts, hc⟩ := (HA.out.next hnx).cells (by omega)
      obtain ⟨y, off', rfl, hy, _, _, _, hd⟩ := (HB.out.next hnx).cells (by omega)
      have ht : ts[k]? = some ts[k] := List.getElem?_eq_getElem (by omega)
      obtain ⟨c0, c1, c2, c3, ⟨a1, n1, k1, c4, hz1⟩, m0, m1, m2⟩ := hc k _ ht
      obtain ⟨d0, d1, d2, d3, ⟨a2, n2, k2, d4, hz2⟩, m3, m4, m5⟩ := hd k _ ht
      have hzt := HTOT.out _ (List.getElem_mem (by omega : k < ts.length))
      clear m0 m1 m2 m3 m4 m5
      generalize ts[k] = t at c0 c1 c2 c3 hz1 d0 d1 d2 d3 hz2 hzt
      obtain ⟨⟨s, p, o⟩, r, zs⟩ := t
      simp only at c0 c1 c2 c3 hz1 d0 d1 d2 d3 hz2 hzt
      have hn : n1 ≤ 1048576 := by have := hz1.len; omega
      have E := Lib.hid (fun (W : World) (h : Below wr.heap.size wr W) => eqStep s p o r a1 a2 n1 k1 n2 k2 zs W (hz1.next h) (hz2.next h) hn)
      have hlt2 : (k : Int) < (lb : Int) := by omega
      have l1 : x < wr.heap.size := hx
      have l2 : y < wr.heap.size := hy
      clear ht hts hc hd hz1 hz2
      go_wp2_with fail
      go_region_held3 (fun w' => w'.cell? ⟨x, off + k * 5, none⟩ = some (.string s) ∧ w'.cell? ⟨x, off + k * 5 + 1, none⟩ = some (.string p) ∧ w'.cell? ⟨x, off + k * 5 + 2, none⟩ = some (.string o) ∧ w'.cell? ⟨x, off + k * 5 + 3, none⟩ = some (.int .i64 r) ∧ w'.cell? ⟨x, off + k * 5 + 4, none⟩ = some (.slice a1 n1 k1) ∧ w'.cell? ⟨y, off' + k * 5, none⟩ = some (.string s) ∧ w'.cell? ⟨y, off' + k * 5 + 1, none⟩ = some (.string p) ∧ w'.cell? ⟨y, off' + k * 5 + 2, none⟩ = some (.string o) ∧ w'.cell? ⟨y, off' + k * 5 + 3, none⟩ = some (.int .i64 r) ∧ w'.cell? ⟨y, off' + k * 5 + 4, none⟩ = some (.slice a2 n2 k2))
        (first | go_keep | (go_split_ands; refine ⟨?_, ?_, ?_, ?_, ?_, ?_, ?_, ?_, ?_, ?_⟩ <;> (rw [ha4.cell (by first | (simp; done) | exact World.block_lt_of_cell? _ _ (by assumption))]; assumption)))
        (first | (go_at_call 96; refine (E.out _ (Below.drew (Below.refl _ _))).mono ?_; rintro e wa ⟨rfl, ha4⟩))
      have B : Below w.heap.size w wa := (Below.drew hnx).trans (ha4.mono hnx.size)
      clear ha4 hnx c0 c1 c2 c3 c4 d0 d1 d2 d3 d4 E
      go_wp2_with fail
      go_roundw
      case rel => exact ⟨k + 1, by omega, by go_num, B⟩
      case measure => simp [intOf]; omega
    · go_wp2_with fail
      go_ret
      exact ⟨rfl, hnx⟩
end Go.Proofs.Yteejpceliodcfaa
