/- Two slices of triples are held against each other: the library's way, and the specification's. -/
import Derived.Test.YteejpceliodcfaaTriEq
import Derived.Test.YteejpceliodcfaaExactS3
import Derived.Test.YteejpceliodcfaaOwn
import Derived.Test.YteejpceliodcfaaTriA
import Derived.Deep.QuietTactic
import Derived.BigQuiet
namespace Go.Proofs.Yteejpceliodcfaa
open Go.RowKit Go.WideShapes
theorem tri_unlike {t u : Tri3} (h : t ≠ u) : (t.1.toList == u.1.toList && (t.2.1.toList == u.2.1.toList && t.2.2.toList == u.2.2.toList)) = false := by
  cases e : (t.1.toList == u.1.toList && (t.2.1.toList == u.2.1.toList && t.2.2.toList == u.2.2.toList))
  · rfl
  · exfalso
    simp only [Bool.and_eq_true, beq_iff_eq, ByteArray.toList_eq] at e
    obtain ⟨t1, t2, t3⟩ := t
    obtain ⟨u1, u2, u3⟩ := u
    have e1 := data_inj e.1
    have e2 := data_inj e.2.1
    have e3 := data_inj e.2.2
    simp only at e1 e2 e3
    exact h (by rw [e1, e2, e3])
theorem tri_diff {t u : Tri3} (h : t ≠ u) (w : World) : (binOp .neq 46 (.agg #[.string t.1, .string t.2.1, .string t.2.2]) (.agg #[.string u.1, .string u.2.1, .string u.2.2])).run Try.prog w = .ok (.bool true) w := by
  rw [tri_ne, tri_unlike h]; rfl
set_option maxRecDepth 100000 in
set_option maxHeartbeats 1600000 in
theorem implEqT (a b : Option Addr) (la ca lb cb : Nat) (ts us : List Tri3) (w : World) (ha : IsTris w a la ca ts) (hb : IsTris w b lb cb us) (hla : la ≤ 1048576) (hlb : lb ≤ 9223372036854775807) :
    Calls Try.prog 72 #[.slice a la ca, .slice b lb cb] w fun e w' => e = .returned (.bool (decide (ts = us))) ∧ Below w.heap.size w w' := by
  have HT := Lib.hid ha.len
  have HU := Lib.hid hb.len
  by_cases hl : la = lb
  rotate_left
  · have HR : Hid (decide (ts = us) = false) := Lib.hid (decide_eq_false (fun e => hl (by rw [← HT.out, ← HU.out, e])))
    have hli : ¬ (la : Int) = (lb : Int) := by omega
    clear ha hb
    go_enter Try.func72, Try.ntmps72
    go_wp2_with fail
    go_ret
    exact ⟨by rw [HR.out]; rfl, Below.refl _ _⟩
  subst hl
  have HA := Lib.hid ha
  have HB := Lib.hid hb
  clear ha hb
  go_enter Try.func72, Try.ntmps72
  go_wp2_with fail
  go_loopw [13] (fun i wr => ∃ k : Nat, k ≤ la ∧ i = .int .i64 k ∧ Hid (∀ i, i < k → ts[i]? = us[i]?) ∧ Below w.heap.size w wr) (fun i _ => la - (intOf i).toNat)
  case atStart => exact ⟨0, Nat.zero_le _, rfl, Lib.hid (fun i hi => by omega), Below.refl _ _⟩
  case round =>
    obtain ⟨k, hk, rfl, hs, hnx⟩ := hrel
    by_cases hlt : k < la
    · obtain ⟨x, off, rfl, hx, _, _, hts, hc⟩ := HA.out.cells (by omega)
      obtain ⟨y, off', rfl, hy, _, _, hus, hd⟩ := HB.out.cells (by omega)
      have ht : ts[k]? = some (ts[k]'(by omega)) := List.getElem?_eq_getElem (by omega)
      have hu : us[k]? = some (us[k]'(by omega)) := List.getElem?_eq_getElem (by omega)
      obtain ⟨c0, c1, c2, m0, m1, m2⟩ := hc k _ ht
      obtain ⟨d0, d1, d2, n0, n1, n2⟩ := hd k _ hu
      clear m0 m1 m2 n0 n1 n2
      rw [← hnx.cell (p := ⟨x, _, none⟩) hx] at c0 c1 c2
      rw [← hnx.cell (p := ⟨y, _, none⟩) hy] at d0 d1 d2
      generalize ts[k]'(by omega) = t at ht c0 c1 c2
      generalize us[k]'(by omega) = u at hu d0 d1 d2
      have hk6 : (0 : Int) ≤ (k : Int) := by omega
      have hk7 : (k : Int) < (la : Int) := by omega
      clear hts hus hc hd
      by_cases he : t = u
      · have HS : Hid (∀ i, i < k + 1 → ts[i]? = us[i]?) := Lib.hid (fun i hi => by
          rcases Nat.lt_or_ge i k with g | g
          · exact hs.out i g
          · obtain rfl : i = k := by omega
            rw [ht, hu, he])
        subst he
        have EQ := tri_same t.1 t.2.1 t.2.2
        clear ht hu hs
        go_wp2_with fail
        go_quiet (fail)
        have B : Below w.heap.size w (wr.drewN nq) := below_drewN hnx nq
        clear hnx c0 c1 c2 d0 d1 d2 EQ
        generalize wr.drewN nq = wd at B ⊢
        go_wp2_with fail
        go_roundw
        case rel => exact ⟨k + 1, by omega, by go_num, HS, B⟩
        case measure => simp [intOf]; omega
      · have HR : Hid (decide (ts = us) = false) := Lib.hid (decide_eq_false (fun e => he (by rw [e, hu] at ht; exact (Option.some.inj ht).symm)))
        have EQ := tri_diff he
        clear ht hu hs he
        go_wp2_with fail
        go_quiet (fail)
        have B : Below w.heap.size w (wr.drewN nq) := below_drewN hnx nq
        clear hnx c0 c1 c2 d0 d1 d2 EQ
        generalize wr.drewN nq = wd at B ⊢
        go_wp2_with fail
        go_ret
        exact ⟨by rw [HR.out]; rfl, B⟩
    · obtain rfl : k = la := by omega
      have HR : Hid (decide (ts = us) = true) := Lib.hid (decide_eq_true (List.ext_getElem? fun i => by
        rcases Nat.lt_or_ge i k with g | g
        · exact hs.out i g
        · rw [List.getElem?_eq_none (by rw [HT.out]; exact g), List.getElem?_eq_none (by rw [HU.out]; exact g)]))
      clear hs
      go_wp2_with fail
      go_ret
      exact ⟨by rw [HR.out]; rfl, hnx⟩
set_option maxRecDepth 100000 in
set_option maxHeartbeats 1600000 in
theorem specSameT (a b : Option Addr) (la ca lb cb : Nat) (ts us : List Tri3) (w : World) (ha : IsTris w a la ca ts) (hb : IsTris w b lb cb us) (hla : la ≤ 1048576) (hlb : lb ≤ 9223372036854775807) :
    Calls Try.prog 73 #[.slice a la ca, .slice b lb cb] w fun e w' => e = .returned (.bool (decide (ts = us))) ∧ Below w.heap.size w w' := by
  have HT := Lib.hid ha.len
  have HU := Lib.hid hb.len
  by_cases hl : la = lb
  rotate_left
  · have HR : Hid (decide (ts = us) = false) := Lib.hid (decide_eq_false (fun e => hl (by rw [← HT.out, ← HU.out, e])))
    have hli : ¬ (la : Int) = (lb : Int) := by omega
    clear ha hb
    go_enter Try.func73, Try.ntmps73
    go_wp2_with fail
    go_ret
    exact ⟨by rw [HR.out]; rfl, Below.refl _ _⟩
  subst hl
  have HA := Lib.hid ha
  have HB := Lib.hid hb
  clear ha hb
  go_enter Try.func73, Try.ntmps73
  go_wp2_with fail
  go_loopw [5] (fun i wr => ∃ k : Nat, k ≤ la ∧ i = .int .i64 k ∧ Hid (∀ i, i < k → ts[i]? = us[i]?) ∧ Below w.heap.size w wr) (fun i _ => la - (intOf i).toNat)
  case atStart => exact ⟨0, Nat.zero_le _, rfl, Lib.hid (fun i hi => by omega), Below.refl _ _⟩
  case round =>
    obtain ⟨k, hk, rfl, hs, hnx⟩ := hrel
    by_cases hlt : k < la
    · obtain ⟨x, off, rfl, hx, _, _, hts, hc⟩ := HA.out.cells (by omega)
      obtain ⟨y, off', rfl, hy, _, _, hus, hd⟩ := HB.out.cells (by omega)
      have ht : ts[k]? = some (ts[k]'(by omega)) := List.getElem?_eq_getElem (by omega)
      have hu : us[k]? = some (us[k]'(by omega)) := List.getElem?_eq_getElem (by omega)
      obtain ⟨c0, c1, c2, m0, m1, m2⟩ := hc k _ ht
      obtain ⟨d0, d1, d2, n0, n1, n2⟩ := hd k _ hu
      clear m0 m1 m2 n0 n1 n2
      rw [← hnx.cell (p := ⟨x, _, none⟩) hx] at c0 c1 c2
      rw [← hnx.cell (p := ⟨y, _, none⟩) hy] at d0 d1 d2
      generalize ts[k]'(by omega) = t at ht c0 c1 c2
      generalize us[k]'(by omega) = u at hu d0 d1 d2
      have hk6 : (0 : Int) ≤ (k : Int) := by omega
      have hk7 : (k : Int) < (la : Int) := by omega
      clear hts hus hc hd
      by_cases he : t = u
      · have HS : Hid (∀ i, i < k + 1 → ts[i]? = us[i]?) := Lib.hid (fun i hi => by
          rcases Nat.lt_or_ge i k with g | g
          · exact hs.out i g
          · obtain rfl : i = k := by omega
            rw [ht, hu, he])
        subst he
        have EQ := tri_same t.1 t.2.1 t.2.2
        clear ht hu hs
        go_wp2_with fail
        go_quiet (fail)
        have B : Below w.heap.size w (wr.drewN nq) := below_drewN hnx nq
        clear hnx c0 c1 c2 d0 d1 d2 EQ
        generalize wr.drewN nq = wd at B ⊢
        go_wp2_with fail
        go_roundw
        case rel => exact ⟨k + 1, by omega, by go_num, HS, B⟩
        case measure => simp [intOf]; omega
      · have HR : Hid (decide (ts = us) = false) := Lib.hid (decide_eq_false (fun e => he (by rw [e, hu] at ht; exact (Option.some.inj ht).symm)))
        have EQ := tri_diff he
        clear ht hu hs he
        go_wp2_with fail
        go_quiet (fail)
        have B : Below w.heap.size w (wr.drewN nq) := below_drewN hnx nq
        clear hnx c0 c1 c2 d0 d1 d2 EQ
        generalize wr.drewN nq = wd at B ⊢
        go_wp2_with fail
        go_ret
        exact ⟨by rw [HR.out]; rfl, B⟩
    · obtain rfl : k = la := by omega
      have HR : Hid (decide (ts = us) = true) := Lib.hid (decide_eq_true (List.ext_getElem? fun i => by
        rcases Nat.lt_or_ge i k with g | g
        · exact hs.out i g
        · rw [List.getElem?_eq_none (by rw [HT.out]; exact g), List.getElem?_eq_none (by rw [HU.out]; exact g)]))
      clear hs
      go_wp2_with fail
      go_ret
      exact ⟨by rw [HR.out]; rfl, hnx⟩
end Go.Proofs.Yteejpceliodcfaa
