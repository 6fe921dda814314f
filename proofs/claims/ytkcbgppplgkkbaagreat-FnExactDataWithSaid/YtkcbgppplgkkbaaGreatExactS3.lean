/- Slices of triples that a call owns read as such; the exact laws' own comparison of two. -/
import Derived.Test.YtkcbgppplgkkbaaGreatExactS2
import Derived.Deep.RegionHeld3
namespace Go.Proofs.YtkcbgppplgkkbaaGreat
open Go.RowKit Go.WideShapes
theorem IsTris.len {w : World} {a : Option Addr} {len cap : Nat} {ts : List Tri3} (h : IsTris w a len cap ts) : ts.length = len := by
  rcases h with ⟨_, rfl, _, rfl⟩ | ⟨x, _, _, _, h, _⟩
  · rfl
  · exact h
theorem IsTris.grown {w w' : World} {a : Option Addr} {len cap : Nat} {ts : List Tri3} (h : IsTris w a len cap ts) (hg : w.grownBy w' none) : IsTris w' a len cap ts := by
  rcases h with h | ⟨x, rfl, h1, h2, h3, h4⟩
  · exact .inl h
  · refine .inr ⟨x, rfl, h1, h2, h3, fun i t hi => ?_⟩
    obtain ⟨c0, c1, c2, w0, w1, w2⟩ := h4 i t hi
    exact ⟨hg.cell c0 (by simp), hg.cell c1 (by simp), hg.cell c2 (by simp), w0, w1, w2⟩
theorem IsTris.next {w w' : World} {a : Option Addr} {len cap : Nat} {ts : List Tri3} (h : IsTris w a len cap ts) (hb : Below w.heap.size w w') : IsTris w' a len cap ts := h.grown (grown_of_below hb)
theorem flat_at (ts : List Tri3) : ∀ (i : Nat) (t : Tri3), ts[i]? = some t → (flat ts)[i * 3]? = some (.string t.1) ∧ (flat ts)[i * 3 + 1]? = some (.string t.2.1) ∧ (flat ts)[i * 3 + 2]? = some (.string t.2.2) := by
  induction ts with
  | nil => intro i t h; simp at h
  | cons u r ih =>
    intro i t h
    have e : flat (u :: r) = .string u.1 :: .string u.2.1 :: .string u.2.2 :: flat r := by simp [flat]
    rw [e]
    cases i with
    | zero => simp at h; subst h; exact ⟨rfl, rfl, rfl⟩
    | succ n =>
      have := ih n t (by simpa using h)
      rw [show (n + 1) * 3 = n * 3 + 3 from by omega]
      exact this
/-- What the call owns can be read. -/
theorem OwnT.is {B : Nat} {w : World} {v : Value} {ts : List Tri3} (h : OwnT B w v ts) (hm : ∀ t ∈ ts, t.1.size ≤ maxLen ∧ t.2.1.size ≤ maxLen ∧ t.2.2.size ≤ maxLen) : ∃ a cap, v = .slice a ts.length cap ∧ IsTris w a ts.length cap ts := by
  have h0 := h
  obtain ⟨_, hc⟩ := h
  rcases hc with ⟨rfl, hl⟩ | ⟨g, cap, cur, rfl, _, _, h1, h2, _⟩
  · exact ⟨none, 0, by rw [hl], .inl ⟨rfl, hl, rfl, List.length_eq_zero_iff.1 hl⟩⟩
  · refine ⟨_, cap, rfl, .inr ⟨_, rfl, h1, h2, rfl, fun i t hi => ?_⟩⟩
    obtain ⟨f0, f1, f2⟩ := flat_at ts i t hi
    have hl : i < ts.length := (List.getElem?_eq_some_iff.1 hi).1
    obtain ⟨m0, m1, m2⟩ := hm t (List.mem_of_getElem? hi)
    have k0 := h0.cellAt (i * 3) (by omega)
    have k1 := h0.cellAt (i * 3 + 1) (by omega)
    have k2 := h0.cellAt (i * 3 + 2) (by omega)
    rw [Nat.mul_comm i 3] at k0 k1 k2
    rw [Nat.mul_comm i 3] at f0 f1 f2
    refine ⟨?_, ?_, ?_, m0, m1, m2⟩
    · rw [add_plain, Nat.zero_add]; exact k0.trans f0
    · rw [add_plain, Nat.zero_add]; exact k1.trans f1
    · rw [add_plain, Nat.zero_add]; exact k2.trans f2
theorem IsTris.small {w : World} {a : Option Addr} {len cap : Nat} {ts : List Tri3} (h : IsTris w a len cap ts) : ∀ t ∈ ts, t.1.size ≤ maxLen ∧ t.2.1.size ≤ maxLen ∧ t.2.2.size ≤ maxLen := by
  intro t ht
  rcases h with ⟨_, _, _, rfl⟩ | ⟨x, rfl, h1, h2, h3, h4⟩
  · simp at ht
  · obtain ⟨i, hi⟩ := List.mem_iff_getElem?.1 ht
    obtain ⟨_, _, _, w0, w1, w2⟩ := h4 i t hi
    exact ⟨w0, w1, w2⟩
set_option maxRecDepth 100000 in
set_option maxHeartbeats 1600000 in
theorem eqTriS (a b : Option Addr) (la ca lb cb : Nat) (ts : List Tri3) (w : World) (ha : IsTris w a la ca ts) (hb : IsTris w b lb cb ts) (hs : la ≤ 1048576) :
    Calls Tryz.prog 50 #[.slice a la ca, .slice b lb cb] w fun e w' => e = .returned (.bool true) ∧ Below w.heap.size w w' := by
  have hlb : lb = la := by rw [← ha.len, ← hb.len]
  subst hlb
  have HA := Lib.hid ha
  have HB := Lib.hid hb
  have HT := Lib.hid ha.len
  clear ha hb
  go_enter Tryz.func50, Tryz.ntmps50
  go_wp2_with fail
  go_loopw [5] (fun i wr => ∃ k : Nat, k ≤ lb ∧ i = .int .i64 k ∧ Below w.heap.size w wr) (fun i _ => lb - (intOf i).toNat)
  case atStart => exact ⟨0, Nat.zero_le _, rfl, Below.refl _ _⟩
  case round =>
    obtain ⟨k, hk, rfl, hnx⟩ := hrel
    by_cases hlt : k < lb
    · obtain ⟨x, off, rfl, hx, _, _, hts, hc⟩ := HA.out.cells (by omega)
      obtain ⟨y, off', rfl, hy, _, _, _, hd⟩ := HB.out.cells (by omega)
      have ht : ts[k]? = some ts[k] := List.getElem?_eq_getElem (by omega)
      obtain ⟨c0, c1, c2, m0, m1, m2⟩ := hc k _ ht
      obtain ⟨d0, d1, d2, n0, n1, n2⟩ := hd k _ ht
      clear m0 m1 m2 n0 n1 n2
      rw [← hnx.cell (p := ⟨x, _, none⟩) hx] at c0 c1 c2
      rw [← hnx.cell (p := ⟨y, _, none⟩) hy] at d0 d1 d2
      generalize ts[k] = t at c0 c1 c2 d0 d1 d2
      clear ht hts hc hd
      have E := Lib.hid (eqTri t.1 t.2.1 t.2.2)
      go_wp2_with fail
      have l1 : x < wr.heap.size := Nat.lt_of_lt_of_le hx hnx.size
      have l2 : y < wr.heap.size := Nat.lt_of_lt_of_le hy hnx.size
      go_region_held3 (fun w' => w'.cell? ⟨x, off + k * 3, none⟩ = some (.string t.1) ∧ w'.cell? ⟨x, off + k * 3 + 1, none⟩ = some (.string t.2.1) ∧ w'.cell? ⟨x, off + k * 3 + 2, none⟩ = some (.string t.2.2) ∧ w'.cell? ⟨y, off' + k * 3, none⟩ = some (.string t.1) ∧ w'.cell? ⟨y, off' + k * 3 + 1, none⟩ = some (.string t.2.1) ∧ w'.cell? ⟨y, off' + k * 3 + 2, none⟩ = some (.string t.2.2))
        (first | go_keep | (go_split_ands; refine ⟨?_, ?_, ?_, ?_, ?_, ?_⟩ <;> (rw [ha4.cell (by first | (simp; done) | exact World.block_lt_of_cell? _ _ (by assumption))]; assumption)))
        (first | (go_at_call 62; refine (E.out _).mono ?_; rintro e wa ⟨rfl, ha4⟩))
      have B : Below w.heap.size w wa := (Below.drew hnx).trans (ha4.mono hnx.size)
      clear ha4 hnx c0 c1 c2 d0 d1 d2
      go_wp2_with fail
      go_roundw
      case rel => exact ⟨k + 1, by omega, by go_num, B⟩
      case measure => simp [intOf]; omega
    · go_wp2_with fail
      go_ret
      exact ⟨rfl, hnx⟩
end Go.Proofs.YtkcbgppplgkkbaaGreat
