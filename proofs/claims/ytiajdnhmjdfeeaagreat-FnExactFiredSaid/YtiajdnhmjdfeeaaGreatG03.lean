/- Slices of triples that a call owns read as such; the exact laws' own comparison of two. -/
import Derived.Test.YtiajdnhmjdfeeaaGreatG02
import Derived.Deep.RegionHeld3
import Derived.Test.YtiajdnhmjdfeeaaGreatG00
import Derived.Test.YtiajdnhmjdfeeaaGreatG01
namespace Go.Proofs.YtiajdnhmjdfeeaaGreat
open Go.RowKit Go.WideShapes
theorem IsTris.len {w : World} {a : Option Addr} {len cap : Nat} {ts : List Tri3} (h : IsTris w a len cap ts) : ts.length = len := by
  rcases h with ⟨_, rfl, _, rfl⟩ | ⟨x, _, _, _, h, _⟩
  · rfl
  · exact h
theorem IsTris.grown {w w' : World} {a : Option Addr} {len cap : Nat} {ts : List Tri3} (h : IsTris w a len cap ts) (hg : w.grownBy w' none) : IsTris w' a len cap ts := by
  rcases h with h | ⟨x, rfl, h1, h2, h3, h4⟩
  · exact .inl h
  · refine .inr ⟨x, rfl, h1, h2, h3, fun i t hi => ?_⟩
    obtain ⟨c0, c1, c2, w0, w1, w2⟩ := h4 i t hi
    exact ⟨hg.cell c0 (by simp), hg.cell c1 (by simp), hg.cell c2 (by simp), w0, w1, w2⟩
theorem IsTris.next {w w' : World} {a : Option Addr} {len cap : Nat} {ts : List Tri3} (h : IsTris w a len cap ts) (hb : Below w.heap.size w w') : IsTris w' a len cap ts := h.grown (grown_of_below hb)
theorem flat_at (ts : List Tri3) : ∀ (i : Nat) (t : Tri3), ts[i]? = some t → (flat ts)[i * 3]? = some (.string t.1) ∧ (flat ts)[i * 3 + 1]? = some (.string t.2.1) ∧ (flat ts)[i * 3 + 2]? = some (.string t.2.2) := by
  induction ts with
  | nil => intro i t h; simp at h
  | cons u r ih =>
    intro i t h
    have e : flat (u :: r) = .string u.1 :: .string u.2.1 :: .string u.2.2 :: flat r := by simp [flat]
    rw [e]
    cases i with
    | zero => simp at h; subst h; exact ⟨rfl, rfl, rfl⟩
    | succ n =>
      have := ih n t (by simpa using h)
      rw [show (n + 1) * 3 = n * 3 + 3 from by omega]
      exact this
/-- What the call owns can be read. -/
theorem OwnT.is {B : Nat} {w : World} {v : Value} {ts : List Tri3} (h : OwnT B w v ts) (hm : ∀ t ∈ ts, t.1.size ≤ maxLen ∧ t.2.1.size ≤ maxLen ∧ t.2.2.size ≤ maxLen) : ∃ a cap, v = .slice a ts.length cap ∧ IsTris w a ts.length cap ts := by
  have h0 := h
  obtain ⟨_, hc⟩ := h
  rcases hc with ⟨rfl, hl⟩ | ⟨g, cap, cur, rfl, _, _, h1, h2, _⟩
  · exact ⟨none, 0, by rw [hl], .inl ⟨rfl, hl, rfl, List.length_eq_zero_iff.1 hl⟩⟩
  · refine ⟨_, cap, rfl, .inr ⟨_, rfl, h1, h2, rfl, fun i t hi => ?_⟩⟩
    obtain ⟨f0, f1, f2⟩ := flat_at ts i t hi
    have hl : i < ts.length := (List.getElem?_eq_some_iff.1 hi).1
    obtain ⟨m0, m1, m2⟩ := hm t (List.mem_of_getElem? hi)
    have k0 := h0.cellAt (i * 3) (by omega)
    have k1 := h0.cellAt (i * 3 + 1) (by omega)
    have k2 := h0.cellAt (i * 3 + 2) (by omega)
    rw [Nat.mul_comm i 3] at k0 k1 k2
    rw [Nat.mul_comm i 3] at f0 f1 f2
    refine ⟨?_, ?_, ?_, m0, m1, m2⟩
    · rw [add_plain, Nat.zero_add]; exact k0.trans f0
    · rw [add_plain, Nat.zero_add]; exact k1.trans f1
    · rw [add_plain, Nat.zero_add]; exact k2.trans f2
theorem IsTris.small {w : World} {a : Option Addr} {len cap : Nat} {ts : List Tri3} (h : IsTris w a len cap ts) : ∀ t ∈ ts, t.1.size ≤ maxLen ∧ t.2.1.size ≤ maxLen ∧ t.2.2.size ≤ maxLen := by
  intro t ht
  rcases h with ⟨_, _, _, rfl⟩ | ⟨x, rfl, h1, h2, h3, h4⟩
  · simp at ht
  · obtain ⟨i, hi⟩ := List.mem_iff_getElem?.1 ht
    obtain ⟨_, _, _, w0, w1, w2⟩ := h4 i t hi
    exact ⟨w0, w1, w2⟩
set_option maxRecDepth 100000 in
set_option maxHeartbeats 1600000 in
theorem eqTriS (a b : Option Addr) (la ca lb cb : Nat) (ts : List Tri3) (w : World) (ha : IsTris w a la ca ts) (hb : IsTris w b lb cb ts) (hs : la ≤ 1048576) :
    Calls Tryz.prog 15 #[.slice a la ca, .slice b lb cb] w fun e w' => e = .returned (.bool true) ∧ Below w.heap.size w w' := by
  have hlb : lb = la := by rw [← ha.len, ← hb.len]
  subst hlb
  have HA := Lib.hid ha
  have HB := Lib.hid hb
  have HT := Lib.hid ha.len
  clear ha hb
  go_enter Tryz.func15, Tryz.ntmps15
  go_wp2_with fail
  go_loopw [5] (fun i wr => ∃ k : Nat, k ≤ lb ∧ i = .int .i64 k ∧ Below w.heap.size w wr) (fun i _ => lb - (intOf i).toNat)
  case atStart => exact ⟨0, Nat.zero_le _, rfl, Below.refl _ _⟩
  case round =>
    obtain ⟨k, hk, rfl, hnx⟩ := hrel
    by_cases hlt : k < lb
    · obtain ⟨x, off, rfl, hx, _, _, hts, hc⟩ := HA.out.cells (by omega)
      obtain ⟨y, off', rfl, hy, _, _, _, hd⟩ := HB.out.cells (by omega)
      have ht : ts[k]? = some ts[k] := List.getElem?_eq_getElem (by omega)
      obtain ⟨c0, c1, c2, m0, m1, m2⟩ := hc k _ ht
      obtain ⟨d0, d1, d2, n0, n1, n2⟩ := hd k _ ht
      clear m0 m1 m2 n0 n1 n2
      rw [← hnx.cell (p := ⟨x, _, none⟩) hx] at c0 c1 c2
      rw [← hnx.cell (p := ⟨y, _, none⟩) hy] at d0 d1 d2
      generalize ts[k] = t at c0 c1 c2 d0 d1 d2
      clear ht hts hc hd
      have E := Lib.hid (eqTri t.1 t.2.1 t.2.2)
      go_wp2_with fail
      have l1 : x < wr.heap.size := Nat.lt_of_lt_of_le hx hnx.size
      have l2 : y < wr.heap.size := Nat.lt_of_lt_of_le hy hnx.size
      go_region_held3 (fun w' => w'.cell? ⟨x, off + k * 3, none⟩ = some (.string t.1) ∧ w'.cell? ⟨x, off + k * 3 + 1, none⟩ = some (.string t.2.1) ∧ w'.cell? ⟨x, off + k * 3 + 2, none⟩ = some (.string t.2.2) ∧ w'.cell? ⟨y, off' + k * 3, none⟩ = some (.string t.1) ∧ w'.cell? ⟨y, off' + k * 3 + 1, none⟩ = some (.string t.2.1) ∧ w'.cell? ⟨y, off' + k * 3 + 2, none⟩ = some (.string t.2.2))
        (first | go_keep | (go_split_ands; refine ⟨?_, ?_, ?_, ?_, ?_, ?_⟩ <;> (rw [ha4.cell (by first | (simp; done) | exact World.block_lt_of_cell? _ _ (by assumption))]; assumption)))
        (first | (go_at_call 56; refine (E.out _).mono ?_; rintro e wa ⟨rfl, ha4⟩))
      have B : Below w.heap.size w wa := (Below.drew hnx).trans (ha4.mono hnx.size)
      clear ha4 hnx c0 c1 c2 d0 d1 d2
      go_wp2_with fail
      go_roundw
      case rel => exact ⟨k + 1, by omega, by go_num, B⟩
      case measure => simp [intOf]; omega
    · go_wp2_with fail
      go_ret
      exact ⟨rfl, hnx⟩
end Go.Proofs.YtiajdnhmjdfeeaaGreat
/- A slice of prefixes that came in: what its cells hold. -/
namespace Go.Proofs.YtiajdnhmjdfeeaaGreat
open Go.ChangeShapes Go.WideShapes Go.ChangeAt Go.RowKit
abbrev Pre2 := ByteArray × ByteArray
def PreAt (w : World) (x : Addr) (i : Nat) (t : Pre2) : Prop := w.cell? (x.add (2 * i)) = some (.string t.1) ∧ w.cell? (x.add (2 * i + 1)) = some (.string t.2) ∧ t.1.size ≤ maxLen ∧ t.2.size ≤ maxLen
/-- The slice is nil, or its cells hold the prefixes ts, two texts each. -/
def IsPres (w : World) (a : Option Addr) (len cap : Nat) (ts : List Pre2) : Prop :=
  (a = none ∧ len = 0 ∧ cap = 0 ∧ ts = []) ∨
  ∃ x, a = some x ∧ len ≤ cap ∧ cap ≤ maxLen ∧ ts.length = len ∧ ∀ (i : Nat) (t : Pre2), ts[i]? = some t → PreAt w x i t
theorem open_pres {H : Type} {enc : TypeId × Value → H} {P : Program} {w : World} {base : Nat} {spare : Nat → Bool} {held : Bool} {t e : TypeId} {f0 f1 : Field} {fuel : Nat} {a : Option Addr} {len cap : Nat} {x : DataW H × List MemPlace}
    (ht : P.underlying t = some (.slice e)) (he : P.underlying e = some (.struct #[f0, f1])) (hC : P.cellsOf e = 2)
    (h0 : P.underlying f0.type = some .string ∧ f0.offset = 0 ∧ P.cellsOf f0.type = 1) (h1 : P.underlying f1.type = some .string ∧ f1.offset = 1 ∧ P.cellsOf f1.type = 1)
    (h : DataW.trod enc P w base spare held fuel t [.slice a len cap] = some x) : ∃ ts, IsPres w a len cap ts := by
  rcases Deep.open_slice ht h with ⟨hcs, _⟩ | ⟨x, len', cap', m, n, D, Pl, hcs, _, hl, hm, hmm, _, hi⟩
  · simp only [List.cons.injEq, Value.slice.injEq, and_true] at hcs
    exact ⟨[], .inl ⟨hcs.1, hcs.2.1, hcs.2.2, rfl⟩⟩
  · simp only [List.cons.injEq, Value.slice.injEq, and_true] at hcs
    obtain ⟨rfl, rfl, rfl⟩ := hcs
    have hlm : len ≤ m := by rw [hmm]; split <;> omega
    obtain ⟨ts, hts, hq⟩ := list_of (Q := PreAt w x) len fun i hil => by
      obtain ⟨cs', hc, htr⟩ := hi i (by omega)
      rw [hC] at hc
      obtain ⟨_, hcl, hat⟩ := World.cells?_some hc
      obtain ⟨xs, n', _, _, _, hxl, hf⟩ := DataW.trod_struct he htr
      have hxl2 : xs.length = 2 := hxl
      have g : ∀ (j : Nat) (f : Field), #[f0, f1][j]? = some f → P.underlying f.type = some .string ∧ f.offset = j ∧ P.cellsOf f.type = 1 → j < 2 → ∃ s : ByteArray, cs'[j]? = some (.string s) ∧ s.size ≤ maxLen := by
        intro j f hj hfo hj2
        have hx := hf j f hj
        rw [hfo.2.1, hfo.2.2, List.getElem?_eq_getElem (by omega)] at hx
        obtain ⟨s, hs, _, hsz⟩ := DataW.trod_string hfo.1 hx
        refine ⟨s, ?_, hsz⟩
        rw [List.drop_eq_getElem_cons (by omega)] at hs
        simp only [List.take_succ_cons, List.take_zero, List.cons.injEq, and_true] at hs
        rw [List.getElem?_eq_getElem (by omega), hs]
      obtain ⟨s, hs, ws⟩ := g 0 f0 rfl h0 (by omega)
      obtain ⟨p, hp, wp⟩ := g 1 f1 rfl h1 (by omega)
      have ha : ∀ j, j < 2 → w.cell? (x.add (2 * i + j)) = cs'[j]? := by
        intro j hj
        rw [← hat j hj, Deep.add_add, Nat.mul_comm]
      exact ⟨(s, p), (ha 0 (by omega)).trans hs, (ha 1 (by omega)).trans hp, ws, wp⟩
    exact ⟨ts, .inr ⟨x, rfl, hl, hm, hts, hq⟩⟩
/-- The place of a slice that has an element, and its cells. -/
theorem IsPres.cells {w : World} {a : Option Addr} {len cap : Nat} {ts : List Pre2} (h : IsPres w a len cap ts) (h0 : 0 < len) : ∃ b off, a = some ⟨b, off, none⟩ ∧ b < w.heap.size ∧ len ≤ cap ∧ cap ≤ maxLen ∧ ts.length = len ∧
    ∀ (i : Nat) (t : Pre2), ts[i]? = some t → w.cell? ⟨b, off + i * 2, none⟩ = some (.string t.1) ∧ w.cell? ⟨b, off + i * 2 + 1, none⟩ = some (.string t.2) ∧ t.1.size ≤ maxLen ∧ t.2.size ≤ maxLen := by
  rcases h with ⟨_, rfl, _⟩ | ⟨x, rfl, h1, h2, h3, h4⟩
  · omega
  · obtain ⟨b, off, spot⟩ := x
    have ht : ts[0]? = some ts[0] := List.getElem?_eq_getElem (by omega)
    have hc := (h4 0 _ ht).1
    obtain rfl : spot = none := by simpa [Addr.add] using World.cell?_spot hc
    refine ⟨b, off, rfl, ?_, h1, h2, h3, fun i t hi => ?_⟩
    · have := World.block_lt_of_cell? _ _ hc
      simpa [Addr.add] using this
    · obtain ⟨c0, c1, w0, w1⟩ := h4 i t hi
      rw [add_plain] at c0 c1
      rw [Nat.mul_comm] at c0 c1
      exact ⟨c0, by rw [Nat.add_assoc]; exact c1, w0, w1⟩
theorem IsPres.len {w : World} {a : Option Addr} {len cap : Nat} {ts : List Pre2} (h : IsPres w a len cap ts) : ts.length = len := by
  rcases h with ⟨_, rfl, _, rfl⟩ | ⟨x, _, _, _, h, _⟩
  · rfl
  · exact h
theorem IsPres.grown {w w' : World} {a : Option Addr} {len cap : Nat} {ts : List Pre2} (h : IsPres w a len cap ts) (hg : w.grownBy w' none) : IsPres w' a len cap ts := by
  rcases h with h | ⟨x, rfl, h1, h2, h3, h4⟩
  · exact .inl h
  · refine .inr ⟨x, rfl, h1, h2, h3, fun i t hi => ?_⟩
    obtain ⟨c0, c1, w0, w1⟩ := h4 i t hi
    exact ⟨hg.cell c0 (by simp), hg.cell c1 (by simp), w0, w1⟩
end Go.Proofs.YtiajdnhmjdfeeaaGreat
/- The contracts of the functions that take the escapes away again. -/
namespace Go.Proofs.YtiajdnhmjdfeeaaGreat
open Go.RowKit
theorem unesc_quote {c : UInt8} {r : List UInt8} (h : ((c.toNat : Int) == 34) = true) : unesc (c :: r) = none := by rw [unesc.eq_def]; simp only [h, if_true]
theorem unesc_line {c : UInt8} {r : List UInt8} (h : ((c.toNat : Int) == 10) = true) : unesc (c :: r) = none := by rw [unesc.eq_def]; simp only [h, if_true, ite_self]
theorem unesc_plain {c : UInt8} {r : List UInt8} (h1 : ((c.toNat : Int) == 34) = false) (h2 : ((c.toNat : Int) == 10) = false) (h3 : ((c.toNat : Int) == 92) = false) : unesc (c :: r) = (unesc r).map (c :: ·) := by
  rw [unesc.eq_def]; simp only [h1, h2, h3]; simp
theorem unesc_end {c : UInt8} (h3 : ((c.toNat : Int) == 92) = true) : unesc [c] = none := by
  rw [(u8_int c 92).1 h3]; rfl
theorem unesc_two {c d : UInt8} {r : List UInt8} (h3 : ((c.toNat : Int) == 92) = true) : unesc (c :: d :: r) =
    if ((d.toNat : Int) == 34) = true then (unesc r).map (d :: ·) else if ((d.toNat : Int) == 92) = true then (unesc r).map (d :: ·) else
      if ((d.toNat : Int) == 110) = true then (unesc r).map (10 :: ·) else none := by
  rw [(u8_int c 92).1 h3, unesc]; rfl
theorem esc_append (a b : List UInt8) : esc (a ++ b) = esc a ++ esc b := by simp [esc]
theorem esc_cut (l : List UInt8) (k : Nat) : esc (l.take k) ++ esc (l.drop k) = esc l := by rw [← esc_append, List.take_append_drop]
theorem unesc_esc : ∀ l : List UInt8, unesc (esc l) = some l
  | [] => rfl
  | c :: r => by
    have ih := unesc_esc r
    have e : esc (c :: r) = escB c ++ esc r := by simp [esc]
    rw [e]
    rcases test3 c with ⟨h1, he⟩ | ⟨h1, h2, he⟩ | ⟨h1, h2, h3, he⟩ | ⟨h1, h2, h3, he⟩
    · rw [he, (u8_int c 34).1 h1]
      show unesc (92 :: 34 :: esc r) = _
      rw [unesc_two (by rfl), ih]; rfl
    · rw [he, (u8_int c 92).1 h2]
      show unesc (92 :: 92 :: esc r) = _
      rw [unesc_two (by rfl), ih]; rfl
    · rw [he, (u8_int c 10).1 h3]
      show unesc (92 :: 110 :: esc r) = _
      rw [unesc_two (by rfl), ih]; rfl
    · rw [he]
      show unesc (c :: esc r) = _
      rw [unesc_plain h1 h3 h2, ih]; rfl
theorem esc_unesc : ∀ (u x : List UInt8), unesc u = some x → esc x = u
  | [], x, h => by
    simp only [unesc, Option.some.injEq] at h; subst h; rfl
  | [c], x, h => by
    cases h1 : ((c.toNat : Int) == 34)
    rotate_left
    · rw [unesc_quote h1] at h; simp at h
    cases h2 : ((c.toNat : Int) == 10)
    rotate_left
    · rw [unesc_line h2] at h; simp at h
    cases h3 : ((c.toNat : Int) == 92)
    rotate_left
    · rw [unesc_end h3] at h; simp at h
    rw [unesc_plain h1 h2 h3] at h
    simp only [unesc, Option.map_some, Option.some.injEq] at h
    subst h
    simp [esc, escB_b, h1, h2, h3]
  | c :: d :: r, x, h => by
    have i1 := esc_unesc (d :: r); have i2 := esc_unesc r
    cases h1 : ((c.toNat : Int) == 34)
    rotate_left
    · rw [unesc_quote h1] at h; simp at h
    cases h2 : ((c.toNat : Int) == 10)
    rotate_left
    · rw [unesc_line h2] at h; simp at h
    cases h3 : ((c.toNat : Int) == 92)
    · rw [unesc_plain h1 h2 h3, Option.map_eq_some_iff] at h
      obtain ⟨a, ha, rfl⟩ := h
      have := i1 a ha
      have e : esc (c :: a) = escB c ++ esc a := by simp [esc]
      rw [e, this, escB_b]; simp [h1, h2, h3]
    · have hc := (u8_int c 92).1 h3
      subst hc
      rw [unesc_two h3] at h
      have e : ∀ q a, esc (q :: a) = escB q ++ esc a := fun q a => by simp [esc]
      split at h
      · rename_i g
        rw [Option.map_eq_some_iff] at h
        obtain ⟨a, ha, rfl⟩ := h
        rw [e, i2 a ha, (u8_int d 34).1 g]; rfl
      split at h
      · rename_i g
        rw [Option.map_eq_some_iff] at h
        obtain ⟨a, ha, rfl⟩ := h
        rw [e, i2 a ha, (u8_int d 92).1 g]; rfl
      split at h
      · rename_i g
        rw [Option.map_eq_some_iff] at h
        obtain ⟨a, ha, rfl⟩ := h
        rw [e, i2 a ha, (u8_int d 110).1 g]; rfl
      · simp at h
set_option maxHeartbeats 800000 in
theorem specUnescaped (s : ByteArray) (w : World) (hs : s.size ≤ 2097152) :
    Calls Tryz.prog 174 #[.string s] w fun e w' => e = .returned (.tuple #[.string (bs ((unesc s.data.toList).getD [])), .bool (unesc s.data.toList).isSome]) ∧ w = w' := by
  go_enter Tryz.func174, Tryz.ntmps174
  go_wp2
  go_loop [4, 5] (fun o i => ∃ k : Nat, k ≤ s.size ∧ i = .int .i64 k ∧ ∃ b : ByteArray, o = .string b ∧ b.size ≤ k ∧ Hid (unesc s.data.toList = (unesc (s.data.toList.drop k)).map (b.data.toList ++ ·))) (fun _ i => s.size - (intOf i).toNat)
  case atStart => exact ⟨0, Nat.zero_le _, rfl, _, rfl, Nat.le_refl _, Lib.hid (by simp)⟩
  case round =>
    obtain ⟨k, hk, rfl, b, rfl, hbs, hb⟩ := hrel
    by_cases hlt : k < s.size
    · have hd := drop_cons s k hlt
      have HD := Lib.hid hd; clear hd
      cases h1 : ((s[k].toNat : Int) == 34)
      rotate_left
      · have g1 : (s[k].toNat : Int) = 34 := by simpa using h1
        have HN : Hid (unesc s.data.toList = none) := Lib.hid (by rw [hb.out, HD.out, unesc_quote h1]; rfl)
        go_wp2
        go_ret2
        exact ⟨by rw [HN.out]; rfl, rfl⟩

      have g1 : ¬ (s[k].toNat : Int) = 34 := by simpa using h1
      cases h2 : ((s[k].toNat : Int) == 10)
      rotate_left
      · have g2 : (s[k].toNat : Int) = 10 := by simpa using h2
        have HN : Hid (unesc s.data.toList = none) := Lib.hid (by rw [hb.out, HD.out, unesc_line h2]; rfl)
        go_wp2
        go_ret2
        exact ⟨by rw [HN.out]; rfl, rfl⟩

      have g2 : ¬ (s[k].toNat : Int) = 10 := by simpa using h2
      cases h3 : ((s[k].toNat : Int) == 92)
      · have g3 : ((s[k].toNat : Int) != 92) = true := by simp [bne, h3]
        have HN : Hid (unesc s.data.toList = (unesc (s.data.toList.drop (k + 1))).map (b.data.toList ++ s[k] :: ·)) := Lib.hid (by rw [hb.out, HD.out, unesc_plain h1 h2 h3, Option.map_map]; rfl)
        go_wp2
        go_round
        case rel => exact ⟨k + 1, by omega, by go_num, _, rfl, by simp; omega, Lib.hid (by rw [HN.out, app_toList, ext_one s k hlt]; simp)⟩
        case measure => simp [intOf]; omega

      have g3 : ((s[k].toNat : Int) != 92) = false := by simp [bne, h3]
      by_cases hend : k + 1 = s.size
      · have g4 : ((k : Int) + 1 == (s.size : Int)) = true := by rw [beq_iff_eq]; omega
        have HN : Hid (unesc s.data.toList = none) := Lib.hid (by rw [hb.out, HD.out, drop_all s (k + 1) (by omega), unesc_end h3]; rfl)
        clear hend
        go_wp2
        go_ret2
        exact ⟨by rw [HN.out]; rfl, rfl⟩

      have hlt2 : k + 1 < s.size := by omega
      clear hend
      have g4 : ((k : Int) + 1 == (s.size : Int)) = false := by rw [beq_eq_false_iff_ne]; omega
      have HD2 : Hid (s.data.toList.drop (k + 1) = s[k + 1] :: s.data.toList.drop (k + 1 + 1)) := Lib.hid (drop_cons s (k + 1) hlt2)
      have HU := Lib.hid (unesc_two (c := s[k]) (d := s[k + 1]) (r := s.data.toList.drop (k + 1 + 1)) h3)
      cases h5 : ((s[k + 1].toNat : Int) == 34)
      rotate_left
      · have HN : Hid (unesc s.data.toList = (unesc (s.data.toList.drop (k + 1 + 1))).map (b.data.toList ++ s[k + 1] :: ·)) := Lib.hid (by rw [hb.out, HD.out, HD2.out, HU.out, if_pos h5, Option.map_map]; rfl)
        go_wp2
        go_round
        case rel => exact ⟨k + 1 + 1, by omega, by go_num, _, rfl, by simp; omega, Lib.hid (by rw [HN.out, app_toList, ext_one s (k + 1) hlt2]; simp)⟩
        case measure => simp [intOf]; omega

      cases h6 : ((s[k + 1].toNat : Int) == 92)
      rotate_left
      · have HN : Hid (unesc s.data.toList = (unesc (s.data.toList.drop (k + 1 + 1))).map (b.data.toList ++ s[k + 1] :: ·)) := Lib.hid (by rw [hb.out, HD.out, HD2.out, HU.out, if_neg (by simp [h5]), if_pos h6, Option.map_map]; rfl)
        go_wp2
        go_round
        case rel => exact ⟨k + 1 + 1, by omega, by go_num, _, rfl, by simp; omega, Lib.hid (by rw [HN.out, app_toList, ext_one s (k + 1) hlt2]; simp)⟩
        case measure => simp [intOf]; omega

      cases h7 : ((s[k + 1].toNat : Int) == 110)
      · have HN : Hid (unesc s.data.toList = none) := Lib.hid (by rw [hb.out, HD.out, HD2.out, HU.out, if_neg (by simp [h5]), if_neg (by simp [h6]), if_neg (by simp [h7])]; rfl)
        go_wp2
        go_ret2
        exact ⟨by rw [HN.out]; rfl, rfl⟩

      · have HN : Hid (unesc s.data.toList = (unesc (s.data.toList.drop (k + 1 + 1))).map (b.data.toList ++ 10 :: ·)) := Lib.hid (by rw [hb.out, HD.out, HD2.out, HU.out, if_neg (by simp [h5]), if_neg (by simp [h6]), if_pos h7, Option.map_map]; rfl)
        go_wp2
        go_round
        case rel => exact ⟨k + 1 + 1, by omega, by go_num, _, rfl, by simp [lit_size]; omega, Lib.hid (by rw [HN.out, app_toList]; simp)⟩
        case measure => simp [intOf]; omega

    · have HN : Hid (unesc s.data.toList = some b.data.toList) := Lib.hid (by rw [hb.out, drop_all s k (by omega)]; simp [unesc])
      go_wp2
      go_ret2
      exact ⟨by rw [HN.out]; simp [bs_of], rfl⟩
set_option maxRecDepth 100000 in
set_option maxHeartbeats 1600000 in
theorem implUnescaped (s : ByteArray) (w : World) (hs : s.size ≤ 2097152) :
    Calls Tryz.prog 247 #[.string s] w fun e w' => e = .returned (.tuple #[.string (bs ((unesc s.data.toList).getD [])), .bool (unesc s.data.toList).isSome]) ∧ Below w.heap.size w w' := by
  obtain ⟨i0, hi, hz0, hz1, hz2⟩ := info_parts infoU8
  go_enter Tryz.func247, Tryz.ntmps247
  go_wp2_with (at_make; refine wpList_make_own _ rfl _ _ 43 rfl w.heap.size 5 i0 (.int .u8 0) 1 Tryz.underlying43 hi hz0 hz1 .i64 .i64 _ s.size rfl rfl rfl ?c1 ?c2 (Nat.le_refl _) ?_)
  case c1 => rw [hz2]; omega
  case c2 => unfold maxLen; omega
  intro w0 hown0 hg0
  have hb0 : Below w.heap.size w w0 := (Below.refl _ _).grown hg0 (Nat.le_refl _) (by simp)
  clear hg0
  go_wp2
  go_loopw [4, 5] (fun v i wr => ∃ k : Nat, k ≤ s.size ∧ i = .int .i64 k ∧ ∃ l : List UInt8, l.length ≤ k ∧ wr.ownsRow w.heap.size 5 1 v l.length (l.map b8) ∧ Below w.heap.size w wr ∧ Hid (unesc s.data.toList = (unesc (s.data.toList.drop k)).map (l ++ ·))) (fun _ i _ => s.size - (intOf i).toNat)
  case atStart => exact ⟨0, Nat.zero_le _, rfl, [], by simp, hown0, hb0, Lib.hid (by simp)⟩
  case round =>
    obtain ⟨k, hk, rfl, l, hbs, hown, hnx, hb⟩ := hrel
    have hsz := hnx.size
    by_cases hlt : k < s.size
    · have hd := drop_cons s k hlt
      have HD := Lib.hid hd; clear hd
      cases h1 : ((s[k].toNat : Int) == 34)
      rotate_left
      · have g1 : (s[k].toNat : Int) = 34 := by simpa using h1
        have HN : Hid (unesc s.data.toList = none) := Lib.hid (by rw [hb.out, HD.out, unesc_quote h1]; rfl)
        go_wp2_with go_in
        go_ret2
        exact ⟨by rw [HN.out]; rfl, hnx⟩

      have g1 : ¬ (s[k].toNat : Int) = 34 := by simpa using h1
      cases h2 : ((s[k].toNat : Int) == 10)
      rotate_left
      · have g2 : (s[k].toNat : Int) = 10 := by simpa using h2
        have HN : Hid (unesc s.data.toList = none) := Lib.hid (by rw [hb.out, HD.out, unesc_line h2]; rfl)
        go_wp2_with go_in
        go_ret2
        exact ⟨by rw [HN.out]; rfl, hnx⟩

      have g2 : ¬ (s[k].toNat : Int) = 10 := by simpa using h2
      cases h3 : ((s[k].toNat : Int) == 92)
      · have g3 : ((s[k].toNat : Int) != 92) = true := by simp [bne, h3]
        have HN : Hid (unesc s.data.toList = (unesc (s.data.toList.drop (k + 1))).map (l ++ s[k] :: ·)) := Lib.hid (by rw [hb.out, HD.out, unesc_plain h1 h2 h3, Option.map_map]; rfl)
        go_wp2_with (first | (at_builtin; refine wpList_append_own _ rfl _ _ 43 rfl w.heap.size 5 i0 (.int .u8 0) 1 1 Tryz.underlying43 hi hz0 hz1 hz2 rfl (by decide) _ _ _ rfl (hown.alloc _) ⟨wr.heap.size, 0, none⟩ 1 1 [.int .u8 s[k].toNat] rfl rfl one_cell ?c2 ?c3 ?c4 ?c5 ?_) | go_in)
        case c2 => simp [Value.oneCell']
        case c3 => unfold maxLen; omega
        case c4 => omega
        case c5 => simp; omega
        intro v' w1 hown' hgrow _
        have R := own_round (m := [s[k]]) hown hnx hown' hgrow rfl rfl
        clear hown' hgrow hown hnx
        go_wp2
        go_roundw
        case rel => exact ⟨k + 1, by omega, by go_num, l ++ [s[k]], by simp; omega, R.1, R.2, Lib.hid (by rw [HN.out]; simp)⟩
        case measure => simp [intOf]; omega

      have g3 : ((s[k].toNat : Int) != 92) = false := by simp [bne, h3]
      by_cases hend : k + 1 = s.size
      · have g4 : ((k : Int) + 1 == (s.size : Int)) = true := by rw [beq_iff_eq]; omega
        have HN : Hid (unesc s.data.toList = none) := Lib.hid (by rw [hb.out, HD.out, drop_all s (k + 1) (by omega), unesc_end h3]; rfl)
        clear hend
        go_wp2_with go_in
        go_ret2
        exact ⟨by rw [HN.out]; rfl, hnx⟩

      have hlt2 : k + 1 < s.size := by omega
      clear hend
      have g4 : ((k : Int) + 1 == (s.size : Int)) = false := by rw [beq_eq_false_iff_ne]; omega
      have HD2 : Hid (s.data.toList.drop (k + 1) = s[k + 1] :: s.data.toList.drop (k + 1 + 1)) := Lib.hid (drop_cons s (k + 1) hlt2)
      have HU := Lib.hid (unesc_two (c := s[k]) (d := s[k + 1]) (r := s.data.toList.drop (k + 1 + 1)) h3)
      cases h5 : ((s[k + 1].toNat : Int) == 34)
      rotate_left
      · have HN : Hid (unesc s.data.toList = (unesc (s.data.toList.drop (k + 1 + 1))).map (l ++ s[k + 1] :: ·)) := Lib.hid (by rw [hb.out, HD.out, HD2.out, HU.out, if_pos h5, Option.map_map]; rfl)
        go_wp2_with (first | (at_builtin; refine wpList_append_own _ rfl _ _ 43 rfl w.heap.size 5 i0 (.int .u8 0) 1 1 Tryz.underlying43 hi hz0 hz1 hz2 rfl (by decide) _ _ _ rfl (hown.alloc _) ⟨wr.heap.size, 0, none⟩ 1 1 [.int .u8 s[k + 1].toNat] rfl rfl one_cell ?c2 ?c3 ?c4 ?c5 ?_) | go_in)
        case c2 => simp [Value.oneCell']
        case c3 => unfold maxLen; omega
        case c4 => omega
        case c5 => simp; omega
        intro v' w1 hown' hgrow _
        have R := own_round (m := [s[k + 1]]) hown hnx hown' hgrow rfl rfl
        clear hown' hgrow hown hnx
        go_wp2
        go_roundw
        case rel => exact ⟨k + 1 + 1, by omega, by go_num, l ++ [s[k + 1]], by simp; omega, R.1, R.2, Lib.hid (by rw [HN.out]; simp)⟩
        case measure => simp [intOf]; omega

      cases h6 : ((s[k + 1].toNat : Int) == 92)
      rotate_left
      · have HN : Hid (unesc s.data.toList = (unesc (s.data.toList.drop (k + 1 + 1))).map (l ++ s[k + 1] :: ·)) := Lib.hid (by rw [hb.out, HD.out, HD2.out, HU.out, if_neg (by simp [h5]), if_pos h6, Option.map_map]; rfl)
        go_wp2_with (first | (at_builtin; refine wpList_append_own _ rfl _ _ 43 rfl w.heap.size 5 i0 (.int .u8 0) 1 1 Tryz.underlying43 hi hz0 hz1 hz2 rfl (by decide) _ _ _ rfl (hown.alloc _) ⟨wr.heap.size, 0, none⟩ 1 1 [.int .u8 s[k + 1].toNat] rfl rfl one_cell ?c2 ?c3 ?c4 ?c5 ?_) | go_in)
        case c2 => simp [Value.oneCell']
        case c3 => unfold maxLen; omega
        case c4 => omega
        case c5 => simp; omega
        intro v' w1 hown' hgrow _
        have R := own_round (m := [s[k + 1]]) hown hnx hown' hgrow rfl rfl
        clear hown' hgrow hown hnx
        go_wp2
        go_roundw
        case rel => exact ⟨k + 1 + 1, by omega, by go_num, l ++ [s[k + 1]], by simp; omega, R.1, R.2, Lib.hid (by rw [HN.out]; simp)⟩
        case measure => simp [intOf]; omega

      cases h7 : ((s[k + 1].toNat : Int) == 110)
      · have HN : Hid (unesc s.data.toList = none) := Lib.hid (by rw [hb.out, HD.out, HD2.out, HU.out, if_neg (by simp [h5]), if_neg (by simp [h6]), if_neg (by simp [h7])]; rfl)
        go_wp2_with go_in
        go_ret2
        exact ⟨by rw [HN.out]; rfl, hnx⟩

      · have HN : Hid (unesc s.data.toList = (unesc (s.data.toList.drop (k + 1 + 1))).map (l ++ 10 :: ·)) := Lib.hid (by rw [hb.out, HD.out, HD2.out, HU.out, if_neg (by simp [h5]), if_neg (by simp [h6]), if_pos h7, Option.map_map]; rfl)
        go_wp2_with (first | (at_builtin; refine wpList_append_own _ rfl _ _ 43 rfl w.heap.size 5 i0 (.int .u8 0) 1 1 Tryz.underlying43 hi hz0 hz1 hz2 rfl (by decide) _ _ _ rfl (hown.alloc _) ⟨wr.heap.size, 0, none⟩ 1 1 [.int .u8 10] rfl rfl one_cell ?c2 ?c3 ?c4 ?c5 ?_) | go_in)
        case c2 => simp [Value.oneCell']
        case c3 => unfold maxLen; omega
        case c4 => omega
        case c5 => simp; omega
        intro v' w1 hown' hgrow _
        have R := own_round (m := [10]) hown hnx hown' hgrow rfl rfl
        clear hown' hgrow hown hnx
        go_wp2
        go_roundw
        case rel => exact ⟨k + 1 + 1, by omega, by go_num, l ++ [10], by simp; omega, R.1, R.2, Lib.hid (by rw [HN.out]; simp)⟩
        case measure => simp [intOf]; omega

    · have HN : Hid (unesc s.data.toList = some l) := Lib.hid (by rw [hb.out, drop_all s k (by omega)]; simp [unesc])
      have hcv := str_of_own (P := Tryz.prog) 43 9 Tryz.underlying43 Tryz.underlying5 Tryz.underlying9 hown
      go_wp2
      go_ret2
      exact ⟨by rw [HN.out]; rfl, hnx⟩
end Go.Proofs.YtiajdnhmjdfeeaaGreat
