/- What every row's frame needs: closed facts on the program, and what a slice of bytes that came in looks like. -/
import Derived.Test.YtamnlifdfhmbnaaRows
import Derived.WalkKit
import Derived.ProofKit
import Derived.OpenShut
import Derived.ShutString
import Derived.ChangeOld
import Derived.Below
import Derived.Lib.SmallJoins
import Derived.Deep.Slices
namespace Go.Proofs.Ytamnlifdfhmbnaa.Frame
open Go.ChangeShapes Go.WideShapes Go.ChangeAt Go.RowKit
theorem own : ownKnob Try.prog.godebug = none := by kernel_rfl
theorem laidOut : laidOutB Try.prog = true := by kernel_rfl
/-- A slice of integers that came in: nil, or a row of 'cap' cells of which the first 'len' are its elements. -/
def IsRow (k : IntKind) (w : World) (a : Option Addr) (len cap : Nat) (zs : List Int) : Prop :=
  (a = none ∧ len = 0 ∧ cap = 0 ∧ zs = []) ∨
  ∃ x, a = some x ∧ len ≤ cap ∧ cap ≤ maxLen ∧ zs.length = cap ∧ (∀ i, i < zs.length → w.cell? (x.add i) = some (.int k (zs.getD i 0))) ∧ ∀ n ∈ zs, (Lit.int k n).wf = true
end Go.Proofs.Ytamnlifdfhmbnaa.Frame
/- A slice of triples that came in: what its cells hold. -/
namespace Go.Proofs.Ytamnlifdfhmbnaa
open Go.ChangeShapes Go.WideShapes Go.ChangeAt Go.RowKit
abbrev Tri3 := ByteArray × ByteArray × ByteArray
theorem list_of {α : Type} {Q : Nat → α → Prop} : ∀ n : Nat, (∀ i, i < n → ∃ t, Q i t) → ∃ l : List α, l.length = n ∧ ∀ (i : Nat) (t : α), l[i]? = some t → Q i t
  | 0, _ => ⟨[], rfl, by simp⟩
  | n + 1, h => by
    obtain ⟨l, hl, hq⟩ := list_of n fun i hi => h i (by omega)
    obtain ⟨t, ht⟩ := h n (by omega)
    refine ⟨l ++ [t], by simp [hl], fun i u hu => ?_⟩
    rcases Nat.lt_or_ge i l.length with g | g
    · rw [List.getElem?_append_left g] at hu; exact hq i u hu
    · rw [List.getElem?_append_right g] at hu
      have hi : i - l.length = 0 := by
        rcases Nat.eq_zero_or_pos (i - l.length) with e | e
        · exact e
        · rw [List.getElem?_eq_none (by simp only [List.length_singleton]; omega)] at hu; simp at hu
      rw [hi] at hu
      simp only [List.getElem?_cons_zero, Option.some.injEq] at hu
      rw [← hu, show i = n from by omega]
      exact ht
def TriAt (w : World) (x : Addr) (i : Nat) (t : Tri3) : Prop := w.cell? (x.add (3 * i)) = some (.string t.1) ∧ w.cell? (x.add (3 * i + 1)) = some (.string t.2.1) ∧ w.cell? (x.add (3 * i + 2)) = some (.string t.2.2) ∧
  t.1.size ≤ maxLen ∧ t.2.1.size ≤ maxLen ∧ t.2.2.size ≤ maxLen
/-- The slice is nil, or its cells hold the triples ts, three texts each. -/
def IsTris (w : World) (a : Option Addr) (len cap : Nat) (ts : List Tri3) : Prop :=
  (a = none ∧ len = 0 ∧ cap = 0 ∧ ts = []) ∨
  ∃ x, a = some x ∧ len ≤ cap ∧ cap ≤ maxLen ∧ ts.length = len ∧ ∀ (i : Nat) (t : Tri3), ts[i]? = some t → TriAt w x i t
theorem open_tris {H : Type} {enc : TypeId × Value → H} {P : Program} {w : World} {base : Nat} {spare : Nat → Bool} {held : Bool} {t e : TypeId} {f0 f1 f2 : Field} {fuel : Nat} {a : Option Addr} {len cap : Nat} {x : DataW H × List MemPlace}
    (ht : P.underlying t = some (.slice e)) (he : P.underlying e = some (.struct #[f0, f1, f2])) (hC : P.cellsOf e = 3)
    (h0 : P.underlying f0.type = some .string ∧ f0.offset = 0 ∧ P.cellsOf f0.type = 1) (h1 : P.underlying f1.type = some .string ∧ f1.offset = 1 ∧ P.cellsOf f1.type = 1) (h2 : P.underlying f2.type = some .string ∧ f2.offset = 2 ∧ P.cellsOf f2.type = 1)
    (h : DataW.trod enc P w base spare held fuel t [.slice a len cap] = some x) : ∃ ts, IsTris w a len cap ts := by
  rcases Deep.open_slice ht h with ⟨hcs, _⟩ | ⟨x, len', cap', m, n, D, Pl, hcs, _, hl, hm, hmm, _, hi⟩
  · simp only [List.cons.injEq, Value.slice.injEq, and_true] at hcs
    exact ⟨[], .inl ⟨hcs.1, hcs.2.1, hcs.2.2, rfl⟩⟩
  · simp only [List.cons.injEq, Value.slice.injEq, and_true] at hcs
    obtain ⟨rfl, rfl, rfl⟩ := hcs
    have hlm : len ≤ m := by rw [hmm]; split <;> omega
    obtain ⟨ts, hts, hq⟩ := list_of (Q := TriAt w x) len fun i hil => by
      obtain ⟨cs', hc, htr⟩ := hi i (by omega)
      rw [hC] at hc
      obtain ⟨_, hcl, hat⟩ := World.cells?_some hc
      obtain ⟨xs, n', _, _, _, hxl, hf⟩ := DataW.trod_struct he htr
      have hxl3 : xs.length = 3 := hxl
      have g : ∀ (j : Nat) (f : Field), #[f0, f1, f2][j]? = some f → P.underlying f.type = some .string ∧ f.offset = j ∧ P.cellsOf f.type = 1 → j < 3 → ∃ s : ByteArray, cs'[j]? = some (.string s) ∧ s.size ≤ maxLen := by
        intro j f hj hfo hj3
        have hx := hf j f hj
        rw [hfo.2.1, hfo.2.2, List.getElem?_eq_getElem (by omega)] at hx
        obtain ⟨s, hs, _, hsz⟩ := DataW.trod_string hfo.1 hx
        refine ⟨s, ?_, hsz⟩
        rw [List.drop_eq_getElem_cons (by omega)] at hs
        simp only [List.take_succ_cons, List.take_zero, List.cons.injEq, and_true] at hs
        rw [List.getElem?_eq_getElem (by omega), hs]
      obtain ⟨s, hs, ws⟩ := g 0 f0 rfl h0 (by omega)
      obtain ⟨p, hp, wp⟩ := g 1 f1 rfl h1 (by omega)
      obtain ⟨o, ho, wo⟩ := g 2 f2 rfl h2 (by omega)
      have ha : ∀ j, j < 3 → w.cell? (x.add (3 * i + j)) = cs'[j]? := by
        intro j hj
        rw [← hat j hj, Deep.add_add, Nat.mul_comm]
      exact ⟨(s, p, o), (ha 0 (by omega)).trans hs, (ha 1 (by omega)).trans hp, (ha 2 (by omega)).trans ho, ws, wp, wo⟩
    exact ⟨ts, .inr ⟨x, rfl, hl, hm, hts, hq⟩⟩
end Go.Proofs.Ytamnlifdfhmbnaa
/- Plain functions on lists of bytes that the program's text functions compute; no program is named here. -/
namespace Go.Proofs.Ytamnlifdfhmbnaa

/-- The bytes of a list as a string's bytes. -/
def bs (l : List UInt8) : ByteArray := ⟨l.toArray⟩
theorem bs_toList (l : List UInt8) : (bs l).data.toList = l := rfl
theorem bs_size (l : List UInt8) : (bs l).size = l.length := rfl
theorem bs_list (l : List UInt8) : (bs l).toList = l := ByteArray.toList_mk l
theorem bs_of (s : ByteArray) : bs s.data.toList = s := by cases s; rfl
theorem bs_eq {s : ByteArray} {l : List UInt8} (h : s.data.toList = l) : s = bs l := by subst h; exact (bs_of s).symm
theorem app_toList (a b : ByteArray) : (a ++ b).data.toList = a.data.toList ++ b.data.toList := by simp [ByteArray.data_append]
theorem ext_toList (s : ByteArray) (i j : Nat) : (s.extract i j).data.toList = (s.data.toList.take j).drop i := by
  simp [ByteArray.data_extract, List.extract_eq_take_drop, List.drop_take]

theorem size_len (s : ByteArray) : s.data.toList.length = s.size := rfl
theorem lit_size (a : Array UInt8) : (ByteArray.mk a).size = a.size := rfl
theorem ext_one (s : ByteArray) (k : Nat) (h : k < s.size) : (s.extract k (k + 1)).data.toList = [s[k]] := by
  rw [ext_toList, List.take_succ_eq_append_getElem (by simpa using h), List.drop_append_of_le_length (by simp only [List.length_take, size_len]; omega)]
  simp; rfl
def escB (c : UInt8) : List UInt8 := if c = 34 then [92, 34] else if c = 92 then [92, 92] else if c = 10 then [92, 110] else [c]
def esc (l : List UInt8) : List UInt8 := l.flatMap escB
theorem esc_snoc (l : List UInt8) (c : UInt8) : esc (l ++ [c]) = esc l ++ escB c := by simp [esc]
theorem escB_len (c : UInt8) : 1 ≤ (escB c).length ∧ (escB c).length ≤ 2 := by
  unfold escB; split <;> (try split) <;> (try split) <;> simp
theorem esc_len (l : List UInt8) : l.length ≤ (esc l).length ∧ (esc l).length ≤ 2 * l.length := by
  induction l with
  | nil => simp [esc]
  | cons c l ih => have := escB_len c; simp only [esc, List.flatMap_cons, List.length_append, List.length_cons] at *; omega
theorem take_snoc (s : ByteArray) (k : Nat) (h : k < s.size) : s.data.toList.take (k + 1) = s.data.toList.take k ++ [s[k]] := by
  rw [List.take_succ_eq_append_getElem (by simpa using h)]; rfl
theorem drop_cons (s : ByteArray) (k : Nat) (h : k < s.size) : s.data.toList.drop k = s[k] :: s.data.toList.drop (k + 1) := by
  rw [List.drop_eq_getElem_cons (by simpa using h)]; rfl
theorem drop_all (s : ByteArray) (k : Nat) (h : s.size ≤ k) : s.data.toList.drop k = [] := List.drop_of_length_le (by simpa using h)
theorem take_all (s : ByteArray) (k : Nat) (h : s.size ≤ k) : s.data.toList.take k = s.data.toList := List.take_of_length_le (by simpa using h)
theorem u8_int (c d : UInt8) : (((c.toNat : Int) == (d.toNat : Int)) = true) ↔ c = d := by
  rw [beq_iff_eq]; constructor
  · intro h; exact UInt8.toNat.inj (by omega)
  · intro h; rw [h]
theorem escB_b (c : UInt8) : escB c = if ((c.toNat : Int) == 34) = true then [92, 34] else if ((c.toNat : Int) == 92) = true then [92, 92] else if ((c.toNat : Int) == 10) = true then [92, 110] else [c] := by
  have h1 := u8_int c 34; have h2 := u8_int c 92; have h3 := u8_int c 10
  unfold escB
  simp only [← h1, ← h2, ← h3]; rfl
def unesc : List UInt8 → Option (List UInt8)
  | [] => some []
  | c :: r =>
    if ((c.toNat : Int) == 34) = true then none else if ((c.toNat : Int) == 10) = true then none else
    if ((c.toNat : Int) == 92) = false then (unesc r).map (c :: ·) else
    match r with
    | [] => none
    | d :: r' =>
      if ((d.toNat : Int) == 34) = true then (unesc r').map (d :: ·) else if ((d.toNat : Int) == 92) = true then (unesc r').map (d :: ·) else
      if ((d.toNat : Int) == 110) = true then (unesc r').map (10 :: ·) else none
theorem unesc_len : ∀ (l m : List UInt8), unesc l = some m → m.length ≤ l.length
  | [], m, h => by simp only [unesc, Option.some.injEq] at h; subst h; simp
  | [c], m, h => by
    simp only [unesc] at h
    split at h <;> (try simp at h) <;> (try split at h) <;> (try simp at h) <;> (try split at h) <;> (try simp at h)
    obtain ⟨_, _, rfl⟩ := h; simp
  | c :: d :: r, m, h => by
    have i1 := unesc_len (d :: r); have i2 := unesc_len r
    rw [unesc] at h
    split at h; · simp at h
    split at h; · simp at h
    split at h
    · rw [Option.map_eq_some_iff] at h; obtain ⟨a, ha, rfl⟩ := h; have := i1 a ha; simp at *; omega
    · split at h
      · rw [Option.map_eq_some_iff] at h; obtain ⟨a, ha, rfl⟩ := h; have := i2 a ha; simp at *; omega
      split at h
      · rw [Option.map_eq_some_iff] at h; obtain ⟨a, ha, rfl⟩ := h; have := i2 a ha; simp at *; omega
      split at h
      · rw [Option.map_eq_some_iff] at h; obtain ⟨a, ha, rfl⟩ := h; have := i2 a ha; simp at *; omega
      · simp at h
theorem test3 (c : UInt8) : (((c.toNat : Int) == 34) = true ∧ escB c = [92, 34]) ∨ (((c.toNat : Int) == 34) = false ∧ ((c.toNat : Int) == 92) = true ∧ escB c = [92, 92]) ∨
    (((c.toNat : Int) == 34) = false ∧ ((c.toNat : Int) == 92) = false ∧ ((c.toNat : Int) == 10) = true ∧ escB c = [92, 110]) ∨
    (((c.toNat : Int) == 34) = false ∧ ((c.toNat : Int) == 92) = false ∧ ((c.toNat : Int) == 10) = false ∧ escB c = [c]) := by
  rw [escB_b]
  cases h1 : ((c.toNat : Int) == 34) <;> cases h2 : ((c.toNat : Int) == 92) <;> cases h3 : ((c.toNat : Int) == 10) <;> simp
theorem two_cells (c : UInt8) (h : ((c.toNat : Int) == 34) = true ∨ ((c.toNat : Int) == 92) = true) : [92, c] = escB c := by
  rw [escB_b]
  rcases h with h | h
  · rw [if_pos h, (u8_int c 34).1 h]
  · rw [if_neg, if_pos h, (u8_int c 92).1 h]
    rw [beq_iff_eq] at h; rw [beq_iff_eq]; omega
end Go.Proofs.Ytamnlifdfhmbnaa
