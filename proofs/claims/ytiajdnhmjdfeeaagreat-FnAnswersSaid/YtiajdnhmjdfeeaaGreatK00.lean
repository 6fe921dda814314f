/- What every row's frame needs: closed facts on the program, and what a slice of bytes that came in looks like.; Plain functions on lists of bytes that the program's text functions compute; no program is named here.; A row of bytes that a call owns: read, grown, made a text. Over any program. -/
import Derived.Test.YtiajdnhmjdfeeaaGreatRows
import Derived.WalkKit
import Derived.ProofKit
import Derived.OpenShut
import Derived.ShutString
import Derived.ChangeOld
import Derived.Below
import Derived.Lib.SmallJoins
import Derived.Laws.BytesArg
import Derived.OwnWalk
namespace Go.Proofs.YtiajdnhmjdfeeaaGreat.Frame
open Go.ChangeShapes Go.WideShapes Go.ChangeAt Go.RowKit
theorem own : ownKnob Tryz.prog.godebug = none := by kernel_rfl
theorem laidOut : laidOutB Tryz.prog = true := by kernel_rfl
/-- A slice of integers that came in: nil, or a row of 'cap' cells of which the first 'len' are its elements. -/
def IsRow (k : IntKind) (w : World) (a : Option Addr) (len cap : Nat) (zs : List Int) : Prop :=
  (a = none ∧ len = 0 ∧ cap = 0 ∧ zs = []) ∨
  ∃ x, a = some x ∧ len ≤ cap ∧ cap ≤ maxLen ∧ zs.length = cap ∧ (∀ i, i < zs.length → w.cell? (x.add i) = some (.int k (zs.getD i 0))) ∧ ∀ n ∈ zs, (Lit.int k n).wf = true
end Go.Proofs.YtiajdnhmjdfeeaaGreat.Frame
namespace Go.Proofs.YtiajdnhmjdfeeaaGreat

/-- The bytes of a list as a string's bytes. -/
def bs (l : List UInt8) : ByteArray := ⟨l.toArray⟩
theorem bs_toList (l : List UInt8) : (bs l).data.toList = l := rfl
theorem bs_size (l : List UInt8) : (bs l).size = l.length := rfl
theorem bs_list (l : List UInt8) : (bs l).toList = l := ByteArray.toList_mk l
theorem bs_of (s : ByteArray) : bs s.data.toList = s := by cases s; rfl
theorem bs_eq {s : ByteArray} {l : List UInt8} (h : s.data.toList = l) : s = bs l := by subst h; exact (bs_of s).symm
theorem app_toList (a b : ByteArray) : (a ++ b).data.toList = a.data.toList ++ b.data.toList := by simp [ByteArray.data_append]
theorem ext_toList (s : ByteArray) (i j : Nat) : (s.extract i j).data.toList = (s.data.toList.take j).drop i := by
  simp [ByteArray.data_extract, List.extract_eq_take_drop, List.drop_take]

theorem size_len (s : ByteArray) : s.data.toList.length = s.size := rfl
theorem lit_size (a : Array UInt8) : (ByteArray.mk a).size = a.size := rfl
theorem ext_one (s : ByteArray) (k : Nat) (h : k < s.size) : (s.extract k (k + 1)).data.toList = [s[k]] := by
  rw [ext_toList, List.take_succ_eq_append_getElem (by simpa using h), List.drop_append_of_le_length (by simp only [List.length_take, size_len]; omega)]
  simp; rfl
def escB (c : UInt8) : List UInt8 := if c = 34 then [92, 34] else if c = 92 then [92, 92] else if c = 10 then [92, 110] else [c]
def esc (l : List UInt8) : List UInt8 := l.flatMap escB
theorem esc_snoc (l : List UInt8) (c : UInt8) : esc (l ++ [c]) = esc l ++ escB c := by simp [esc]
theorem escB_len (c : UInt8) : 1 ≤ (escB c).length ∧ (escB c).length ≤ 2 := by
  unfold escB; split <;> (try split) <;> (try split) <;> simp
theorem esc_len (l : List UInt8) : l.length ≤ (esc l).length ∧ (esc l).length ≤ 2 * l.length := by
  induction l with
  | nil => simp [esc]
  | cons c l ih => have := escB_len c; simp only [esc, List.flatMap_cons, List.length_append, List.length_cons] at *; omega
theorem take_snoc (s : ByteArray) (k : Nat) (h : k < s.size) : s.data.toList.take (k + 1) = s.data.toList.take k ++ [s[k]] := by
  rw [List.take_succ_eq_append_getElem (by simpa using h)]; rfl
theorem drop_cons (s : ByteArray) (k : Nat) (h : k < s.size) : s.data.toList.drop k = s[k] :: s.data.toList.drop (k + 1) := by
  rw [List.drop_eq_getElem_cons (by simpa using h)]; rfl
theorem drop_all (s : ByteArray) (k : Nat) (h : s.size ≤ k) : s.data.toList.drop k = [] := List.drop_of_length_le (by simpa using h)
theorem take_all (s : ByteArray) (k : Nat) (h : s.size ≤ k) : s.data.toList.take k = s.data.toList := List.take_of_length_le (by simpa using h)
theorem u8_int (c d : UInt8) : (((c.toNat : Int) == (d.toNat : Int)) = true) ↔ c = d := by
  rw [beq_iff_eq]; constructor
  · intro h; exact UInt8.toNat.inj (by omega)
  · intro h; rw [h]
theorem escB_b (c : UInt8) : escB c = if ((c.toNat : Int) == 34) = true then [92, 34] else if ((c.toNat : Int) == 92) = true then [92, 92] else if ((c.toNat : Int) == 10) = true then [92, 110] else [c] := by
  have h1 := u8_int c 34; have h2 := u8_int c 92; have h3 := u8_int c 10
  unfold escB
  simp only [← h1, ← h2, ← h3]; rfl
def unesc : List UInt8 → Option (List UInt8)
  | [] => some []
  | c :: r =>
    if ((c.toNat : Int) == 34) = true then none else if ((c.toNat : Int) == 10) = true then none else
    if ((c.toNat : Int) == 92) = false then (unesc r).map (c :: ·) else
    match r with
    | [] => none
    | d :: r' =>
      if ((d.toNat : Int) == 34) = true then (unesc r').map (d :: ·) else if ((d.toNat : Int) == 92) = true then (unesc r').map (d :: ·) else
      if ((d.toNat : Int) == 110) = true then (unesc r').map (10 :: ·) else none
theorem unesc_len : ∀ (l m : List UInt8), unesc l = some m → m.length ≤ l.length
  | [], m, h => by simp only [unesc, Option.some.injEq] at h; subst h; simp
  | [c], m, h => by
    simp only [unesc] at h
    split at h <;> (try simp at h) <;> (try split at h) <;> (try simp at h) <;> (try split at h) <;> (try simp at h)
    obtain ⟨_, _, rfl⟩ := h; simp
  | c :: d :: r, m, h => by
    have i1 := unesc_len (d :: r); have i2 := unesc_len r
    rw [unesc] at h
    split at h; · simp at h
    split at h; · simp at h
    split at h
    · rw [Option.map_eq_some_iff] at h; obtain ⟨a, ha, rfl⟩ := h; have := i1 a ha; simp at *; omega
    · split at h
      · rw [Option.map_eq_some_iff] at h; obtain ⟨a, ha, rfl⟩ := h; have := i2 a ha; simp at *; omega
      split at h
      · rw [Option.map_eq_some_iff] at h; obtain ⟨a, ha, rfl⟩ := h; have := i2 a ha; simp at *; omega
      split at h
      · rw [Option.map_eq_some_iff] at h; obtain ⟨a, ha, rfl⟩ := h; have := i2 a ha; simp at *; omega
      · simp at h
end Go.Proofs.YtiajdnhmjdfeeaaGreat
namespace Go.Proofs.YtiajdnhmjdfeeaaGreat
open Go.RowKit
abbrev b8 (c : UInt8) : Value := .int .u8 c.toNat
theorem own_snoc {w : World} {B e : Nat} {v : Value} {l m : List UInt8} {news : List Value} {n : Nat} (h : w.ownsRow B e 1 v (l.length + n) (l.map b8 ++ news)) (hn : n = m.length) (hx : news = m.map b8) :
    w.ownsRow B e 1 v (l ++ m).length ((l ++ m).map b8) := by
  subst hn hx; simpa using h
theorem strOfNums_bytes (l : List UInt8) : strOfNums (l.map fun c => (c.toNat : Int)) = bs l := by
  unfold strOfNums bs
  congr 2
  rw [List.map_map]
  conv => rhs; rw [← List.map_id l]
  apply List.map_congr_left
  intro c _
  simp
theorem str_of_own {P : Program} {w : World} {B e : Nat} {v : Value} {l : List UInt8} (src dst : TypeId) (hs : P.underlying src = some (.slice e)) (he : P.underlying e = some (.int .u8)) (hd : P.underlying dst = some .string)
    (h : w.ownsRow B e 1 v l.length (l.map b8)) : (convert src dst v).run P w = .ok (.string (bs l)) w := by
  have h0 := h
  obtain ⟨_, hc⟩ := h
  rcases hc with ⟨rfl, hl⟩ | ⟨g, cap, cur, rfl, _⟩
  · have : l = [] := List.length_eq_zero_iff.1 hl
    subst this
    exact run_convert_bytes_nil w src e hs he 0 0 dst hd
  · have := run_convert_bytes_arg (P := P) w src e hs he g 0 l.length cap (l.map fun c => (c.toNat : Int)) (by simp) (fun i hi => by
      rw [Nat.zero_add, h0.cellAt i (by omega)]
      simp [List.getD, hi]) dst hd
    rw [this, strOfNums_bytes]
theorem one_cell {w : World} {u : Value} {e : Nat} : ∀ (j : Nat) (x : Value), [u][j]? = some x → (w.alloc (.cells #[u] e)).cell? ((⟨w.heap.size, 0, none⟩ : Addr).add j) = some x := by
  intro j x hj
  match j, hj with
  | 0, hj => simp at hj; subst hj; simp [Addr.add]
theorem two_cell {w : World} {u v : Value} {e : Nat} : ∀ (j : Nat) (x : Value), [u, v][j]? = some x → (w.alloc (.cells #[u, v] e)).cell? ((⟨w.heap.size, 0, none⟩ : Addr).add j) = some x := by
  intro j x hj
  match j, hj with
  | 0, hj => simp at hj; subst hj; simp [Addr.add]
  | 1, hj => simp at hj; subst hj; simp [Addr.add]
theorem own_round {w0 wr w1 : World} {l m : List UInt8} {v v' : Value} {news : List Value} {n e : Nat} (hown : wr.ownsRow w0.heap.size e 1 v l.length (l.map b8)) (hnx : Below w0.heap.size w0 wr)
    (hown' : w1.ownsRow w0.heap.size e 1 v' (l.length + n) (l.map b8 ++ news)) {o : Obj} (hg : (wr.alloc o).grownBy w1 v.ownBlock) (hn : n = m.length) (hx : news = m.map b8) :
    w1.ownsRow w0.heap.size e 1 v' (l ++ m).length ((l ++ m).map b8) ∧ Below w0.heap.size w0 w1 := by
  have hsz := hnx.size
  exact ⟨own_snoc hown' hn hx, (hnx.alloc hsz _).grown hg (by simp; omega) (fun b hb => (hown.lt b hb).1)⟩
theorem grown_of_below {w w' : World} (h : Below w.heap.size w w') : w.grownBy w' none := ⟨h.os, h.tape, h.output, h.size, fun k hk _ => h.block k hk⟩
theorem below_of_grown {w w' : World} (h : w.grownBy w' none) : Below w.heap.size w w' := ⟨h.os, h.tape, h.output, h.size, fun k hk => h.block k hk (by simp)⟩
end Go.Proofs.YtiajdnhmjdfeeaaGreat
