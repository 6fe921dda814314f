/- A slice of triples that is marked from whatever number on, and looked at again. -/
import Derived.Test.YtamnlifdfhmbnaaG09
import Derived.Test.YtamnlifdfhmbnaaG08
import Derived.Test.YtamnlifdfhmbnaaG02
import Derived.Deep.RegionHeld3
import Derived.Lib.SmallJoins
namespace Go.Proofs.Ytamnlifdfhmbnaa
open Go.RowKit Go.WideShapes
set_option maxRecDepth 100000 in
set_option maxHeartbeats 1600000 in
theorem markTextB (n : Nat) (h0 : 0 < n) (h1 : n ≤ 80000000) (w : World) :
    Calls Try.prog 95 #[.int .i64 n] w fun e w' => e = .returned (.string (mark n)) ∧ Below w.heap.size w w' := by
  have h2 : ¬ (n : Int) ≤ 0 := by omega
  go_enter Try.func95, Try.ntmps95
  go_wp2_with fail
  go_loopw [0, 3] (fun k o wr => ∃ (m : Nat) (O : ByteArray), k = .int .i64 m ∧ o = .string O ∧ m + O.size ≤ n ∧ Hid (dig m ++ O.data.toList = dig n) ∧ Below w.heap.size w wr) (fun k _ _ => (intOf k).toNat)
  case atStart => exact ⟨n, ⟨#[]⟩, rfl, rfl, Nat.le_refl _, Lib.hid (by simp), Below.refl _ _⟩
  case round =>
    obtain ⟨m, O, rfl, rfl, hm, hd, hnx⟩ := hrel
    by_cases g : 0 < m
    · have g2 : (0 : Int) < (m : Int) := by omega
      have hcv := run_convert_bytes_arg (P := Try.prog) (wr.alloc (.cells #[.int .u8 (48 + (m : Int) % 10)] 5)) 22 5 Try.underlying22 Try.underlying5 wr.heap.size 0 1 1 [48 + (m : Int) % 10] rfl (fun i hi => by
        obtain rfl : i = 0 := by omega
        simp [List.getD]) 9 Try.underlying9
      obtain ⟨D, hD⟩ : ∃ D, strOfNums [48 + (m : Int) % 10] = D := ⟨_, rfl⟩
      rw [hD] at hcv
      have hDl : D.data.toList = [UInt8.ofNat (48 + m % 10)] := by
        rw [← hD]
        have e : (48 + (m : Int) % 10).toNat = 48 + m % 10 := by omega
        simp [strOfNums, e]
      have hDs : D.size = 1 := by rw [← size_len, hDl]; rfl
      have hO : O.size ≤ 80000000 := by omega
      have hDO : (D ++ O).size = O.size + 1 := by rw [ByteArray.size_append]; omega
      have HD : Hid (dig (m / 10) ++ (D ++ O).data.toList = dig n) := Lib.hid (by
        rw [← hd.out, dig_step g, ByteArray.data_append, Array.toList_append, hDl]; simp)
      have hq : ((m / 10 : Nat) : Int) = (m : Int) / 10 := by omega
      have B1 := hnx.alloc hnx.size (.cells #[.int .u8 (48 + (m : Int) % 10)] 5)
      clear hD hDl hd hnx
      go_wp2_with fail
      go_roundw
      case rel => exact ⟨m / 10, D ++ O, by rw [hq], rfl, by omega, HD, B1⟩
      case measure => simp [intOf]; omega
    · obtain rfl : m = 0 := by omega
      have HR : Hid ({ data := #[109] } ++ O = mark n) := Lib.hid (by have := hd.out; rw [dig_zero, List.nil_append] at this; rw [mark_text, this]; rfl)
      have hO : O.size ≤ 80000000 := by omega
      go_wp2_with fail
      go_ret
      exact ⟨by rw [← HR.out]; rfl, hnx⟩
def markK (k0 i : Nat) : Tri3 := (mark (k0 + 3 * i), mark (k0 + 3 * i + 1), mark (k0 + 3 * i + 2))
def marksK (k0 n : Nat) : List Tri3 := (List.range n).map (markK k0)
theorem marksK_succ (k0 n : Nat) : marksK k0 (n + 1) = marksK k0 n ++ [markK k0 n] := by unfold marksK; rw [List.range_succ, List.map_append]; rfl
theorem marksK_len (k0 n : Nat) : (marksK k0 n).length = n := by simp [marksK]
theorem marksK_at {k0 n i : Nat} (h : i < n) : (marksK k0 n)[i]? = some (markK k0 i) := by unfold marksK; rw [List.getElem?_map, List.getElem?_range h]; rfl
theorem marksK_small (k0 n : Nat) (hn : n ≤ 1048576) (hk : k0 ≤ 40000000) : ∀ t ∈ marksK k0 n, t.1.size ≤ maxLen ∧ t.2.1.size ≤ maxLen ∧ t.2.2.size ≤ maxLen := by
  intro t ht
  unfold marksK at ht
  obtain ⟨i, hi, rfl⟩ := List.mem_map.1 ht
  have hi := List.mem_range.1 hi
  have a := dig_len (k0 + 3 * i)
  have b := dig_len (k0 + 3 * i + 1)
  have c := dig_len (k0 + 3 * i + 2)
  unfold markK mark maxLen
  simp only [bs_size, List.length_cons]
  omega
end Go.Proofs.Ytamnlifdfhmbnaa
/- What a call may have written, told by where it lies; facts that speak of some blocks alone. -/
namespace Go.Proofs.Ytamnlifdfhmbnaa
open Go.RowKit
/-- Only what lies from D on and below E may have been written. -/
structure Turn (D E : Nat) (w w' : World) : Prop where
  os : w'.os = w.os
  tape : w'.tape = w.tape
  output : w'.output = w.output
  size : w.heap.size ≤ w'.heap.size
  block : ∀ k, k < w.heap.size → k < D ∨ E ≤ k → w'.heap[k]? = w.heap[k]?
theorem Turn.of_below {w w' : World} (h : Below w.heap.size w w') (D : Nat) : Turn D D w w' := ⟨h.os, h.tape, h.output, h.size, fun k hk _ => h.block k hk⟩
theorem Turn.of_grown {w w' : World} {row : Option Nat} (h : w.grownBy w' row) {D E : Nat} (hr : ∀ j, row = some j → D ≤ j ∧ j < E) : Turn D E w w' :=
  ⟨h.os, h.tape, h.output, h.size, fun k hk hd => h.block k hk (fun e => by have := hr k e.symm; omega)⟩
theorem Turn.below {D E B : Nat} {w w' : World} (h : Turn D E w w') (hB : B ≤ w.heap.size) (hD : B ≤ D) : Below B w w' := ⟨h.os, h.tape, h.output, h.size, fun k hk => h.block k (by omega) (.inl (by omega))⟩
/-- p speaks of nothing but the blocks from B on and below C. -/
def Lives (B C : Nat) (p : World → Prop) : Prop := ∀ w w' : World, (∀ k, B ≤ k → k < C → w'.heap[k]? = w.heap[k]?) → p w → p w'
/-- p holds, and speaks of nothing else. -/
structure Holds (B C : Nat) (w : World) (p : World → Prop) : Prop where
  lives : Lives B C p
  le : C ≤ w.heap.size
  now : p w
theorem Holds.step {B C D E : Nat} {w w' : World} {p : World → Prop} (h : Holds B C w p) (ht : Turn D E w w') (hd : C ≤ D ∨ E ≤ B) : Holds B C w' p :=
  ⟨h.lives, Nat.le_trans h.le ht.size, h.lives w w' (fun k h1 h2 => ht.block k (by have := h.le; omega) (by omega)) h.now⟩
theorem Holds.next {B C : Nat} {w w' : World} {p : World → Prop} (h : Holds B C w p) (hb : Below w.heap.size w w') : Holds B C w' p :=
  ⟨h.lives, Nat.le_trans h.le hb.size, h.lives w w' (fun k h1 h2 => hb.block k (by have := h.le; omega)) h.now⟩
theorem Holds.drew {B C : Nat} {w : World} {p : World → Prop} (h : Holds B C w p) : Holds B C w.drew p := ⟨h.lives, h.le, h.lives w w.drew (fun _ _ _ => rfl) h.now⟩
theorem Holds.undrew {B C : Nat} {w : World} {p : World → Prop} (h : Holds B C w.drew p) : Holds B C w p := ⟨h.lives, h.le, h.lives w.drew w (fun _ _ _ => rfl) h.now⟩
theorem Holds.alloc {B C : Nat} {w : World} {p : World → Prop} (h : Holds B C w p) (o : Obj) : Holds B C (w.alloc o) p := h.next ((Below.refl w.heap.size w).alloc (Nat.le_refl _) o)
theorem Holds.widen {B C B' C' : Nat} {w : World} {p : World → Prop} (h : Holds B C w p) (hB : B' ≤ B) (hC : C ≤ C') (hl : C' ≤ w.heap.size) : Holds B' C' w p :=
  ⟨fun w w' he => h.lives w w' (fun k h1 h2 => he k (by omega) (by omega)), hl, h.now⟩
/-- Block g holds just these cells. -/
def Cells (g : Nat) (cs : Array Value) (T : TypeId) (w : World) : Prop := w.heap[g]? = some (.cells cs T (0, 0))
theorem cells_lives (g : Nat) (cs : Array Value) (T : TypeId) : Lives g (g + 1) (Cells g cs T) := fun _ _ he h => (he g (Nat.le_refl _) (Nat.lt_succ_self _)).trans h
theorem cells_new (w : World) (cs : Array Value) (T : TypeId) : Holds w.heap.size (w.heap.size + 1) (w.alloc (.cells cs T)) (Cells w.heap.size cs T) := ⟨cells_lives _ _ _, by simp, heap_alloc_new w _⟩
theorem Cells.at {g : Nat} {cs : Array Value} {T : TypeId} {w : World} (h : Cells g cs T w) (i : Nat) : w.cell? ⟨g, i, none⟩ = cs[i]? := by
  unfold Cells at h; simp [World.cell?, h]
theorem Cells.free {g : Nat} {cs : Array Value} {T : TypeId} {w : World} (h : Cells g cs T w) (i : Nat) : w.frozen? ⟨g, i, none⟩ = false := by
  unfold Cells at h; simp [World.frozen?, h]
/-- What a row's owner says, with a ceiling, speaks of the row's block alone. -/
theorem row_lives {B C : Nat} {e : TypeId} {k n : Nat} {v : Value} {xs : List Value} : Lives B C (fun w => w.ownsRow B e k v n xs ∧ ∀ j, v.ownBlock = some j → j < C) := by
  rintro w w' he ⟨⟨h1, h2⟩, h3⟩
  refine ⟨⟨h1, ?_⟩, h3⟩
  rcases h2 with h2 | ⟨g, cap, cur, rfl, hB, hh, r⟩
  · exact .inl h2
  · exact .inr ⟨g, cap, cur, rfl, hB, (he g hB (h3 g rfl)).trans hh, r⟩
theorem row_holds {B e k n : Nat} {w w' : World} {v : Value} {xs : List Value} (h : w'.ownsRow w.heap.size e k v n xs) (_hb : Below B w w') : Holds w.heap.size w'.heap.size w' (fun W => W.ownsRow w.heap.size e k v n xs ∧ ∀ j, v.ownBlock = some j → j < w'.heap.size) :=
  ⟨row_lives, Nat.le_refl _, h, fun j hj => (World.ownsRow.lt h j hj).2⟩
theorem and_lives {B C : Nat} {p q : World → Prop} (hp : Lives B C p) (hq : Lives B C q) : Lives B C (fun w => p w ∧ q w) := fun w w2 he h => ⟨hp w w2 he h.1, hq w w2 he h.2⟩
end Go.Proofs.Ytamnlifdfhmbnaa
/- The kit of a slice of ops on files (a kind, a name, another name, data): what its cells hold; its size, a copy, two alike, marks and their second look; with whose it is. -/
namespace Go.Proofs.Ytamnlifdfhmbnaa
open Go.ChangeShapes Go.WideShapes Go.ChangeAt Go.RowKit
/-- An op: its kind, its name, its other name, its data. -/
abbrev OpV := Int × ByteArray × ByteArray × ByteArray
def OpAt (w : World) (x : Addr) (i : Nat) (t : OpV) : Prop :=
  w.cell? (x.add (4 * i)) = some (.int .i64 t.1) ∧ w.cell? (x.add (4 * i + 1)) = some (.string t.2.1) ∧ w.cell? (x.add (4 * i + 2)) = some (.string t.2.2.1) ∧ w.cell? (x.add (4 * i + 3)) = some (.string t.2.2.2) ∧
  t.2.1.size ≤ maxLen ∧ t.2.2.1.size ≤ maxLen ∧ t.2.2.2.size ≤ maxLen
/-- The slice is nil, or its cells hold these ops. -/
def IsOps (w : World) (a : Option Addr) (len cap : Nat) (ts : List OpV) : Prop :=
  (a = none ∧ len = 0 ∧ cap = 0 ∧ ts = []) ∨
  ∃ x, a = some x ∧ len ≤ cap ∧ cap ≤ maxLen ∧ ts.length = len ∧ ∀ (i : Nat) (t : OpV), ts[i]? = some t → OpAt w x i t
theorem open_ops_one {H : Type} {enc : TypeId × Value → H} {P : Program} {w : World} {base : Nat} {spare : Nat → Bool} {held : Bool} {t e : TypeId} {f0 f1 f2 f3 : Field} {fuel : Nat} {c : Value} {x : DataW H × List MemPlace}
    (ht : P.underlying t = some (.slice e)) (he : P.underlying e = some (.struct #[f0, f1, f2, f3])) (hC : P.cellsOf e = 4)
    (h0 : P.underlying f0.type = some (.int .i64) ∧ f0.offset = 0 ∧ P.cellsOf f0.type = 1) (h1 : P.underlying f1.type = some .string ∧ f1.offset = 1 ∧ P.cellsOf f1.type = 1) (h2 : P.underlying f2.type = some .string ∧ f2.offset = 2 ∧ P.cellsOf f2.type = 1) (h3 : P.underlying f3.type = some .string ∧ f3.offset = 3 ∧ P.cellsOf f3.type = 1)
    (h : DataW.trod enc P w base spare held fuel t [c] = some x) : ∃ a len cap ts, c = .slice a len cap ∧ IsOps w a len cap ts := by
  rcases Deep.open_slice ht h with ⟨hcs, _⟩ | ⟨x, len', cap', m, n, D, Pl, hcs, _, hl, hm, hmm, _, hi⟩
  · obtain rfl : c = .slice none 0 0 := by simpa using hcs
    exact ⟨_, _, _, [], rfl, .inl ⟨rfl, rfl, rfl, rfl⟩⟩
  · obtain rfl : c = .slice (some x) len' cap' := by simpa using hcs
    have hlm : len' ≤ m := by rw [hmm]; split <;> omega
    obtain ⟨ts, hts, hq⟩ := list_of (Q := OpAt w x) len' fun i hil => by
      obtain ⟨cs, hc, htr⟩ := hi i (by omega)
      rw [hC] at hc
      obtain ⟨_, hcl, hat⟩ := World.cells?_some hc
      obtain ⟨y0, y1, y2, y3, n', _, _, k0, k1, k2, k3⟩ := Joins.trod_struct4 he htr
      rw [h0.2.1, h0.2.2] at k0
      rw [h1.2.1, h1.2.2] at k1
      rw [h2.2.1, h2.2.2] at k2
      rw [h3.2.1, h3.2.2] at k3
      match cs, hcl with
      | [v0, v1, v2, v3], _ =>
        simp only [List.drop_succ_cons, List.drop_zero, List.take_succ_cons, List.take_zero] at k0 k1 k2 k3
        obtain ⟨r, e0⟩ : ∃ r, v0 = .int .i64 r := open_int_one h0.1 k0
        obtain ⟨s, e1, _, w1⟩ := DataW.trod_string h1.1 k1
        obtain ⟨p, e2, _, w2⟩ := DataW.trod_string h2.1 k2
        obtain ⟨o, e3, _, w3⟩ := DataW.trod_string h3.1 k3
        simp only [List.cons.injEq, and_true] at e1 e2 e3
        subst e0 e1 e2 e3
        have ha : ∀ j, j < 4 → w.cell? (x.add (4 * i + j)) = [Value.int .i64 r, .string s, .string p, .string o][j]? := by
          intro j hj
          rw [← hat j hj, Deep.add_add, Nat.mul_comm]
        exact ⟨(r, s, p, o), (ha 0 (by omega)).trans rfl, (ha 1 (by omega)).trans rfl, (ha 2 (by omega)).trans rfl, (ha 3 (by omega)).trans rfl, w1, w2, w3⟩
    exact ⟨_, _, _, ts, rfl, .inr ⟨x, rfl, hl, hm, hts, hq⟩⟩
theorem IsOps.len {w : World} {a : Option Addr} {len cap : Nat} {ts : List OpV} (h : IsOps w a len cap ts) : ts.length = len := by
  rcases h with ⟨_, rfl, _, rfl⟩ | ⟨x, _, _, _, h, _⟩
  · rfl
  · exact h
theorem IsOps.next {w w' : World} {a : Option Addr} {len cap : Nat} {ts : List OpV} (h : IsOps w a len cap ts) (hb : Below w.heap.size w w') : IsOps w' a len cap ts := by
  have hg := grown_of_below hb
  rcases h with h | ⟨x, rfl, h1, h2, h3, h4⟩
  · exact .inl h
  · refine .inr ⟨x, rfl, h1, h2, h3, fun i t hi => ?_⟩
    obtain ⟨c0, c1, c2, c3, m⟩ := h4 i t hi
    exact ⟨hg.cell c0 (by simp), hg.cell c1 (by simp), hg.cell c2 (by simp), hg.cell c3 (by simp), m⟩
theorem IsOps.maxl {w : World} {a : Option Addr} {len cap : Nat} {ts : List OpV} (h : IsOps w a len cap ts) : len ≤ 9223372036854775807 := by
  rcases h with ⟨_, rfl, _, _⟩ | ⟨_, _, h1, h2, _⟩
  · omega
  · unfold maxLen at h2; omega
def SmAllOp (ts : List OpV) : Prop := ∀ t ∈ ts, t.2.1.size ≤ maxLen ∧ t.2.2.1.size ≤ maxLen ∧ t.2.2.2.size ≤ maxLen
theorem IsOps.small {w : World} {a : Option Addr} {len cap : Nat} {ts : List OpV} (h : IsOps w a len cap ts) : SmAllOp ts := by
  intro t ht
  rcases h with ⟨_, _, _, rfl⟩ | ⟨x, rfl, h1, h2, h3, h4⟩
  · simp at ht
  · obtain ⟨i, hi⟩ := List.mem_iff_getElem?.1 ht
    obtain ⟨_, _, _, _, m⟩ := h4 i t hi
    exact m
/-- The place of a slice that has an element, and its cells. -/
theorem IsOps.cells {w : World} {a : Option Addr} {len cap : Nat} {ts : List OpV} (h : IsOps w a len cap ts) (h0 : 0 < len) : ∃ b off, a = some ⟨b, off, none⟩ ∧ b < w.heap.size ∧ len ≤ cap ∧ cap ≤ maxLen ∧ ts.length = len ∧
    ∀ (i : Nat) (t : OpV), ts[i]? = some t → w.cell? ⟨b, off + i * 4, none⟩ = some (.int .i64 t.1) ∧ w.cell? ⟨b, off + i * 4 + 1, none⟩ = some (.string t.2.1) ∧ w.cell? ⟨b, off + i * 4 + 2, none⟩ = some (.string t.2.2.1) ∧ w.cell? ⟨b, off + i * 4 + 3, none⟩ = some (.string t.2.2.2) ∧
      t.2.1.size ≤ maxLen ∧ t.2.2.1.size ≤ maxLen ∧ t.2.2.2.size ≤ maxLen := by
  rcases h with ⟨_, rfl, _⟩ | ⟨x, rfl, h1, h2, h3, h4⟩
  · omega
  · obtain ⟨b, off, spot⟩ := x
    have ht : ts[0]? = some ts[0] := List.getElem?_eq_getElem (by omega)
    have hc := (h4 0 _ ht).1
    obtain rfl : spot = none := by simpa [Addr.add] using World.cell?_spot hc
    refine ⟨b, off, rfl, ?_, h1, h2, h3, fun i t hi => ?_⟩
    · have := World.block_lt_of_cell? _ _ hc
      simpa [Addr.add] using this
    · obtain ⟨c0, c1, c2, c3, m⟩ := h4 i t hi
      rw [add_plain] at c0 c1 c2 c3
      rw [Nat.mul_comm] at c0 c1 c2 c3
      exact ⟨c0, by rw [Nat.add_assoc]; exact c1, by rw [Nat.add_assoc]; exact c2, by rw [Nat.add_assoc]; exact c3, m⟩
theorem toDop (r : Int) (s p o : ByteArray) (w : World) :
    Calls Try.prog 29 #[.agg #[.int .i64 r, .string s, .string p, .string o]] w fun e w' => e = .returned (.agg #[.int .i64 r, .string s, .string p, .string o]) ∧ Below w.heap.size w w' := by
  go_enter Try.func29, Try.ntmps29
  go_wp2
  refine bodyPost_ret (v := .agg #[.int .i64 r, .string s, .string p, .string o]) (by simp [results, Try.results29, go_sem]) rfl ⟨rfl, (((Below.refl _ _).alloc (Nat.le_refl _) _).alloc (by simp) _).alloc (by simp; omega) _⟩
theorem szDop (r : Int) (s p o : ByteArray) (left : Int) (h0 : 0 ≤ left) (h1 : left ≤ 1048576) (hs : s.size ≤ 9223372036854775807) (hp : p.size ≤ 9223372036854775807) (ho : o.size ≤ 9223372036854775807) (w : World) :
    Calls Try.prog 28 #[.agg #[.int .i64 r, .string s, .string p, .string o], .int .i64 left] w fun e w' => e = .returned (.int .i64 (szT s.size p.size o.size left)) ∧ Below w.heap.size w w' := by
  unfold szT
  by_cases g1 : left - s.size < 0
  · rw [if_pos g1]
    go_enter Try.func28, Try.ntmps28
    go_wp2
    go_ret
    exact ⟨rfl, (Below.refl _ _).alloc (Nat.le_refl _) _⟩
  rw [if_neg g1]
  by_cases g2 : left - s.size - p.size < 0
  · rw [if_pos g2]
    go_enter Try.func28, Try.ntmps28
    go_wp2
    go_ret
    exact ⟨rfl, (Below.refl _ _).alloc (Nat.le_refl _) _⟩
  rw [if_neg g2]
  by_cases g3 : left - s.size - p.size - o.size < 0
  · rw [if_pos g3]
    go_enter Try.func28, Try.ntmps28
    go_wp2
    go_ret
    exact ⟨rfl, (Below.refl _ _).alloc (Nat.le_refl _) _⟩
  · rw [if_neg g3]
    go_enter Try.func28, Try.ntmps28
    go_wp2
    go_ret
    exact ⟨rfl, (Below.refl _ _).alloc (Nat.le_refl _) _⟩
theorem eqDop (r : Int) (s p o : ByteArray) (w : World) :
    Calls Try.prog 94 #[.agg #[.int .i64 r, .string s, .string p, .string o], .agg #[.int .i64 r, .string s, .string p, .string o]] w fun e w' => e = .returned (.bool true) ∧ Below w.heap.size w w' := by
  go_enter Try.func94, Try.ntmps94
  go_wp2
  go_ret
  exact ⟨rfl, ((Below.refl _ _).alloc (Nat.le_refl _) _).alloc (by simp) _⟩
/-- What a size that is not below 0 says of the ops. -/
def SmallOp (len : Nat) (ts : List OpV) : Prop := len ≤ 1048576 ∧ ∀ t ∈ ts, t.2.1.size + t.2.2.1.size + t.2.2.2.size ≤ 1048576
def SzPostOp (left : Int) (len : Nat) (ts : List OpV) (w : World) (e : Ending) (w' : World) : Prop :=
  ∃ n : Int, e = .returned (.int .i64 n) ∧ (n = -1 ∨ (0 ≤ n ∧ n + len ≤ left ∧ SmallOp len ts)) ∧ Below w.heap.size w w'
set_option maxRecDepth 100000 in
set_option maxHeartbeats 1600000 in
theorem szDops (a : Option Addr) (len cap : Nat) (ts : List OpV) (w : World) (h : IsOps w a len cap ts) (left : Int) (h0 : 0 ≤ left) (h1 : left ≤ 1048576) (hlen : len ≤ 9223372036854775807) :
    Calls Try.prog 64 #[.slice a len cap, .int .i64 left] w (SzPostOp left len ts w) := by
  by_cases g : left - len < 0
  · clear h
    go_enter Try.func64, Try.ntmps64
    go_wp2_with fail
    go_ret
    exact ⟨-1, rfl, .inl rfl, Below.refl _ _⟩
  by_cases hz : len = 0
  · subst hz
    obtain rfl : ts = [] := List.length_eq_zero_iff.1 h.len
    clear h g
    go_enter Try.func64, Try.ntmps64
    go_wp2_with fail
    refine wp_loop_rounds 1 ?_
    rw [rounds_succ]
    go_wp2_with fail
    go_ret
    exact ⟨left, by simp, .inr ⟨h0, by omega, by omega, by simp⟩, Below.refl _ _⟩
  · obtain ⟨b, off, rfl, hb, hl, hm, hts, hc⟩ := h.cells (by omega)
    unfold maxLen at hm hc
    have HC := Lib.hid hc
    have HT := Lib.hid hts
    clear hc h
    go_enter Try.func64, Try.ntmps64
    go_wp2_with fail
    go_loopw [1, 5] (fun l i wr => ∃ k : Nat, k ≤ len ∧ i = .int .i64 k ∧ (∃ q : Int, 0 ≤ q ∧ q + len ≤ left ∧ l = .int .i64 q) ∧ Hid (∀ t ∈ ts.take k, t.2.1.size + t.2.2.1.size + t.2.2.2.size ≤ 1048576) ∧ Below w.heap.size w wr) (fun _ i _ => len - (intOf i).toNat)
    case atStart => exact ⟨0, Nat.zero_le _, rfl, ⟨_, by omega, by omega, rfl⟩, Lib.hid (by simp), Below.refl _ _⟩
    case round =>
      obtain ⟨k, hk, rfl, ⟨q, hq0, hq1, rfl⟩, hsm, hnx⟩ := hrel
      by_cases hlt : k < len
      · have ht : ts[k]? = some ts[k] := List.getElem?_eq_getElem (by omega)
        have HS : Hid (ts.take (k + 1) = ts.take k ++ [ts[k]]) := Lib.hid (List.take_succ_eq_append_getElem (by omega))
        obtain ⟨c0, c1, c2, c3, w1, w2, w3⟩ := HC.out k _ ht
        rw [← hnx.cell (p := ⟨b, _, none⟩) hb] at c0 c1 c2 c3
        generalize ts[k] = t at c0 c1 c2 c3 w1 w2 w3 HS
        obtain ⟨r, s, p, o⟩ := t
        simp only at c0 c1 c2 c3 w1 w2 w3
        clear ht
        have SZ := szDop r s p o q hq0 (by omega) w1 w2 w3
        by_cases hs : (s.size : Int) + p.size + o.size ≤ q
        · rw [szT_yes hs] at SZ
          have D := Lib.hid SZ
          have HN : Hid (∀ t ∈ ts.take (k + 1), t.2.1.size + t.2.2.1.size + t.2.2.2.size ≤ 1048576) := Lib.hid (by
            rw [HS.out]
            intro u hu
            rcases List.mem_append.1 hu with hu | hu
            · exact hsm.out u hu
            · obtain rfl : u = (r, s, p, o) := by simpa using hu
              simp only
              omega)
          have hn0 : ¬ q - s.size - p.size - o.size < 0 := by omega
          clear SZ
          go_wp2_with fail
          refine (D.out _).mono ?_
          rintro e wn ⟨rfl, hbn⟩
          have B := hnx.trans (hbn.mono hnx.size)
          clear hbn hnx c0 c1 c2 c3
          go_wp2_with fail
          go_roundw
          case rel => exact ⟨k + 1, by omega, by go_num, ⟨_, by omega, by omega, rfl⟩, HN, B⟩
          case measure => simp [intOf]; omega
        · rw [szT_no hs] at SZ
          have D := Lib.hid SZ
          clear SZ
          go_wp2_with fail
          refine (D.out _).mono ?_
          rintro e wn ⟨rfl, hbn⟩
          have B := hnx.trans (hbn.mono hnx.size)
          clear hbn hnx c0 c1 c2 c3
          go_wp2_with fail
          go_ret
          exact ⟨-1, rfl, .inl rfl, B⟩
      · go_wp2_with fail
        go_ret
        exact ⟨q, rfl, .inr ⟨hq0, hq1, by omega, by have := hsm.out; rwa [List.take_of_length_le (by rw [HT.out]; omega)] at this⟩, hnx⟩
def flatOp (ts : List OpV) : List Value := ts.flatMap fun t => [.int .i64 t.1, .string t.2.1, .string t.2.2.1, .string t.2.2.2]
theorem flatOp_snoc (ts : List OpV) (t : OpV) : flatOp (ts ++ [t]) = flatOp ts ++ [.int .i64 t.1, .string t.2.1, .string t.2.2.1, .string t.2.2.2] := by simp [flatOp]
theorem flatOp_at (ts : List OpV) : ∀ (i : Nat) (t : OpV), ts[i]? = some t → (flatOp ts)[i * 4]? = some (.int .i64 t.1) ∧ (flatOp ts)[i * 4 + 1]? = some (.string t.2.1) ∧ (flatOp ts)[i * 4 + 2]? = some (.string t.2.2.1) ∧ (flatOp ts)[i * 4 + 3]? = some (.string t.2.2.2) := by
  induction ts with
  | nil => intro i t h; simp at h
  | cons u r ih =>
    intro i t h
    have e : flatOp (u :: r) = .int .i64 u.1 :: .string u.2.1 :: .string u.2.2.1 :: .string u.2.2.2 :: flatOp r := by simp [flatOp]
    rw [e]
    cases i with
    | zero => simp at h; subst h; exact ⟨rfl, rfl, rfl, rfl⟩
    | succ n =>
      have := ih n t (by simpa using h)
      rw [show (n + 1) * 4 = n * 4 + 4 from by omega]
      exact this
theorem set4 {xs l : List Value} {k : Nat} (a b c d : Value) (h : xs.take (k * 4) = l) (hl : k * 4 + 3 < xs.length) :
    ((((xs.set (k * 4) a).set (k * 4 + 1) b).set (k * 4 + 2) c).set (k * 4 + 3) d).take ((k + 1) * 4) = l ++ [a, b, c, d] := by
  subst h
  apply List.ext_getElem?
  intro i
  have hlen : (xs.take (k * 4)).length = k * 4 := by rw [List.length_take]; omega
  rw [List.getElem?_take]
  rcases Nat.lt_or_ge i (k * 4) with g | g
  · rw [if_pos (by omega), List.getElem?_append_left (by omega), List.getElem?_take, if_pos g, List.getElem?_set_ne (by omega), List.getElem?_set_ne (by omega), List.getElem?_set_ne (by omega), List.getElem?_set_ne (by omega)]
  · rw [List.getElem?_append_right (by omega), hlen]
    obtain rfl | rfl | rfl | rfl | g3 : i = k * 4 ∨ i = k * 4 + 1 ∨ i = k * 4 + 2 ∨ i = k * 4 + 3 ∨ k * 4 + 4 ≤ i := by omega
    · rw [if_pos (by omega), List.getElem?_set_ne (by omega), List.getElem?_set_ne (by omega), List.getElem?_set_ne (by omega), List.getElem?_set_self (by omega)]; simp
    · rw [if_pos (by omega), List.getElem?_set_ne (by omega), List.getElem?_set_ne (by omega), List.getElem?_set_self (by simp; omega)]
      rw [show k * 4 + 1 - k * 4 = 1 from by omega]; rfl
    · rw [if_pos (by omega), List.getElem?_set_ne (by omega), List.getElem?_set_self (by simp; omega)]
      rw [show k * 4 + 2 - k * 4 = 2 from by omega]; rfl
    · rw [if_pos (by omega), List.getElem?_set_self (by simp; omega)]
      rw [show k * 4 + 3 - k * 4 = 3 from by omega]; rfl
    · rw [if_neg (by omega), List.getElem?_eq_none (by simp; omega)]
theorem infoDop : (Try.prog.info? 36).map (fun i => (i.zero, i.size, i.bytes)) = some (some (.agg #[.int .i64 0, .string ⟨#[]⟩, .string ⟨#[]⟩, .string ⟨#[]⟩]), 4, 56) := by kernel_rfl
/-- The call owns a slice of these ops. -/
def OwnOp (B : Nat) (w : World) (v : Value) (ts : List OpV) : Prop := w.ownsRow B 36 4 v ts.length (flatOp ts)
theorem OwnOp.is {B : Nat} {w : World} {v : Value} {ts : List OpV} (h : OwnOp B w v ts) (hm : SmAllOp ts) : ∃ a cap, v = .slice a ts.length cap ∧ IsOps w a ts.length cap ts := by
  have h0 := h
  obtain ⟨_, hc⟩ := h
  rcases hc with ⟨rfl, hl⟩ | ⟨g, cap, cur, rfl, _, _, h1, h2, _⟩
  · exact ⟨none, 0, by rw [hl], .inl ⟨rfl, hl, rfl, List.length_eq_zero_iff.1 hl⟩⟩
  · refine ⟨_, cap, rfl, .inr ⟨_, rfl, h1, h2, rfl, fun i t hi => ?_⟩⟩
    obtain ⟨f0, f1, f2, f3⟩ := flatOp_at ts i t hi
    have hl : i < ts.length := (List.getElem?_eq_some_iff.1 hi).1
    have m := hm t (List.mem_of_getElem? hi)
    have k0 := h0.cellAt (i * 4) (by omega)
    have k1 := h0.cellAt (i * 4 + 1) (by omega)
    have k2 := h0.cellAt (i * 4 + 2) (by omega)
    have k3 := h0.cellAt (i * 4 + 3) (by omega)
    rw [Nat.mul_comm i 4] at k0 k1 k2 k3
    rw [Nat.mul_comm i 4] at f0 f1 f2 f3
    refine ⟨?_, ?_, ?_, ?_, m⟩
    · rw [add_plain, Nat.zero_add]; exact k0.trans f0
    · rw [add_plain, Nat.zero_add]; exact k1.trans f1
    · rw [add_plain, Nat.zero_add]; exact k2.trans f2
    · rw [add_plain, Nat.zero_add]; exact k3.trans f3
set_option maxRecDepth 100000 in
set_option maxHeartbeats 1600000 in
theorem toDops (a : Option Addr) (len cap : Nat) (ts : List OpV) (w : World) (h : IsOps w a len cap ts) (hs : len ≤ 1048576) :
    Calls Try.prog 66 #[.slice a len cap] w fun e w' => ∃ v, e = .returned v ∧ OwnOp w.heap.size w' v ts ∧ Below w.heap.size w w' := by
  obtain ⟨i0, hi, hz0, hz1, hz2⟩ := info_parts infoDop
  have HT := Lib.hid h.len
  have H := Lib.hid h
  clear h
  go_enter Try.func66, Try.ntmps66
  go_wp2_with (at_make; refine wpList_make_full _ rfl _ _ 25 rfl w.heap.size 36 i0 _ 4 Try.underlying25 hi hz0 hz1 .i64 .i64 _ _ len rfl rfl rfl rfl ?c1 ?c2 (Nat.le_refl _) ?_)
  case c1 => rw [hz2]; omega
  case c2 => unfold maxLen; omega
  intro w0 hown0 hg0
  have hb0 : Below w.heap.size w w0 := (Below.refl _ _).grown hg0 (Nat.le_refl _) (by simp)
  have hsz0 := hg0.size
  clear hg0
  go_wp2_with fail
  go_loopw [4] (fun i wr => ∃ k : Nat, k ≤ len ∧ i = .int .i64 k ∧ (∃ xs : List Value, wr.ownsRow w.heap.size 36 4 (.slice (some ⟨w.heap.size, 0, none⟩) len len) len xs ∧ Hid (xs.take (k * 4) = flatOp (ts.take k))) ∧ Below w.heap.size w wr) (fun i _ => len - (intOf i).toNat)
  case atStart => exact ⟨0, Nat.zero_le _, rfl, ⟨_, hown0, Lib.hid (by simp [flatOp])⟩, hb0⟩
  case round =>
    obtain ⟨k, hk, rfl, ⟨xs, hown, hx⟩, hnx⟩ := hrel
    by_cases hlt : k < len
    · obtain ⟨b, off, rfl, hb, hl, hm, hts, hc⟩ := H.out.cells (by omega)
      have ht : ts[k]? = some ts[k] := List.getElem?_eq_getElem (by omega)
      have HS : Hid (ts.take (k + 1) = ts.take k ++ [ts[k]]) := Lib.hid (List.take_succ_eq_append_getElem (by omega))
      obtain ⟨c0, c1, c2, c3, m⟩ := hc k _ ht
      clear m
      rw [← hnx.cell (p := ⟨b, _, none⟩) hb] at c0 c1 c2 c3
      generalize ts[k] = t at c0 c1 c2 c3 HS
      obtain ⟨r, s, p, o⟩ := t
      simp only at c0 c1 c2 c3
      clear ht hts hc hm
      go_wp2_with fail
      refine (toDop r s p o _).mono ?_
      rintro e wn ⟨rfl, hbn⟩
      have B := hnx.trans (hbn.mono hnx.size)
      have O := hown.kept (grown_of_below hbn) (.inr (by simp [Value.ownBlock]))
      clear hbn hown hnx c0 c1 c2 c3
      have hxl : xs.length = len * 4 := O.1
      have e0 : wn.cell? ⟨w.heap.size, k * 4, none⟩ = some (xs[k * 4]'(by omega)) := by rw [O.cellAt _ (by omega), List.getElem?_eq_getElem (by omega)]
      have e1 : wn.cell? ⟨w.heap.size, k * 4 + 1, none⟩ = some (xs[k * 4 + 1]'(by omega)) := by rw [O.cellAt _ (by omega), List.getElem?_eq_getElem (by omega)]
      have e2 : wn.cell? ⟨w.heap.size, k * 4 + 2, none⟩ = some (xs[k * 4 + 2]'(by omega)) := by rw [O.cellAt _ (by omega), List.getElem?_eq_getElem (by omega)]
      have e3 : wn.cell? ⟨w.heap.size, k * 4 + 3, none⟩ = some (xs[k * 4 + 3]'(by omega)) := by rw [O.cellAt _ (by omega), List.getElem?_eq_getElem (by omega)]
      have f0 := O.frozenAt (k * 4)
      have f1 := O.frozenAt (k * 4 + 1)
      have f2 := O.frozenAt (k * 4 + 2)
      have f3 := O.frozenAt (k * 4 + 3)
      have O1 := (O.stored (k * 4) (.int .i64 r)).1
      have O2 := (O1.stored (k * 4 + 1) (.string s)).1
      have O3 := (O2.stored (k * 4 + 2) (.string p)).1
      have O4 := (O3.stored (k * 4 + 3) (.string o)).1
      have HX : Hid (((((xs.set (k * 4) (.int .i64 r)).set (k * 4 + 1) (.string s)).set (k * 4 + 2) (.string p)).set (k * 4 + 3) (.string o)).take ((k + 1) * 4) = flatOp (ts.take (k + 1))) := Lib.hid (by
        rw [HS.out, flatOp_snoc]; exact set4 _ _ _ _ hx.out (by omega))
      have B2 := (((B.setCell (p := ⟨w.heap.size, k * 4, none⟩) (Nat.le_refl _) (.int .i64 r)).setCell (p := ⟨w.heap.size, k * 4 + 1, none⟩) (Nat.le_refl _) (.string s)).setCell (p := ⟨w.heap.size, k * 4 + 2, none⟩) (Nat.le_refl _) (.string p)).setCell (p := ⟨w.heap.size, k * 4 + 3, none⟩) (Nat.le_refl _) (.string o)
      have HXL := Lib.hid hxl
      generalize xs[k * 4]'(by omega) = z0 at e0
      generalize xs[k * 4 + 1]'(by omega) = z1 at e1
      generalize xs[k * 4 + 2]'(by omega) = z2 at e2
      generalize xs[k * 4 + 3]'(by omega) = z3 at e3
      clear O O1 O2 O3 hxl B
      go_wp2_with fail
      go_roundw
      case rel => exact ⟨k + 1, by omega, by go_num, ⟨_, O4, HX⟩, B2⟩
      case measure => simp [intOf]; omega
    · have HX : Hid (xs = flatOp ts) := Lib.hid (by
        have := hx.out
        have hxl : xs.length = len * 4 := hown.1
        rwa [List.take_of_length_le (by rw [hxl]; omega), List.take_of_length_le (by rw [HT.out]; omega)] at this)
      go_wp2_with fail
      go_ret
      exact ⟨_, rfl, by unfold OwnOp; rw [← HX.out, HT.out]; exact hown, hnx⟩
set_option maxRecDepth 100000 in
set_option maxHeartbeats 1600000 in
theorem eqDops (a b : Option Addr) (la ca lb cb : Nat) (ts : List OpV) (w : World) (ha : IsOps w a la ca ts) (hb : IsOps w b lb cb ts) (hs : la ≤ 1048576) :
    Calls Try.prog 68 #[.slice a la ca, .slice b lb cb] w fun e w' => e = .returned (.bool true) ∧ Below w.heap.size w w' := by
  have hlb : lb = la := by rw [← ha.len, ← hb.len]
  subst hlb
  have HA := Lib.hid ha
  have HB := Lib.hid hb
  have HT := Lib.hid ha.len
  clear ha hb
  go_enter Try.func68, Try.ntmps68
  go_wp2_with fail
  go_loopw [5] (fun i wr => ∃ k : Nat, k ≤ lb ∧ i = .int .i64 k ∧ Below w.heap.size w wr) (fun i _ => lb - (intOf i).toNat)
  case atStart => exact ⟨0, Nat.zero_le _, rfl, Below.refl _ _⟩
  case round =>
    obtain ⟨k, hk, rfl, hnx⟩ := hrel
    by_cases hlt : k < lb
    · obtain ⟨x, off, rfl, hx, _, _, hts, hc⟩ := HA.out.cells (by omega)
      obtain ⟨y, off', rfl, hy, _, _, _, hd⟩ := HB.out.cells (by omega)
      have ht : ts[k]? = some ts[k] := List.getElem?_eq_getElem (by omega)
      obtain ⟨c0, c1, c2, c3, m⟩ := hc k _ ht
      obtain ⟨d0, d1, d2, d3, n⟩ := hd k _ ht
      clear m n
      rw [← hnx.cell (p := ⟨x, _, none⟩) hx] at c0 c1 c2 c3
      rw [← hnx.cell (p := ⟨y, _, none⟩) hy] at d0 d1 d2 d3
      generalize ts[k] = t at c0 c1 c2 c3 d0 d1 d2 d3
      obtain ⟨r, s, p, o⟩ := t
      simp only at c0 c1 c2 c3 d0 d1 d2 d3
      clear ht hts hc hd
      have E := Lib.hid (eqDop r s p o)
      go_wp2_with fail
      have l1 : x < wr.heap.size := Nat.lt_of_lt_of_le hx hnx.size
      have l2 : y < wr.heap.size := Nat.lt_of_lt_of_le hy hnx.size
      go_region_held3 (fun w' => (w'.cell? ⟨x, off + k * 4, none⟩ = some (.int .i64 r) ∧ w'.cell? ⟨x, off + k * 4 + 1, none⟩ = some (.string s) ∧ w'.cell? ⟨x, off + k * 4 + 2, none⟩ = some (.string p) ∧ w'.cell? ⟨x, off + k * 4 + 3, none⟩ = some (.string o)) ∧ (w'.cell? ⟨y, off' + k * 4, none⟩ = some (.int .i64 r) ∧ w'.cell? ⟨y, off' + k * 4 + 1, none⟩ = some (.string s) ∧ w'.cell? ⟨y, off' + k * 4 + 2, none⟩ = some (.string p) ∧ w'.cell? ⟨y, off' + k * 4 + 3, none⟩ = some (.string o)))
        (first | go_keep | (go_split_ands; refine ⟨⟨?_, ?_, ?_, ?_⟩, ?_, ?_, ?_, ?_⟩ <;> (rw [ha4.cell (by first | (simp; done) | exact World.block_lt_of_cell? _ _ (by assumption))]; assumption)))
        (first | (go_at_call 94; refine (E.out _).mono ?_; rintro e wa ⟨rfl, ha4⟩))
      have B : Below w.heap.size w wa := (Below.drew hnx).trans (ha4.mono hnx.size)
      clear ha4 hnx c0 c1 c2 c3 d0 d1 d2 d3
      go_wp2_with fail
      go_roundw
      case rel => exact ⟨k + 1, by omega, by go_num, B⟩
      case measure => simp [intOf]; omega
    · go_wp2_with fail
      go_ret
      exact ⟨rfl, hnx⟩
theorem own_keepOp {B e g n c : Nat} {w w' : World} {xs : List Value} (h : w.ownsRow B e 4 (.slice (some ⟨g, 0, none⟩) n c) n xs) (hb : Below w.heap.size w w') : w'.ownsRow B e 4 (.slice (some ⟨g, 0, none⟩) n c) n xs := h.kept (grown_of_below hb) (.inr (by simp [Value.ownBlock]))
def markOp (k0 i : Nat) : OpV := (((k0 + 4 * i : Nat) : Int), mark (k0 + 4 * i + 1), mark (k0 + 4 * i + 2), mark (k0 + 4 * i + 3))
def marksOp (k0 n : Nat) : List OpV := (List.range n).map (markOp k0)
theorem marksOp_succ (k0 n : Nat) : marksOp k0 (n + 1) = marksOp k0 n ++ [markOp k0 n] := by unfold marksOp; rw [List.range_succ, List.map_append]; rfl
theorem marksOp_len (k0 n : Nat) : (marksOp k0 n).length = n := by simp [marksOp]
theorem marksOp_at {k0 n i : Nat} (h : i < n) : (marksOp k0 n)[i]? = some (markOp k0 i) := by unfold marksOp; rw [List.getElem?_map, List.getElem?_range h]; rfl
theorem marksOp_small (k0 n : Nat) (hn : n ≤ 1048576) (hk : k0 ≤ 40000000) : SmAllOp (marksOp k0 n) := by
  intro t ht
  unfold marksOp at ht
  obtain ⟨i, hi, rfl⟩ := List.mem_map.1 ht
  have hi := List.mem_range.1 hi
  have a := dig_len (k0 + 4 * i + 1)
  have b := dig_len (k0 + 4 * i + 2)
  have c := dig_len (k0 + 4 * i + 3)
  unfold markOp mark maxLen
  simp only [bs_size, List.length_cons]
  omega
set_option maxRecDepth 100000 in
set_option maxHeartbeats 3200000 in
theorem markDops (B : Nat) (v : Value) (ts : List OpV) (w : World) (h : OwnOp B w v ts) (hl : ts.length ≤ 1048576) (k0 : Nat) (hk0 : 0 < k0) (hk1 : k0 ≤ 40000000) :
    Calls Try.prog 70 #[v, .int .i64 k0] w fun e w' => e = .returned (.int .i64 ((k0 + 4 * ts.length : Nat) : Int)) ∧ OwnOp B w' v (marksOp k0 ts.length) ∧ w.grownBy w' v.ownBlock := by
  obtain ⟨n, hn⟩ : ∃ n, ts.length = n := ⟨_, rfl⟩
  have h0 := h
  rw [hn] at hl ⊢
  by_cases hz : n = 0
  · subst hz
    obtain rfl : ts = [] := List.length_eq_zero_iff.1 hn
    obtain ⟨a, c, rfl⟩ : ∃ a c, v = .slice a 0 c := by
      rcases h.2 with ⟨rfl, _⟩ | ⟨g, c, cur, rfl, _⟩
      · exact ⟨_, _, rfl⟩
      · exact ⟨_, _, rfl⟩
    have H0 := Lib.hid h0
    clear h hn h0
    go_enter Try.func70, Try.ntmps70
    go_wp2_with fail
    refine wp_loop_rounds 1 ?_
    rw [rounds_succ]
    go_wp2_with fail
    go_ret
    exact ⟨rfl, H0.out, World.grownBy.refl _ _⟩
  unfold OwnOp at h
  rw [hn] at h
  obtain ⟨g, c, rfl⟩ : ∃ g c, v = .slice (some ⟨g, 0, none⟩) n c := by
    rcases h.2 with ⟨_, e⟩ | ⟨g, c, cur, rfl, _⟩
    · exact absurd e hz
    · exact ⟨g, c, rfl⟩
  have O0 := h
  obtain ⟨xs0, hxs⟩ : ∃ xs, flatOp ts = xs := ⟨_, rfl⟩
  rw [hxs] at O0
  clear h hxs hn h0
  go_enter Try.func70, Try.ntmps70
  go_wp2_with fail
  go_loopw [1, 5] (fun q i wr => ∃ k : Nat, k ≤ n ∧ i = .int .i64 k ∧ q = .int .i64 ((k0 + 4 * k : Nat) : Int) ∧ (∃ xs : List Value, wr.ownsRow B 36 4 (.slice (some ⟨g, 0, none⟩) n c) n xs ∧ Hid (xs.take (k * 4) = flatOp (marksOp k0 k))) ∧ w.grownBy wr (some g)) (fun _ i _ => n - (intOf i).toNat)
  case atStart => exact ⟨0, Nat.zero_le _, rfl, by rw [Nat.mul_zero, Nat.add_zero], ⟨_, O0, Lib.hid (by simp [flatOp, marksOp])⟩, World.grownBy.refl _ _⟩
  case round =>
    obtain ⟨k, hk, rfl, rfl, ⟨xs, hown, hx⟩, hnx⟩ := hrel
    by_cases hlt : k < n
    · have hk6 : (0 : Int) ≤ (k : Int) := by omega
      have hk7 : (k : Int) < (n : Int) := by omega
      have m1 := markTextB (k0 + 4 * k + 1) (by omega) (by omega)
      have m2 := markTextB (k0 + 4 * k + 2) (by omega) (by omega)
      have m3 := markTextB (k0 + 4 * k + 3) (by omega) (by omega)
      obtain ⟨q, hq⟩ : ∃ q : Nat, k0 + 4 * k = q := ⟨_, rfl⟩
      rw [hq] at m1 m2 m3
      have c1 : ((q + 1 : Nat) : Int) = (q : Int) + 1 := by omega
      have c2 : ((q + 2 : Nat) : Int) = (q : Int) + 1 + 1 := by omega
      have c3 : ((q + 3 : Nat) : Int) = (q : Int) + 1 + 1 + 1 := by omega
      rw [c1] at m1
      rw [c2] at m2
      rw [c3] at m3
      have M1 := Lib.hid m1
      have M2 := Lib.hid m2
      have M3 := Lib.hid m3
      have hxl : xs.length = n * 4 := hown.1
      have HX : Hid (((((xs.set (k * 4) (.int .i64 q)).set (k * 4 + 1) (.string (mark (q + 1)))).set (k * 4 + 2) (.string (mark (q + 2)))).set (k * 4 + 3) (.string (mark (q + 3)))).take ((k + 1) * 4) = flatOp (marksOp k0 (k + 1))) := Lib.hid (by
        rw [marksOp_succ, flatOp_snoc, ← hq]; exact set4 _ _ _ _ hx.out (by omega))
      clear m1 m2 m3 c1 c2 c3
      rw [hq]
      have hqs : q ≤ 80000000 := by omega
      have hq3 : ((k0 + 4 * (k + 1) : Nat) : Int) = (q : Int) + 1 + 1 + 1 + 1 := by omega
      have HQ3 := Lib.hid hq3
      clear hq hq3
      have e0 : wr.cell? ⟨g, k * 4, none⟩ = some (xs[k * 4]'(by omega)) := by rw [hown.cellAt _ (by omega), List.getElem?_eq_getElem (by omega)]
      have f0 := hown.frozenAt (k * 4)
      have P0 := (hown.stored (k * 4) (.int .i64 q)).1
      have G0 := grown_set hnx (k * 4) (.int .i64 (q : Int))
      generalize xs[k * 4]'(by omega) = z0 at e0
      obtain ⟨us, hus⟩ : ∃ us, xs.set (k * 4) (.int .i64 q) = us := ⟨_, rfl⟩
      rw [hus] at P0 HX
      clear hown hnx hus
      go_wp2_with fail
      refine (M1.out _).mono ?_
      rintro e w1 ⟨rfl, hb1⟩
      have G1 := G0.trans (grown_any (grown_of_below hb1) (some g))
      have P1 := own_keepOp P0 hb1
      have hul : us.length = n * 4 := P1.1
      have e1 : w1.cell? ⟨g, k * 4 + 1, none⟩ = some (us[k * 4 + 1]'(by omega)) := by rw [P1.cellAt _ (by omega), List.getElem?_eq_getElem (by omega)]
      have f1 := P1.frozenAt (k * 4 + 1)
      have P2 := (P1.stored (k * 4 + 1) (.string (mark (q + 1)))).1
      have G2 := grown_set G1 (k * 4 + 1) (.string (mark (q + 1)))
      generalize us[k * 4 + 1]'(by omega) = z1 at e1
      clear hb1 P0 P1 G0 G1 e0 f0
      go_wp2_with fail
      refine (M2.out _).mono ?_
      rintro e w2 ⟨rfl, hb2⟩
      have G3 := G2.trans (grown_any (grown_of_below hb2) (some g))
      have P3 := own_keepOp P2 hb2
      obtain ⟨ys, hys⟩ : ∃ ys, us.set (k * 4 + 1) (.string (mark (q + 1))) = ys := ⟨_, rfl⟩
      rw [hys] at P3 HX
      have hyl : ys.length = n * 4 := P3.1
      have e2 : w2.cell? ⟨g, k * 4 + 2, none⟩ = some (ys[k * 4 + 2]'(by omega)) := by rw [P3.cellAt _ (by omega), List.getElem?_eq_getElem (by omega)]
      have f2 := P3.frozenAt (k * 4 + 2)
      have P4 := (P3.stored (k * 4 + 2) (.string (mark (q + 2)))).1
      have G4 := grown_set G3 (k * 4 + 2) (.string (mark (q + 2)))
      generalize ys[k * 4 + 2]'(by omega) = z2 at e2
      clear hb2 P2 P3 G2 G3 e1 f1 hys
      go_wp2_with fail
      refine (M3.out _).mono ?_
      rintro e w3 ⟨rfl, hb3⟩
      have G5 := G4.trans (grown_any (grown_of_below hb3) (some g))
      have P5 := own_keepOp P4 hb3
      obtain ⟨vs, hvs⟩ : ∃ vs, ys.set (k * 4 + 2) (.string (mark (q + 2))) = vs := ⟨_, rfl⟩
      rw [hvs] at P5 HX
      have hvl : vs.length = n * 4 := P5.1
      have e3 : w3.cell? ⟨g, k * 4 + 3, none⟩ = some (vs[k * 4 + 3]'(by omega)) := by rw [P5.cellAt _ (by omega), List.getElem?_eq_getElem (by omega)]
      have f3 := P5.frozenAt (k * 4 + 3)
      have P6 := (P5.stored (k * 4 + 3) (.string (mark (q + 3)))).1
      have G6 := grown_set G5 (k * 4 + 3) (.string (mark (q + 3)))
      generalize vs[k * 4 + 3]'(by omega) = z3 at e3
      clear hb3 P4 P5 G4 G5 e2 f2 hvs
      go_wp2_with fail
      go_roundw
      case rel => exact ⟨k + 1, by omega, by go_num, by rw [HQ3.out], ⟨_, P6, HX⟩, G6⟩
      case measure => simp [intOf]; omega
    · obtain rfl : k = n := by omega
      have HX : Hid (xs = flatOp (marksOp k0 k)) := Lib.hid (by
        have := hx.out
        have hxl : xs.length = k * 4 := hown.1
        rwa [List.take_of_length_le (by rw [hxl]; omega)] at this)
      go_wp2_with fail
      go_ret
      refine ⟨rfl, ?_, hnx⟩
      unfold OwnOp
      rw [← HX.out, marksOp_len]
      exact hown
set_option maxRecDepth 100000 in
set_option maxHeartbeats 1600000 in
theorem heldDops (a : Option Addr) (n cap : Nat) (w : World) (k0 : Nat) (h : IsOps w a n cap (marksOp k0 n)) (hl : n ≤ 1048576) (hk0 : 0 < k0) (hk1 : k0 ≤ 40000000) :
    Calls Try.prog 72 #[.slice a n cap, .int .i64 k0] w fun e w' => e = .returned (.int .i64 ((k0 + 4 * n : Nat) : Int)) ∧ Below w.heap.size w w' := by
  have H := Lib.hid h
  clear h
  go_enter Try.func72, Try.ntmps72
  go_wp2_with fail
  go_loopw [1, 5] (fun q i wr => ∃ k : Nat, k ≤ n ∧ i = .int .i64 k ∧ q = .int .i64 ((k0 + 4 * k : Nat) : Int) ∧ Below w.heap.size w wr) (fun _ i _ => n - (intOf i).toNat)
  case atStart => exact ⟨0, Nat.zero_le _, rfl, by rw [Nat.mul_zero, Nat.add_zero], Below.refl _ _⟩
  case round =>
    obtain ⟨k, hk, rfl, rfl, hnx⟩ := hrel
    by_cases hlt : k < n
    · obtain ⟨b, off, rfl, hb, _, _, _, hc⟩ := H.out.cells (by omega)
      obtain ⟨c0, c1, c2, c3, _⟩ := hc k _ (marksOp_at hlt)
      have hk6 : (0 : Int) ≤ (k : Int) := by omega
      have hk7 : (k : Int) < (n : Int) := by omega
      have l0 : b < wr.heap.size := Nat.lt_of_lt_of_le hb hnx.size
      have m1 := markTextB (k0 + 4 * k + 1) (by omega) (by omega)
      have m2 := markTextB (k0 + 4 * k + 2) (by omega) (by omega)
      have m3 := markTextB (k0 + 4 * k + 3) (by omega) (by omega)
      unfold markOp at c0 c1 c2 c3
      simp only at c0 c1 c2 c3
      obtain ⟨q, hq⟩ : ∃ q : Nat, k0 + 4 * k = q := ⟨_, rfl⟩
      rw [hq] at m1 m2 m3 c0 c1 c2 c3
      have d1 : ((q + 1 : Nat) : Int) = (q : Int) + 1 := by omega
      have d2 : ((q + 2 : Nat) : Int) = (q : Int) + 1 + 1 := by omega
      have d3 : ((q + 3 : Nat) : Int) = (q : Int) + 1 + 1 + 1 := by omega
      rw [d1] at m1
      rw [d2] at m2
      rw [d3] at m3
      have M1 := Lib.hid m1
      have M2 := Lib.hid m2
      have M3 := Lib.hid m3
      rw [hq]
      have hqs : q ≤ 80000000 := by omega
      have HQ3 : Hid (((k0 + 4 * (k + 1) : Nat) : Int) = (q : Int) + 1 + 1 + 1 + 1) := Lib.hid (by omega)
      generalize mark (q + 1) = t1 at *
      generalize mark (q + 2) = t2 at *
      generalize mark (q + 3) = t3 at *
      rw [← hnx.cell (p := ⟨b, _, none⟩) hb] at c0 c1 c2 c3
      have C0 := c0
      have E1 := Lib.hid c1
      have E2 := Lib.hid c2
      have E3 := Lib.hid c3
      clear hq m1 m2 m3 d1 d2 d3 hc c0 c1 c2 c3
      go_wp2_with fail
      have LL : b < wr.heap.size := l0
      have KK := E1.out
      clear C0
      go_region_held3 (fun w' => w'.cell? ⟨b, off + k * 4 + 1, none⟩ = some (.string t1))
        (first | go_keep | (rw [ha1.cell (by first | (simp; done) | exact World.block_lt_of_cell? _ _ (by assumption))]; assumption))
        (first | (go_at_call 95; refine (M1.out _).mono ?_; rintro e wa1 ⟨rfl, ha1⟩))
      have B1 : Below w.heap.size w wa1 := (Below.drew hnx).trans (ha1.mono hnx.size)
      have KK2 : wa1.cell? ⟨b, off + k * 4 + 2, none⟩ = some (.string t2) := (ha1.cell (p := ⟨b, _, none⟩) l0).trans E2.out
      have E4 := Lib.hid ((ha1.cell (p := ⟨b, off + k * 4 + 3, none⟩) l0).trans E3.out)
      clear ha1 KK LL hnx E1 E2 E3 l0
      have l0 : b < wa1.heap.size := Nat.lt_of_lt_of_le hb B1.size
      go_wp2_with fail
      have LL : b < wa1.heap.size := l0
      go_region_held3 (fun w' => w'.cell? ⟨b, off + k * 4 + 2, none⟩ = some (.string t2))
        (first | go_keep | (rw [ha2.cell (by first | (simp; done) | exact World.block_lt_of_cell? _ _ (by assumption))]; assumption))
        (first | (go_at_call 95; refine (M2.out _).mono ?_; rintro e wa2 ⟨rfl, ha2⟩))
      have B2 : Below w.heap.size w wa2 := (Below.drew B1).trans (ha2.mono B1.size)
      have KK3 : wa2.cell? ⟨b, off + k * 4 + 3, none⟩ = some (.string t3) := (ha2.cell (p := ⟨b, _, none⟩) l0).trans E4.out
      clear ha2 KK2 LL B1 E4 l0
      have l0 : b < wa2.heap.size := Nat.lt_of_lt_of_le hb B2.size
      go_wp2_with fail
      have LL : b < wa2.heap.size := l0
      go_region_held3 (fun w' => w'.cell? ⟨b, off + k * 4 + 3, none⟩ = some (.string t3))
        (first | go_keep | (rw [ha3.cell (by first | (simp; done) | exact World.block_lt_of_cell? _ _ (by assumption))]; assumption))
        (first | (go_at_call 95; refine (M3.out _).mono ?_; rintro e wa3 ⟨rfl, ha3⟩))
      have B3 : Below w.heap.size w wa3 := (Below.drew B2).trans (ha3.mono B2.size)
      clear ha3 KK3 LL B2 l0
      go_wp2_with fail
      go_roundw
      case rel => exact ⟨k + 1, by omega, by go_num, by rw [HQ3.out], B3⟩
      case measure => simp [intOf]; omega
    · obtain rfl : k = n := by omega
      go_wp2_with fail
      go_ret
      exact ⟨rfl, hnx⟩
/-- The call owns a slice of these ops, between B and C. -/
def OwnOpC (B C : Nat) (v : Value) (ts : List OpV) (w : World) : Prop := OwnOp B w v ts ∧ ∀ j, v.ownBlock = some j → j < C
theorem ownOpC_lives {B C : Nat} {v : Value} {ts : List OpV} : Lives B C (OwnOpC B C v ts) := row_lives
theorem OwnOpC.turn {B C : Nat} {v : Value} {ts : List OpV} {w w' : World} (h : OwnOpC B C v ts w) (hg : w.grownBy w' v.ownBlock) : Turn B C w w' := .of_grown hg (fun j hj => ⟨(World.ownsRow.lt h.1 j hj).1, h.2 j hj⟩)
theorem OwnOpC.read {B C : Nat} {w : World} {a : Option Addr} {n c : Nat} {ts : List OpV} (h : OwnOpC B C (.slice a n c) ts w) (hm : SmAllOp ts) (hl : ts.length = n) : IsOps w a n c ts := by
  subst hl
  obtain ⟨x, y, e, i⟩ := h.1.is hm
  simp only [Value.slice.injEq, true_and] at e
  obtain ⟨rfl, rfl⟩ := e
  exact i
theorem ownOp_base {B C : Nat} {w : World} {v : Value} {ts : List OpV} (h : OwnOp B w v ts) (hc : C ≤ B) : OwnOp C w v ts := by
  obtain ⟨h1, h2⟩ := h
  refine ⟨h1, ?_⟩
  rcases h2 with h2 | ⟨g, cap, cur, e, hB, r⟩
  · exact .inl h2
  · exact .inr ⟨g, cap, cur, e, Nat.le_trans hc hB, r⟩
theorem exToOp (a : Option Addr) (n c : Nat) (ts : List OpV) (w : World) (h : IsOps w a n c ts) (hs : n ≤ 1048576) (hl : ts.length = n) :
    Calls Try.prog 66 #[.slice a n c] w fun e w' => ∃ a' c', e = .returned (.slice a' n c') ∧ Holds w.heap.size w'.heap.size w' (OwnOpC w.heap.size w'.heap.size (.slice a' n c') ts) ∧ Below w.heap.size w w' :=
  (toDops a n c ts w h hs).mono fun e w' ⟨v, he, ho, hb⟩ => by
    have H : Holds w.heap.size w'.heap.size w' (OwnOpC w.heap.size w'.heap.size v ts) := ⟨ownOpC_lives, Nat.le_refl _, ho, fun j hj => (World.ownsRow.lt ho j hj).2⟩
    subst hl
    rcases ho.2 with ⟨rfl, e⟩ | ⟨g, c, cur, rfl, _⟩
    · exact ⟨none, 0, by rw [he, e], by rw [e]; exact H, hb⟩
    · exact ⟨_, _, he, H, hb⟩
theorem exMarkOp {B C : Nat} {a : Option Addr} {n c : Nat} {ts : List OpV} {w : World} (h : Holds B C w (OwnOpC B C (.slice a n c) ts)) (hs : n ≤ 1048576) (hl : ts.length = n) (k0 : Nat) (hk0 : 0 < k0) (hk1 : k0 ≤ 40000000) :
    Calls Try.prog 70 #[.slice a n c, .int .i64 k0] w fun e w' => e = .returned (.int .i64 ((k0 + 4 * n : Nat) : Int)) ∧ Holds B C w' (OwnOpC B C (.slice a n c) (marksOp k0 n)) ∧ Turn B C w w' := by
  subst hl
  refine (markDops B _ ts w h.now.1 hs k0 hk0 hk1).mono fun e w' ⟨he, ho, hg⟩ => ⟨he, ⟨ownOpC_lives, Nat.le_trans h.le hg.size, ho, h.now.2⟩, h.now.turn hg⟩
end Go.Proofs.Ytamnlifdfhmbnaa
