/- A row of bytes that a call owns: read, grown, made a text. Over any program. -/
import Derived.Test.YtamnlifdfhmbnaaG00
import Derived.Laws.BytesArg
import Derived.OwnWalk
import Derived.Test.YtamnlifdfhmbnaaChecked
import Derived.WalkSpells
import Derived.WalkLawsBesides
import Derived.Outline
import Derived.Lib.Hide
import Derived.Laws.Entries
namespace Go.Proofs.Ytamnlifdfhmbnaa
open Go.RowKit
abbrev b8 (c : UInt8) : Value := .int .u8 c.toNat
theorem own_snoc {w : World} {B e : Nat} {v : Value} {l m : List UInt8} {news : List Value} {n : Nat} (h : w.ownsRow B e 1 v (l.length + n) (l.map b8 ++ news)) (hn : n = m.length) (hx : news = m.map b8) :
    w.ownsRow B e 1 v (l ++ m).length ((l ++ m).map b8) := by
  subst hn hx; simpa using h
theorem strOfNums_bytes (l : List UInt8) : strOfNums (l.map fun c => (c.toNat : Int)) = bs l := by
  unfold strOfNums bs
  congr 2
  rw [List.map_map]
  conv => rhs; rw [← List.map_id l]
  apply List.map_congr_left
  intro c _
  simp
theorem str_of_own {P : Program} {w : World} {B e : Nat} {v : Value} {l : List UInt8} (src dst : TypeId) (hs : P.underlying src = some (.slice e)) (he : P.underlying e = some (.int .u8)) (hd : P.underlying dst = some .string)
    (h : w.ownsRow B e 1 v l.length (l.map b8)) : (convert src dst v).run P w = .ok (.string (bs l)) w := by
  have h0 := h
  obtain ⟨_, hc⟩ := h
  rcases hc with ⟨rfl, hl⟩ | ⟨g, cap, cur, rfl, _⟩
  · have : l = [] := List.length_eq_zero_iff.1 hl
    subst this
    exact run_convert_bytes_nil w src e hs he 0 0 dst hd
  · have := run_convert_bytes_arg (P := P) w src e hs he g 0 l.length cap (l.map fun c => (c.toNat : Int)) (by simp) (fun i hi => by
      rw [Nat.zero_add, h0.cellAt i (by omega)]
      simp [List.getD, hi]) dst hd
    rw [this, strOfNums_bytes]
theorem one_cell {w : World} {u : Value} {e : Nat} : ∀ (j : Nat) (x : Value), [u][j]? = some x → (w.alloc (.cells #[u] e)).cell? ((⟨w.heap.size, 0, none⟩ : Addr).add j) = some x := by
  intro j x hj
  match j, hj with
  | 0, hj => simp at hj; subst hj; simp [Addr.add]
theorem two_cell {w : World} {u v : Value} {e : Nat} : ∀ (j : Nat) (x : Value), [u, v][j]? = some x → (w.alloc (.cells #[u, v] e)).cell? ((⟨w.heap.size, 0, none⟩ : Addr).add j) = some x := by
  intro j x hj
  match j, hj with
  | 0, hj => simp at hj; subst hj; simp [Addr.add]
  | 1, hj => simp at hj; subst hj; simp [Addr.add]
theorem own_round {w0 wr w1 : World} {l m : List UInt8} {v v' : Value} {news : List Value} {n e : Nat} (hown : wr.ownsRow w0.heap.size e 1 v l.length (l.map b8)) (hnx : Below w0.heap.size w0 wr)
    (hown' : w1.ownsRow w0.heap.size e 1 v' (l.length + n) (l.map b8 ++ news)) {o : Obj} (hg : (wr.alloc o).grownBy w1 v.ownBlock) (hn : n = m.length) (hx : news = m.map b8) :
    w1.ownsRow w0.heap.size e 1 v' (l ++ m).length ((l ++ m).map b8) ∧ Below w0.heap.size w0 w1 := by
  have hsz := hnx.size
  exact ⟨own_snoc hown' hn hx, (hnx.alloc hsz _).grown hg (by simp; omega) (fun b hb => (hown.lt b hb).1)⟩
theorem grown_of_below {w w' : World} (h : Below w.heap.size w w') : w.grownBy w' none := ⟨h.os, h.tape, h.output, h.size, fun k hk _ => h.block k hk⟩
theorem below_of_grown {w w' : World} (h : w.grownBy w' none) : Below w.heap.size w w' := ⟨h.os, h.tape, h.output, h.size, fun k hk => h.block k hk (by simp)⟩
theorem grown_drew {a b : World} (h : a.grownBy b none) : a.grownBy b.drew none := ⟨h.os, h.tape, h.output, h.size, h.block⟩
end Go.Proofs.Ytamnlifdfhmbnaa
/- What the walks of this seat stand on. -/
namespace Go.Proofs.Ytamnlifdfhmbnaa
open Go.RowKit
theorem infoU8 : (Try.prog.info? 5).map (fun i => (i.zero, i.size, i.bytes)) = some (some (.int .u8 0), 1, 1) := by kernel_rfl
end Go.Proofs.Ytamnlifdfhmbnaa
/- A block of three cells that the call itself made. -/
namespace Go.Proofs.Ytamnlifdfhmbnaa
open Go.RowKit
/-- Block g holds just these three cells. -/
def Box (w : World) (g : Nat) (x y z : Value) (T : TypeId) : Prop := w.heap[g]? = some (.cells #[x, y, z] T (0, 0))
theorem Box.lt {w : World} {g : Nat} {x y z : Value} {T : TypeId} (h : Box w g x y z T) : g < w.heap.size := by
  rcases Nat.lt_or_ge g w.heap.size with h1 | h1
  · exact h1
  · simp [Box, Array.getElem?_eq_none h1] at h
theorem Box.next {w w' : World} {g : Nat} {x y z : Value} {T : TypeId} (h : Box w g x y z T) (hb : Below w.heap.size w w') : Box w' g x y z T := (hb.block g h.lt).trans h
theorem Box.alloc {w : World} {g : Nat} {x y z : Value} {T : TypeId} (h : Box w g x y z T) (o : Obj) : Box (w.alloc o) g x y z T := (Below.heap_alloc w o g h.lt).trans h
theorem Box.new (w : World) (x y z : Value) (T : TypeId) : Box (w.alloc (.cells #[x, y, z] T)) w.heap.size x y z T := heap_alloc_new w _
theorem Box.cells {w : World} {g : Nat} {x y z : Value} {T : TypeId} (h : Box w g x y z T) : w.cell? ⟨g, 0, none⟩ = some x ∧ w.cell? ⟨g, 1, none⟩ = some y ∧ w.cell? ⟨g, 2, none⟩ = some z := by
  unfold Box at h
  refine ⟨?_, ?_, ?_⟩ <;> simp [World.cell?, h]
theorem Box.free {w : World} {g : Nat} {x y z : Value} {T : TypeId} (h : Box w g x y z T) : w.frozen? ⟨g, 0, none⟩ = false ∧ w.frozen? ⟨g, 1, none⟩ = false ∧ w.frozen? ⟨g, 2, none⟩ = false := by
  unfold Box at h
  refine ⟨?_, ?_, ?_⟩ <;> simp [World.frozen?, h]
theorem Box.drew {w : World} {g : Nat} {x y z : Value} {T : TypeId} (h : Box w g x y z T) : Box w.drew g x y z T := h
theorem Box.grown {w w' : World} {g : Nat} {x y z : Value} {T : TypeId} {row : Option Nat} (h : Box w g x y z T) (hg : w.grownBy w' row) (hne : some g ≠ row) : Box w' g x y z T := (hg.block g h.lt hne).trans h
theorem Box.far {w : World} {g : Nat} {x y z : Value} {T : TypeId} (h : Box w g x y z T) {a : Addr} (ha : g ≠ a.block) (u : Value) : Box (w.setCell a u) g x y z T := (Below.heap_setCell w a u g ha).trans h
theorem Box.set0 {w : World} {g : Nat} {x y z : Value} {T : TypeId} (h : Box w g x y z T) (u : Value) : Box (w.setCell ⟨g, 0, none⟩ u) g u y z T := by
  unfold Box at h ⊢; simp [World.setCell, Array.getElem?_modify, h]
theorem Box.set1 {w : World} {g : Nat} {x y z : Value} {T : TypeId} (h : Box w g x y z T) (u : Value) : Box (w.setCell ⟨g, 1, none⟩ u) g x u z T := by
  unfold Box at h ⊢; simp [World.setCell, Array.getElem?_modify, h]
theorem grown_setNew {w w' : World} {row : Option Nat} (h : w.grownBy w' row) {a : Addr} (ha : w.heap.size ≤ a.block) (u : Value) : w.grownBy (w'.setCell a u) row := by
  refine ⟨h.os, h.tape, h.output, by have := h.size; simpa [World.setCell] using this, fun k hk hne => ?_⟩
  rw [Below.heap_setCell _ _ _ _ (by omega)]
  exact h.block k hk hne
theorem size_set (w : World) (a : Addr) (u : Value) : (w.setCell a u).heap.size = w.heap.size := by simp [World.setCell]
end Go.Proofs.Ytamnlifdfhmbnaa
