/- A row of triples that the library sorts: its cells, and what the sort leaves of them. -/
import Derived.Test.YtobmcngmcmhebaaPutM
import Derived.Test.YtobmcngmcmhebaaCmpT
import Derived.Test.YtobmcngmcmhebaaOwnG
import Derived.Shelf.SlSortCmp.NoneTotal
import Derived.Sort.OwnSorted
import Derived.Test.YtobmcngmcmhebaaSortL
import Derived.Test.YtobmcngmcmhebaaBox
namespace Go.Proofs.Ytobmcngmcmhebaa
open Go.RowKit Go.Sort Go.Shelf
theorem ltT (x y : Tri3) : ltOf cmpT x y = aheadT x y := by
  unfold ltOf cmpT
  cases h : aheadT x y
  · cases g : aheadT y x <;> simp
  · simp
theorem swoT : SWO (ltOf cmpT) where
  irrefl x := by rw [ltT]; simp [aheadT_irrefl]
  trans x y z h1 h2 := by
    rw [ltT] at *
    exact aheadT_trans h1 h2
  ntrans x y z h1 h2 := by
    rw [ltT] at *
    cases g : aheadT x z
    · simp
    · exfalso
      cases g1 : aheadT z y
      · rw [aheadT_one h2 g1] at h1; rw [h1] at g; cases g
      · rw [aheadT_trans g g1] at h1; cases h1
def encL (t : Tri3) : List Value := [.string t.1, .string t.2.1, .string t.2.2]
theorem encL_len (t : Tri3) : (encL t).length = 3 := rfl
theorem encL_one (t : Tri3) : ∀ v ∈ encL t, v.oneCell' = true := by
  intro v hv
  simp only [encL, List.mem_cons, List.not_mem_nil, or_false] at hv
  rcases hv with rfl | rfl | rfl <;> rfl
theorem flatK_flat (ts : List Tri3) : (flatK encL 3 ts.toArray).toList = flat ts := by
  apply List.ext_getElem?
  intro t
  obtain ⟨q, r, hr, rfl⟩ : ∃ q r, r < 3 ∧ t = q * 3 + r := ⟨t / 3, t % 3, by omega, by omega⟩
  rcases Nat.lt_or_ge q ts.length with hq | hq
  · have hf := flat_at ts q ts[q] (List.getElem?_eq_getElem hq)
    have h1 : (q * 3 + r) / 3 = q := by omega
    have h2 : (q * 3 + r) % 3 = r := by omega
    have h3 : q * 3 + r < ts.length * 3 := by omega
    have e1 : (flatK encL 3 ts.toArray).toList[q * 3 + r]? = some (encL ts[q])[r]! := by
      rw [Array.getElem?_toList]
      simp [flatK, h1, h2, h3, hq]
    rw [e1]
    have hm : r = 0 ∨ r = 1 ∨ r = 2 := by omega
    rcases hm with rfl | rfl | rfl
    · rw [Nat.add_zero, hf.1]; rfl
    · rw [hf.2.1]; rfl
    · rw [hf.2.2]; rfl
  · rw [List.getElem?_eq_none (by simp [flatK]; omega), List.getElem?_eq_none (by rw [flat_len]; omega)]
theorem holdsK_of_block {w : World} {g : Nat} {cur : Array Value} {e : TypeId} {ts : List Tri3} (hb : w.heap[g]? = some (.cells cur e (0, 0))) (ht : cur.toList.take (ts.length * 3) = flat ts) : HoldsK encL 3 w g 0 ts.toArray := by
  intro j hj
  have hj' : j < ts.length * 3 := by simpa using hj
  refine ⟨?_, by simp [World.frozen?, hb]⟩
  have h1 : (cur.toList.take (ts.length * 3))[j]? = (flat ts)[j]? := by rw [ht]
  rw [List.getElem?_take_of_lt hj', ← flatK_flat, Array.getElem?_toList, Array.getElem?_toList] at h1
  simp only [World.cell?, hb, Nat.zero_add]
  simp only [Option.isSome_none, Bool.false_eq_true, if_false]
  rw [h1, Array.getElem?_eq_getElem hj, getElem!_pos _ j hj]; rfl
theorem heap_sortedK {w : World} {g n : Nat} {os : Array Obj} {cur : Array Value} {e : TypeId} {fr : Nat × Nat} (F : Array Value) (hb : w.heap[g]? = some (.cells cur e fr)) :
    (grow (putRow id (Sort.ahead w n) g 0 F) os).heap[g]? = some (.cells (putCells id 0 F cur) e fr) := by
  have hg : g < w.heap.size := (Array.getElem?_eq_some_iff.1 hb).1
  rw [heap_grow_old _ _ (by simpa using hg)]
  simp [putRow, mapBlock, Sort.ahead, Array.getElem?_modify, hb, onCells]
theorem grownBy_sortedK {w : World} {g n : Nat} {os : Array Obj} (F : Array Value) : w.grownBy (grow (putRow id (Sort.ahead w n) g 0 F) os) (some g) := by
  refine ⟨rfl, rfl, rfl, by simp, fun k hk hne => ?_⟩
  rw [heap_grow_old _ _ (by simpa using hk)]
  have : g ≠ k := fun e => hne (by rw [e])
  simp [putRow, mapBlock, Sort.ahead, Array.getElem?_modify, this]
theorem take_putCellsK (cur F : Array Value) (h : F.size ≤ cur.size) : (putCells id 0 F cur).toList.take F.size = F.toList := by
  apply List.ext_getElem?
  intro j
  by_cases hj : j < F.size
  · rw [List.getElem?_take_of_lt hj, Array.getElem?_toList, Array.getElem?_toList]
    simp [putCells, hj, show j < cur.size by omega]
  · rw [List.getElem?_take_eq_none (by omega), List.getElem?_eq_none (by simp; omega)]
theorem own_sortedK {w : World} {B g cap n : Nat} {os : Array Obj} {cur : Array Value} {ss ts : List Tri3} (hl : ts.length = ss.length) (hbase : B ≤ g) (hb : w.heap[g]? = some (.cells cur 47 (0, 0)))
    (h1 : ss.length ≤ cap) (h2 : cap ≤ maxLen) (h3 : cur.size = cap * 3) :
    OwnT B (sortWorldK encL 3 w g 0 n ts.toArray os) (.slice (some ⟨g, 0, none⟩) ss.length cap) ts := by
  unfold OwnT sortWorldK putRowK
  rw [hl]
  refine ⟨by rw [flat_len, hl], .inr ⟨g, cap, _, rfl, hbase, heap_sortedK _ hb, h1, h2, by simp [putCells, h3], ?_⟩⟩
  have e : (flatK encL 3 ts.toArray).size = ss.length * 3 := by simp [hl]
  rw [← e, take_putCellsK _ _ (by rw [e, h3]; omega), flatK_flat]
open Go.RowKit Go.Sort Go.Shelf
theorem aggTri (w : World) : (isAgg 47).run Try.prog w = .ok true w := by simp [isAgg, run_underlying Try.underlying47]
theorem sizeTri (w : World) : (Go.sizeOf 47).run Try.prog w = .ok 3 w := by
  obtain ⟨i0, hi, hz0, hz1, hz2⟩ := info_parts infoTri
  rw [run_sizeOf w hi]
  exact congrArg (fun n => Result.ok n w) (by kernel_rfl)
theorem mergeT (ts : List Tri3) : (ts.mergeSort fun x y => !(ltOf cmpT) y x) = sortT ts := by
  unfold sortT
  congr 1
  funext x y
  rw [ltT]
set_option maxRecDepth 100000 in
/-- The sort of a slice of triples that the call owns. -/
theorem sortTris (B : Nat) (v : Value) (ts : List Tri3) (w : World) (h : OwnT B w v ts) (hl : ts.length < 4611686018427387904) :
    Calls Try.prog 47 #[v, .func (.func 44) #[] #[]] w fun e w' => e = .returned (.tuple #[]) ∧ OwnT B w' v (sortT ts) ∧ w.grownBy w' v.ownBlock := by
  have h' := h
  rcases h'.2 with ⟨rfl, h0⟩ | ⟨g, cap, cur, rfl, hB, hb, h1, h2, h3, h4⟩
  · obtain rfl : ts = [] := List.length_eq_zero_iff.1 h0
    refine (AnyF.slices_SortFunc_none Try.sortTri none 0 _ w).mono ?_
    rintro e w' ⟨rfl, rfl⟩
    exact ⟨rfl, by rw [show sortT [] = [] from by unfold sortT; simp]; exact h, World.grownBy.refl _ _⟩
  · have eg : ∀ args w, (callFunc 44 args).run Try.prog w = .ok (.enter 44 args) w := enters_of Try.func44 (by kernel_rfl) rfl
    have hcmp : CmpLays Try.prog 44 #[] encL 3 cmpT g 0 ts.toArray.size w := fun _ _ _ _ x y => implCompare x y _
    have hS := AnyQ.slices_SortFunc_total Try.sortTri 3 aggTri sizeTri encL encL_len encL_one cmpT swoT _ #[] g 0 cap ts.toArray w eg hcmp (holdsK_of_block hb h4) (Array.getElem?_eq_some_iff.1 hb).1 (by simpa using hl) (fun x y a b => by rw [ltT] at a b; exact aheadT_one a b)
    change Calls Try.prog 47 _ _ _ at hS
    rw [Array.size_eq_length_toList, List.toList_toArray] at hS
    refine hS.mono ?_
    rintro e w' ⟨rfl, n, os, rfl⟩
    rw [mergeT]
    exact ⟨rfl, own_sortedK (sortT_len ts) hB hb h1 h2 h3, grownBy_sortedK _⟩
end Go.Proofs.Ytobmcngmcmhebaa
