/- The library's sort of a slice of triples, under the program's own comparison. -/
import Derived.Test.YteejpceliodcfaaSortM
import Derived.Test.YteejpceliodcfaaSortL
import Derived.Test.YteejpceliodcfaaBox
namespace Go.Proofs.Yteejpceliodcfaa
open Go.RowKit Go.Sort Go.Shelf
theorem aggTri (w : World) : (isAgg 46).run Try.prog w = .ok true w := by simp [isAgg, run_underlying Try.underlying46]
theorem sizeTri (w : World) : (Go.sizeOf 46).run Try.prog w = .ok 3 w := by
  obtain ⟨i0, hi, hz0, hz1, hz2⟩ := info_parts infoTri
  rw [run_sizeOf w hi]
  exact congrArg (fun n => Result.ok n w) (by kernel_rfl)
theorem mergeT (ts : List Tri3) : (ts.mergeSort fun x y => !(ltOf cmpT) y x) = sortT ts := by
  unfold sortT
  congr 1
  funext x y
  rw [ltT]
set_option maxRecDepth 100000 in
/-- The sort of a slice of triples that the call owns. -/
theorem sortTris (B : Nat) (v : Value) (ts : List Tri3) (w : World) (h : OwnT B w v ts) (hl : ts.length < 4611686018427387904) :
    Calls Try.prog 107 #[v, .func (.func 109) #[] #[]] w fun e w' => e = .returned (.tuple #[]) ∧ OwnT B w' v (sortT ts) ∧ w.grownBy w' v.ownBlock := by
  have h' := h
  rcases h'.2 with ⟨rfl, h0⟩ | ⟨g, cap, cur, rfl, hB, hb, h1, h2, h3, h4⟩
  · obtain rfl : ts = [] := List.length_eq_zero_iff.1 h0
    refine (AnyF.slices_SortFunc_none Try.sortTri none 0 _ w).mono ?_
    rintro e w' ⟨rfl, rfl⟩
    exact ⟨rfl, by rw [show sortT [] = [] from by unfold sortT; simp]; exact h, World.grownBy.refl _ _⟩
  · have eg : ∀ args w, (callFunc 109 args).run Try.prog w = .ok (.enter 109 args) w := enters_of Try.func109 (by kernel_rfl) rfl
    have hcmp : CmpLays Try.prog 109 #[] encL 3 cmpT g 0 ts.toArray.size w := fun _ _ _ _ x y => implCompare x y _
    have hS := AnyQ.slices_SortFunc_total Try.sortTri 3 aggTri sizeTri encL encL_len encL_one cmpT swoT _ #[] g 0 cap ts.toArray w eg hcmp (holdsK_of_block hb h4) (Array.getElem?_eq_some_iff.1 hb).1 (by simpa using hl) (fun x y a b => by rw [ltT] at a b; exact aheadT_one a b)
    change Calls Try.prog 107 _ _ _ at hS
    rw [Array.size_eq_length_toList, List.toList_toArray] at hS
    refine hS.mono ?_
    rintro e w' ⟨rfl, n, os, rfl⟩
    rw [mergeT]
    exact ⟨rfl, own_sortedK (sortT_len ts) hB hb h1 h2 h3, grownBy_sortedK _⟩
end Go.Proofs.Yteejpceliodcfaa
