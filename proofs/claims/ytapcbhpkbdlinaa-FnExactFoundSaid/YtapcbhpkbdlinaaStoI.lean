/- The program's sort of triples in a store's order. -/
import Derived.Test.YtapcbhpkbdlinaaSortT
import Derived.Test.YtapcbhpkbdlinaaStoC
namespace Go.Proofs.Ytapcbhpkbdlinaa
open Go.RowKit Go.Sort Go.Shelf
theorem ltH (h : Nat) (x y : Tri3) : ltOf (cmpH h) x y = aheadH h x y := ltT _ _
theorem swoH (h : Nat) : SWO (ltOf (cmpH h)) where
  irrefl x := by rw [ltH]; simp [aheadH_irrefl]
  trans x y z h1 h2 := by
    rw [ltH] at *
    exact aheadH_trans h1 h2
  ntrans x y z h1 h2 := by
    rw [ltH] at *
    cases g : aheadH h x z
    · simp
    · exfalso
      cases g1 : aheadH h z y
      · rw [aheadH_one h2 g1] at h1; rw [h1] at g; cases g
      · rw [aheadH_trans g g1] at h1; cases h1
theorem mergeH (h : Nat) (ts : List Tri3) : (ts.mergeSort fun x y => !(ltOf (cmpH h)) y x) = sortH h ts := by
  unfold sortH
  congr 1
  funext x y
  rw [ltH]
set_option maxRecDepth 100000 in
/-- The sort of a slice of triples that the call owns, in an order. -/
theorem sortPos (B bx : Nat) (v : Value) (ts : List Tri3) (w : World) (h : OwnT B w v ts) (hl : ts.length < 4611686018427387904) (hc : w.cell? ⟨bx, 0, none⟩ = some (.func (.func 99) #[] #[])) (hbx : bx < B) :
    Calls Try.prog 135 #[v, .func (.func 136) #[] #[.pointer (some ⟨bx, 0, none⟩)]] w fun e w' => e = .returned (.tuple #[]) ∧ OwnT B w' v (sortH 1 ts) ∧ w.grownBy w' v.ownBlock := by
  have h' := h
  rcases h'.2 with ⟨rfl, h0⟩ | ⟨g, cap, cur, rfl, hB, hb, h1, h2, h3, h4⟩
  · obtain rfl : ts = [] := List.length_eq_zero_iff.1 h0
    refine (AnyF.slices_SortFunc_none Try.sortTri none 0 _ w).mono ?_
    rintro e w' ⟨rfl, rfl⟩
    exact ⟨rfl, by rw [show sortH 1 [] = [] from by unfold sortH; simp]; exact h, World.grownBy.refl _ _⟩
  · have eg : ∀ args w, (callFunc 136 args).run Try.prog w = .ok (.enter 136 args) w := enters_of Try.func136 (by kernel_rfl) rfl
    have hcmp : CmpLays Try.prog 136 #[.pointer (some ⟨bx, 0, none⟩)] encL 3 (cmpH 1) g 0 ts.toArray.size w := fun m os dk hd x y => by
      have hcw : (sortWorldK encL 3 w g 0 m dk os).cell? ⟨bx, 0, none⟩ = some (.func (.func 99) #[] #[]) := by
        have hg : w.grownBy (sortWorldK encL 3 w g 0 m dk os) (some g) := grownBy_sortedK _
        exact hg.cell hc (by simp; omega)
      exact implByPos x.1 x.2.1 x.2.2 y.1 y.2.1 y.2.2 bx _ hcw
    have hS := AnyQ.slices_SortFunc_total Try.sortTri 3 aggTri sizeTri encL encL_len encL_one (cmpH 1) (swoH 1) _ #[.pointer (some ⟨bx, 0, none⟩)] g 0 cap ts.toArray w eg hcmp (holdsK_of_block hb h4) (Array.getElem?_eq_some_iff.1 hb).1 (by simpa using hl) (fun x y a b => by rw [ltH] at a b; exact aheadH_one a b)
    change Calls Try.prog 135 _ _ _ at hS
    rw [Array.size_eq_length_toList, List.toList_toArray] at hS
    refine hS.mono ?_
    rintro e w' ⟨rfl, n, os, rfl⟩
    rw [mergeH]
    exact ⟨rfl, own_sortedK (sortH_len 1 ts) hB hb h1 h2 h3, grownBy_sortedK _⟩
set_option maxRecDepth 100000 in
/-- The sort of a slice of triples that the call owns, in an order. -/
theorem sortOsp (B bx : Nat) (v : Value) (ts : List Tri3) (w : World) (h : OwnT B w v ts) (hl : ts.length < 4611686018427387904) (hc : w.cell? ⟨bx, 0, none⟩ = some (.func (.func 100) #[] #[])) (hbx : bx < B) :
    Calls Try.prog 135 #[v, .func (.func 136) #[] #[.pointer (some ⟨bx, 0, none⟩)]] w fun e w' => e = .returned (.tuple #[]) ∧ OwnT B w' v (sortH 2 ts) ∧ w.grownBy w' v.ownBlock := by
  have h' := h
  rcases h'.2 with ⟨rfl, h0⟩ | ⟨g, cap, cur, rfl, hB, hb, h1, h2, h3, h4⟩
  · obtain rfl : ts = [] := List.length_eq_zero_iff.1 h0
    refine (AnyF.slices_SortFunc_none Try.sortTri none 0 _ w).mono ?_
    rintro e w' ⟨rfl, rfl⟩
    exact ⟨rfl, by rw [show sortH 2 [] = [] from by unfold sortH; simp]; exact h, World.grownBy.refl _ _⟩
  · have eg : ∀ args w, (callFunc 136 args).run Try.prog w = .ok (.enter 136 args) w := enters_of Try.func136 (by kernel_rfl) rfl
    have hcmp : CmpLays Try.prog 136 #[.pointer (some ⟨bx, 0, none⟩)] encL 3 (cmpH 2) g 0 ts.toArray.size w := fun m os dk hd x y => by
      have hcw : (sortWorldK encL 3 w g 0 m dk os).cell? ⟨bx, 0, none⟩ = some (.func (.func 100) #[] #[]) := by
        have hg : w.grownBy (sortWorldK encL 3 w g 0 m dk os) (some g) := grownBy_sortedK _
        exact hg.cell hc (by simp; omega)
      exact implByOsp x.1 x.2.1 x.2.2 y.1 y.2.1 y.2.2 bx _ hcw
    have hS := AnyQ.slices_SortFunc_total Try.sortTri 3 aggTri sizeTri encL encL_len encL_one (cmpH 2) (swoH 2) _ #[.pointer (some ⟨bx, 0, none⟩)] g 0 cap ts.toArray w eg hcmp (holdsK_of_block hb h4) (Array.getElem?_eq_some_iff.1 hb).1 (by simpa using hl) (fun x y a b => by rw [ltH] at a b; exact aheadH_one a b)
    change Calls Try.prog 135 _ _ _ at hS
    rw [Array.size_eq_length_toList, List.toList_toArray] at hS
    refine hS.mono ?_
    rintro e w' ⟨rfl, n, os, rfl⟩
    rw [mergeH]
    exact ⟨rfl, own_sortedK (sortH_len 2 ts) hB hb h1 h2 h3, grownBy_sortedK _⟩
end Go.Proofs.Ytapcbhpkbdlinaa
