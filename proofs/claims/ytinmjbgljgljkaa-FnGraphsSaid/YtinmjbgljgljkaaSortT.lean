/- The library's sort of a slice of triples, under the program's own comparison. -/
import Derived.Test.YtinmjbgljgljkaaSortM
import Derived.Test.YtinmjbgljgljkaaSortL
import Derived.Test.YtinmjbgljgljkaaBox
namespace Go.Proofs.Ytinmjbgljgljkaa
open Go.RowKit Go.Sort Go.Shelf
set_option maxRecDepth 100000 in
theorem implAheadG (x y : Tri3) (w : World) :
    Calls Try.prog 56 #[.agg #[.string x.1, .string x.2.1, .string x.2.2], .agg #[.string y.1, .string y.2.1, .string y.2.2]] w fun e w' => e = .returned (.bool (aheadT x y)) ∧ GrowsD w w' := by
  obtain ⟨s, p, o⟩ := x
  obtain ⟨s', p', o'⟩ := y
  by_cases h1 : s = s'
  · by_cases h2 : p = p'
    · have e1 : (s.toList == s'.toList) = true := by rw [h1]; simp
      have e2 : (p.toList == p'.toList) = true := by rw [h2]; simp
      have HR : Hid (aheadT (s, p, o) (s', p', o') = Op.bytesLess o.toList o'.toList) := Lib.hid (by
        unfold aheadT aheadL; rw [if_pos (by rw [h1]), if_pos (by rw [h2]), ByteArray.toList_eq, ByteArray.toList_eq])
      clear h1 h2
      go_enter Try.func56, Try.ntmps56
      go_wp2_with fail
      go_ret
      exact ⟨by rw [HR.out]; rfl, ((GrowsD.refl _).alloc _).alloc _⟩
    · have e1 : (s.toList == s'.toList) = true := by rw [h1]; simp
      have e2 : (p.toList == p'.toList) = false := by rw [beq_eq_false_iff_ne, ByteArray.toList_eq, ByteArray.toList_eq]; exact fun h => h2 (data_inj h)
      have HR : Hid (aheadT (s, p, o) (s', p', o') = Op.bytesLess p.toList p'.toList) := Lib.hid (by
        unfold aheadT aheadL; rw [if_pos (by rw [h1]), if_neg (fun h => h2 (data_inj h)), ByteArray.toList_eq, ByteArray.toList_eq])
      clear h1 h2
      go_enter Try.func56, Try.ntmps56
      go_wp2_with fail
      go_ret
      exact ⟨by rw [HR.out]; rfl, ((GrowsD.refl _).alloc _).alloc _⟩
  · have e1 : (s.toList == s'.toList) = false := by rw [beq_eq_false_iff_ne, ByteArray.toList_eq, ByteArray.toList_eq]; exact fun h => h1 (data_inj h)
    have HR : Hid (aheadT (s, p, o) (s', p', o') = Op.bytesLess s.toList s'.toList) := Lib.hid (by
      unfold aheadT aheadL; rw [if_neg (fun h => h1 (data_inj h)), ByteArray.toList_eq, ByteArray.toList_eq])
    clear h1
    go_enter Try.func56, Try.ntmps56
    go_wp2_with fail
    go_ret
    exact ⟨by rw [HR.out]; rfl, ((GrowsD.refl _).alloc _).alloc _⟩
set_option maxRecDepth 100000 in
theorem implCompare (x y : Tri3) (w : World) :
    Calls Try.prog 96 #[.agg #[.string x.1, .string x.2.1, .string x.2.2], .agg #[.string y.1, .string y.2.1, .string y.2.2]] w fun e w' => e = .returned (.int .i64 (cmpT x y)) ∧ GrowsD w w' := by
  have A1 := implAheadG x y
  have A2 := implAheadG y x
  cases h1 : aheadT x y
  · cases h2 : aheadT y x
    · have HR : Hid (cmpT x y = 0) := Lib.hid (by unfold cmpT; rw [h1, h2]; rfl)
      rw [h1] at A1
      rw [h2] at A2
      have C1 := Lib.hid A1
      have C2 := Lib.hid A2
      clear A1 A2 h1 h2
      go_enter Try.func96, Try.ntmps96
      go_wp2_with fail
      refine (C1.out _).mono ?_
      rintro e w1 ⟨rfl, g1⟩
      have X1 := ((Box.new w (.string x.1) (.string x.2.1) (.string x.2.2) 33).alloc (.cells #[.string y.1, .string y.2.1, .string y.2.2] 33)).next g1.below
      have Y1 := (Box.new (w.alloc (.cells #[.string x.1, .string x.2.1, .string x.2.2] 33)) (.string y.1) (.string y.2.1) (.string y.2.2) 33).next g1.below
      rw [World.size_alloc] at Y1
      obtain ⟨a0, a1, a2⟩ := X1.cells
      obtain ⟨b0, b1, b2⟩ := Y1.cells
      have G1 := ((GrowsD.refl w).alloc (.cells #[.string x.1, .string x.2.1, .string x.2.2] 33)).alloc (.cells #[.string y.1, .string y.2.1, .string y.2.2] 33) |>.trans g1
      clear X1 Y1 g1
      go_wp2_with fail
      refine (C2.out _).mono ?_
      rintro e w2 ⟨rfl, g2⟩
      go_wp2_with fail
      go_ret
      exact ⟨by rw [HR.out]; rfl, G1.trans g2⟩
    · have HR : Hid (cmpT x y = 1) := Lib.hid (by unfold cmpT; rw [h1, h2]; rfl)
      rw [h1] at A1
      rw [h2] at A2
      have C1 := Lib.hid A1
      have C2 := Lib.hid A2
      clear A1 A2 h1 h2
      go_enter Try.func96, Try.ntmps96
      go_wp2_with fail
      refine (C1.out _).mono ?_
      rintro e w1 ⟨rfl, g1⟩
      have X1 := ((Box.new w (.string x.1) (.string x.2.1) (.string x.2.2) 33).alloc (.cells #[.string y.1, .string y.2.1, .string y.2.2] 33)).next g1.below
      have Y1 := (Box.new (w.alloc (.cells #[.string x.1, .string x.2.1, .string x.2.2] 33)) (.string y.1) (.string y.2.1) (.string y.2.2) 33).next g1.below
      rw [World.size_alloc] at Y1
      obtain ⟨a0, a1, a2⟩ := X1.cells
      obtain ⟨b0, b1, b2⟩ := Y1.cells
      have G1 := ((GrowsD.refl w).alloc (.cells #[.string x.1, .string x.2.1, .string x.2.2] 33)).alloc (.cells #[.string y.1, .string y.2.1, .string y.2.2] 33) |>.trans g1
      clear X1 Y1 g1
      go_wp2_with fail
      refine (C2.out _).mono ?_
      rintro e w2 ⟨rfl, g2⟩
      go_wp2_with fail
      go_ret
      exact ⟨by rw [HR.out]; rfl, G1.trans g2⟩
  · have HR : Hid (cmpT x y = -1) := Lib.hid (by unfold cmpT; rw [h1]; rfl)
    rw [h1] at A1
    have C1 := Lib.hid A1
    clear A1 A2 h1
    go_enter Try.func96, Try.ntmps96
    go_wp2_with fail
    refine (C1.out _).mono ?_
    rintro e w1 ⟨rfl, g1⟩
    go_wp2_with fail
    go_ret
    exact ⟨by rw [HR.out]; rfl, (((GrowsD.refl w).alloc _).alloc _).trans g1⟩
theorem aggTri (w : World) : (isAgg 33).run Try.prog w = .ok true w := by simp [isAgg, run_underlying Try.underlying33]
theorem sizeTri (w : World) : (Go.sizeOf 33).run Try.prog w = .ok 3 w := by
  obtain ⟨i0, hi, hz0, hz1, hz2⟩ := info_parts infoTri
  rw [run_sizeOf w hi]
  exact congrArg (fun n => Result.ok n w) (by kernel_rfl)
theorem mergeT (ts : List Tri3) : (ts.mergeSort fun x y => !(ltOf cmpT) y x) = sortT ts := by
  unfold sortT
  congr 1
  funext x y
  rw [ltT]
set_option maxRecDepth 100000 in
/-- The sort of a slice of triples that the call owns. -/
theorem sortTris (B : Nat) (v : Value) (ts : List Tri3) (w : World) (h : OwnT B w v ts) (hl : ts.length < 4611686018427387904) :
    Calls Try.prog 105 #[v, .func (.func 96) #[] #[]] w fun e w' => e = .returned (.tuple #[]) ∧ OwnT B w' v (sortT ts) ∧ w.grownBy w' v.ownBlock := by
  have h' := h
  rcases h'.2 with ⟨rfl, h0⟩ | ⟨g, cap, cur, rfl, hB, hb, h1, h2, h3, h4⟩
  · obtain rfl : ts = [] := List.length_eq_zero_iff.1 h0
    refine (AnyF.slices_SortFunc_none Try.sortTri none 0 _ w).mono ?_
    rintro e w' ⟨rfl, rfl⟩
    exact ⟨rfl, by rw [show sortT [] = [] from by unfold sortT; simp]; exact h, World.grownBy.refl _ _⟩
  · have eg : ∀ args w, (callFunc 96 args).run Try.prog w = .ok (.enter 96 args) w := enters_of Try.func96 (by kernel_rfl) rfl
    have hcmp : CmpLays Try.prog 96 #[] encL 3 cmpT g 0 ts.toArray.size w := fun _ _ _ _ x y => implCompare x y _
    have hS := AnyQ.slices_SortFunc_total Try.sortTri 3 aggTri sizeTri encL encL_len encL_one cmpT swoT _ #[] g 0 cap ts.toArray w eg hcmp (holdsK_of_block hb h4) (Array.getElem?_eq_some_iff.1 hb).1 (by simpa using hl) (fun x y a b => by rw [ltT] at a b; exact aheadT_one a b)
    change Calls Try.prog 105 _ _ _ at hS
    rw [Array.size_eq_length_toList, List.toList_toArray] at hS
    refine hS.mono ?_
    rintro e w' ⟨rfl, n, os, rfl⟩
    rw [mergeT]
    exact ⟨rfl, own_sortedK (sortT_len ts) hB hb h1 h2 h3, grownBy_sortedK _⟩
end Go.Proofs.Ytinmjbgljgljkaa
