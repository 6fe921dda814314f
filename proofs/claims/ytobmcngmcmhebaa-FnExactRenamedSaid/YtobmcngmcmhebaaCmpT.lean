/- The program's comparison of triples: the world behind it, written out. -/
import Derived.Test.YtobmcngmcmhebaaPutM
import Derived.Test.YtobmcngmcmhebaaBox
import Derived.Sort.Grow
import Derived.Sort.WalkA
namespace Go.Proofs.Ytobmcngmcmhebaa
open Go.RowKit Go.Sort Go.Shelf
/-- Draws and new blocks alone, written out. -/
def GrowsD (w w' : World) : Prop := ∃ q os, w' = grow (w.drewN q) os
theorem GrowsD.refl (w : World) : GrowsD w w := ⟨0, #[], by rw [grow_empty]; rfl⟩
theorem GrowsD.trans {a b c : World} (h : GrowsD a b) (g : GrowsD b c) : GrowsD a c := by
  obtain ⟨q, os, rfl⟩ := h
  obtain ⟨r, os', rfl⟩ := g
  exact ⟨q + r, os ++ os', by rw [← grow_grow]; simp only [World.drewN, grow]; simp [Nat.add_assoc]⟩
theorem GrowsD.drew {a b : World} (h : GrowsD a b) : GrowsD a b.drew := h.trans ⟨1, #[], by rw [grow_empty]; rfl⟩
theorem GrowsD.drewN {a b : World} (h : GrowsD a b) (n : Nat) : GrowsD a (b.drewN n) := h.trans ⟨n, #[], by rw [grow_empty]⟩
theorem GrowsD.alloc {a b : World} (h : GrowsD a b) (o : Obj) : GrowsD a (b.alloc o) := h.trans ⟨0, #[o], by rw [alloc_eq_grow]; rfl⟩
theorem GrowsD.below {w w' : World} (h : GrowsD w w') : Below w.heap.size w w' := by
  obtain ⟨q, os, rfl⟩ := h
  refine ⟨rfl, rfl, rfl, by simp, fun k hk => ?_⟩
  simp [grow, World.drewN, Array.getElem?_append_left hk]
def cmpT (x y : Tri3) : Int := if aheadT x y = true then -1 else if aheadT y x = true then 1 else 0
set_option maxRecDepth 100000 in
theorem implAheadG (x y : Tri3) (w : World) :
    Calls Try.prog 35 #[.agg #[.string x.1, .string x.2.1, .string x.2.2], .agg #[.string y.1, .string y.2.1, .string y.2.2]] w fun e w' => e = .returned (.bool (aheadT x y)) ∧ GrowsD w w' := by
  obtain ⟨s, p, o⟩ := x
  obtain ⟨s', p', o'⟩ := y
  by_cases h1 : s = s'
  · by_cases h2 : p = p'
    · have e1 : (s.toList == s'.toList) = true := by rw [h1]; simp
      have e2 : (p.toList == p'.toList) = true := by rw [h2]; simp
      have HR : Hid (aheadT (s, p, o) (s', p', o') = Op.bytesLess o.toList o'.toList) := Lib.hid (by
        unfold aheadT aheadL; rw [if_pos (by rw [h1]), if_pos (by rw [h2]), ByteArray.toList_eq, ByteArray.toList_eq])
      clear h1 h2
      go_enter Try.func35, Try.ntmps35
      go_wp2_with fail
      go_ret
      exact ⟨by rw [HR.out]; rfl, ((GrowsD.refl _).alloc _).alloc _⟩
    · have e1 : (s.toList == s'.toList) = true := by rw [h1]; simp
      have e2 : (p.toList == p'.toList) = false := by rw [beq_eq_false_iff_ne, ByteArray.toList_eq, ByteArray.toList_eq]; exact fun h => h2 (data_inj h)
      have HR : Hid (aheadT (s, p, o) (s', p', o') = Op.bytesLess p.toList p'.toList) := Lib.hid (by
        unfold aheadT aheadL; rw [if_pos (by rw [h1]), if_neg (fun h => h2 (data_inj h)), ByteArray.toList_eq, ByteArray.toList_eq])
      clear h1 h2
      go_enter Try.func35, Try.ntmps35
      go_wp2_with fail
      go_ret
      exact ⟨by rw [HR.out]; rfl, ((GrowsD.refl _).alloc _).alloc _⟩
  · have e1 : (s.toList == s'.toList) = false := by rw [beq_eq_false_iff_ne, ByteArray.toList_eq, ByteArray.toList_eq]; exact fun h => h1 (data_inj h)
    have HR : Hid (aheadT (s, p, o) (s', p', o') = Op.bytesLess s.toList s'.toList) := Lib.hid (by
      unfold aheadT aheadL; rw [if_neg (fun h => h1 (data_inj h)), ByteArray.toList_eq, ByteArray.toList_eq])
    clear h1
    go_enter Try.func35, Try.ntmps35
    go_wp2_with fail
    go_ret
    exact ⟨by rw [HR.out]; rfl, ((GrowsD.refl _).alloc _).alloc _⟩
set_option maxRecDepth 100000 in
theorem implCompare (x y : Tri3) (w : World) :
    Calls Try.prog 44 #[.agg #[.string x.1, .string x.2.1, .string x.2.2], .agg #[.string y.1, .string y.2.1, .string y.2.2]] w fun e w' => e = .returned (.int .i64 (cmpT x y)) ∧ GrowsD w w' := by
  have A1 := implAheadG x y
  have A2 := implAheadG y x
  cases h1 : aheadT x y
  · cases h2 : aheadT y x
    · have HR : Hid (cmpT x y = 0) := Lib.hid (by unfold cmpT; rw [h1, h2]; rfl)
      rw [h1] at A1
      rw [h2] at A2
      have C1 := Lib.hid A1
      have C2 := Lib.hid A2
      clear A1 A2 h1 h2
      go_enter Try.func44, Try.ntmps44
      go_wp2_with fail
      refine (C1.out _).mono ?_
      rintro e w1 ⟨rfl, g1⟩
      have X1 := ((Box.new w (.string x.1) (.string x.2.1) (.string x.2.2) 47).alloc (.cells #[.string y.1, .string y.2.1, .string y.2.2] 47)).next g1.below
      have Y1 := (Box.new (w.alloc (.cells #[.string x.1, .string x.2.1, .string x.2.2] 47)) (.string y.1) (.string y.2.1) (.string y.2.2) 47).next g1.below
      rw [World.size_alloc] at Y1
      obtain ⟨a0, a1, a2⟩ := X1.cells
      obtain ⟨b0, b1, b2⟩ := Y1.cells
      have G1 := ((GrowsD.refl w).alloc (.cells #[.string x.1, .string x.2.1, .string x.2.2] 47)).alloc (.cells #[.string y.1, .string y.2.1, .string y.2.2] 47) |>.trans g1
      clear X1 Y1 g1
      go_wp2_with fail
      refine (C2.out _).mono ?_
      rintro e w2 ⟨rfl, g2⟩
      go_wp2_with fail
      go_ret
      exact ⟨by rw [HR.out]; rfl, G1.trans g2⟩
    · have HR : Hid (cmpT x y = 1) := Lib.hid (by unfold cmpT; rw [h1, h2]; rfl)
      rw [h1] at A1
      rw [h2] at A2
      have C1 := Lib.hid A1
      have C2 := Lib.hid A2
      clear A1 A2 h1 h2
      go_enter Try.func44, Try.ntmps44
      go_wp2_with fail
      refine (C1.out _).mono ?_
      rintro e w1 ⟨rfl, g1⟩
      have X1 := ((Box.new w (.string x.1) (.string x.2.1) (.string x.2.2) 47).alloc (.cells #[.string y.1, .string y.2.1, .string y.2.2] 47)).next g1.below
      have Y1 := (Box.new (w.alloc (.cells #[.string x.1, .string x.2.1, .string x.2.2] 47)) (.string y.1) (.string y.2.1) (.string y.2.2) 47).next g1.below
      rw [World.size_alloc] at Y1
      obtain ⟨a0, a1, a2⟩ := X1.cells
      obtain ⟨b0, b1, b2⟩ := Y1.cells
      have G1 := ((GrowsD.refl w).alloc (.cells #[.string x.1, .string x.2.1, .string x.2.2] 47)).alloc (.cells #[.string y.1, .string y.2.1, .string y.2.2] 47) |>.trans g1
      clear X1 Y1 g1
      go_wp2_with fail
      refine (C2.out _).mono ?_
      rintro e w2 ⟨rfl, g2⟩
      go_wp2_with fail
      go_ret
      exact ⟨by rw [HR.out]; rfl, G1.trans g2⟩
  · have HR : Hid (cmpT x y = -1) := Lib.hid (by unfold cmpT; rw [h1]; rfl)
    rw [h1] at A1
    have C1 := Lib.hid A1
    clear A1 A2 h1
    go_enter Try.func44, Try.ntmps44
    go_wp2_with fail
    refine (C1.out _).mono ?_
    rintro e w1 ⟨rfl, g1⟩
    go_wp2_with fail
    go_ret
    exact ⟨by rw [HR.out]; rfl, (((GrowsD.refl w).alloc _).alloc _).trans g1⟩
end Go.Proofs.Ytobmcngmcmhebaa
