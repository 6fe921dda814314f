/- The walk of FnAhead. -/
import Derived.Test.YtfigcefdkdlcaaaFrame
import Derived.Test.YtfigcefdkdlcaaaDrawAhead
import Derived.Test.YtfigcefdkdlcaaaAheadM
import Derived.Test.YtfigcefdkdlcaaaTriEq
namespace Go.Proofs.Ytfigcefdkdlcaaa
open Go.RowKit Go.WideShapes
namespace fnAhead
set_option maxRecDepth 100000 in
set_option maxHeartbeats 1600000 in
theorem walk (a : Option Addr) (len cap : Nat) (zs : List Int) (w : World) (hrow : Frame.IsRow .u8 w a len cap zs) :
    Calls Try.prog 6 #[.slice a len cap] w fun e w' => e = .returned (.bool true) ∧ Below w.heap.size w w' := by
  have hlen : len ≤ 9223372036854775807 := by
    rcases hrow with ⟨_, rfl, _⟩ | ⟨y, _, h1, h2, _⟩
    · omega
    · unfold maxLen at h2; omega
  by_cases hbig : (1048576 : Int) < len
  · go_enter Try.func6, Try.ntmps6
    go_wp2_with go_in
    go_ret
    exact ⟨rfl, Below.refl _ _⟩
  go_enter Try.func6, Try.ntmps6
  go_wp2_with (go_at_call 15; go_in)
  refine (drawAhead _ _ _ _ _ hrow).mono ?_
  rintro e w1 ⟨s, p, o, s', p', o', rfl, hg1⟩
  have X1 := (Box.new w1 (.string s) (.string p) (.string o) 30).alloc (.cells #[.string s', .string p', .string o'] 30)
  have Y1 := Box.new (w1.alloc (.cells #[.string s, .string p, .string o] 30)) (.string s') (.string p') (.string o') 30
  have e0 : (w1.alloc (.cells #[.string s, .string p, .string o] 30)).heap.size = w1.heap.size + 1 := by simp
  rw [e0] at Y1
  have G1 := (hg1.trans (World.grownBy_alloc w1 (.cells #[.string s, .string p, .string o] 30) none)).trans (World.grownBy_alloc _ (.cells #[.string s', .string p', .string o'] 30) none)
  clear hg1 e0
  have hgd := fun op x y xs ys wx => run_eqGuard_agg (P := Try.prog) wx op 30 x y xs ys tri_guard
  have A1 := implAhead s p o s' p' o'
  have A2 := implAhead s' p' o' s p o
  have A3 := specAhead s p o s' p' o'
  have M1 := ahead_both s.data.toList p.data.toList o.data.toList s'.data.toList p'.data.toList o'.data.toList
  have M2 := ahead_one s.data.toList p.data.toList o.data.toList s'.data.toList p'.data.toList o'.data.toList
  have hne := tri_ne s p o s' p' o'
  simp only [ByteArray.toList_eq] at hne
  rw [← M2] at hne
  clear M2
  generalize aheadL s.data.toList p.data.toList o.data.toList s'.data.toList p'.data.toList o'.data.toList = x at A1 A3 M1 hne
  generalize aheadL s'.data.toList p'.data.toList o'.data.toList s.data.toList p.data.toList o.data.toList = y at A2 M1 hne
  have HNE := Lib.hid hne
  have C1 := Lib.hid A1
  have C2 := Lib.hid A2
  have C3 := Lib.hid A3
  clear A1 A2 A3 hne
  have l1 := X1.lt
  go_wp2_with fail
  refine (C1.out _).mono ?_
  rintro e w2 ⟨rfl, hb2⟩
  have X2 := X1.next hb2
  have Y2 := Y1.next hb2
  have G2 := G1.trans (grown_of_below hb2)
  clear hb2 X1 Y1 G1
  obtain ⟨c0, c1, c2⟩ := X2.cells
  obtain ⟨d0, d1, d2⟩ := Y2.cells
  go_wp2_with fail
  refine (C2.out _).mono ?_
  clear c0 c1 c2 d0 d1 d2
  rintro e w3 ⟨rfl, hb3⟩
  have X3 := X2.next hb3
  have Y3 := Y2.next hb3
  have G3 := G2.trans (grown_of_below hb3)
  clear hb3 X2 Y2 G2
  obtain ⟨c0, c1, c2⟩ := X3.cells
  obtain ⟨d0, d1, d2⟩ := Y3.cells
  go_wp2_with fail
  refine (C3.out _).mono ?_
  clear c0 c1 c2 d0 d1 d2
  rintro e w4 ⟨rfl, hb4⟩
  have X4 := X3.next hb4
  have Y4 := Y3.next hb4
  have G4 := G3.trans (grown_of_below hb4)
  clear hb4 X3 Y3 G3 C1 C2 C3
  obtain ⟨c0, c1, c2⟩ := X4.cells
  obtain ⟨d0, d1, d2⟩ := Y4.cells
  have hne := HNE.out
  cases x <;> cases y
  all_goals first
    | (exact absurd M1 (by decide))
    | (simp only [Bool.or_false, Bool.or_true, Bool.or_self] at hne
       go_wp2_with fail
       go_ret
       exact ⟨rfl, below_of_grown G4⟩)
end fnAhead
end Go.Proofs.Ytfigcefdkdlcaaa
