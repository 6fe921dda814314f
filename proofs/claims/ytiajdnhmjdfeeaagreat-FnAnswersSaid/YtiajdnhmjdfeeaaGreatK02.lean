/- What the drawn patterns are: texts of a bounded length.; A slice of triples that came in: what its cells hold.; The contracts of the exact laws' own helpers on one triple. -/
import Derived.Test.YtiajdnhmjdfeeaaGreatK01
import Derived.Test.YtiajdnhmjdfeeaaGreatK00
import Derived.Deep.Slices
namespace Go.Proofs.YtiajdnhmjdfeeaaGreat
open Go.RowKit Go.WideShapes
set_option maxHeartbeats 400000 in
theorem rdVariable (B g : Nat) (w : World) (h : Rd B w g) :
    Calls Tryz.prog 154 #[.pointer (some ⟨g, 0, none⟩)] w fun e w' => ∃ s : ByteArray, 1 ≤ s.size ∧ s.size ≤ 6 ∧ e = .returned (.string s) ∧ Rd B w' g ∧ w.grownBy w' (some g) := by
  have hgw := h.2.1
  go_enter Tryz.func154, Tryz.ntmps154
  go_wp2_with fail
  refine (rdBelow B g _ (h.alloc _) 3 (by omega) (by omega)).mono ?_
  rintro e w1 ⟨m, hm, hm2, rfl, hr, hg⟩
  obtain ⟨m, rfl⟩ := Int.eq_ofNat_of_zero_le hm
  obtain ⟨s, hs, hc⟩ := strs_cell hg hgw 1 6 rfl m (by simp; omega)
  go_wp2_with fail
  go_ret
  exact ⟨s, hs.1, hs.2, rfl, hr, ((World.grownBy_alloc _ _ _).trans hg)⟩
set_option maxRecDepth 100000 in
set_option maxHeartbeats 3200000 in
theorem rdPattern (B g : Nat) (w : World) (h : Rd B w g) :
    Calls Tryz.prog 139 #[.pointer (some ⟨g, 0, none⟩)] w fun e w' => ∃ s p o : ByteArray, s.size ≤ 20 ∧ p.size ≤ 20 ∧ o.size ≤ 20 ∧ e = .returned (.agg #[.string s, .string p, .string o]) ∧ Rd B w' g ∧ w.grownBy w' (some g) := by
  have hgw := h.2.1
  have hB := h.1
  have R0 := Box.new w (.string ⟨#[]⟩) (.string ⟨#[]⟩) (.string ⟨#[]⟩) 65
  have G0 := World.grownBy_alloc w (.cells #[.string ⟨#[]⟩, .string ⟨#[]⟩, .string ⟨#[]⟩] 65) (some g)
  go_enter Tryz.func139, Tryz.ntmps139
  go_wp2_with fail
  refine (rdTriple B g _ (h.alloc _)).mono ?_
  rintro e w1 ⟨s, p, o, ⟨_, hs⟩, hp, ho, rfl, hr1, hg1⟩
  have R1 := R0.grown hg1 (by simp; omega)
  have G1 := G0.trans hg1
  have l1 := R1.lt
  clear hg1 R0 G0
  have T1 := Box.new w1 (.string s) (.string p) (.string o) 65
  have R2 := R1.alloc (.cells #[.string s, .string p, .string o] 65)
  have G2 := G1.trans (World.grownBy_alloc w1 (.cells #[.string s, .string p, .string o] 65) (some g))
  have hr2 := hr1.alloc (.cells #[.string s, .string p, .string o] 65)
  clear R1 G1 hr1
  go_wp2_with fail
  generalize hA : w1.alloc (.cells #[.string s, .string p, .string o] 65) = wz at T1 R2 G2 hr2 ⊢
  clear hA
  generalize w1.heap.size = tb at T1 l1 ⊢
  refine (rdOnce B g _ hr2 2 (by omega) (by omega)).mono ?_
  rintro e wz ⟨b, rfl, hr, hg⟩
  have R := R2.grown hg (by simp; omega)
  have T := T1.grown hg (by simp; omega)
  have G := G2.trans hg
  clear hg R2 T1 G2 hr2
  cases b
  case' true =>
    obtain ⟨c0, c1, c2⟩ := T.cells
    obtain ⟨f0, f1, f2⟩ := T.free
    go_wp2_with fail
    refine (rdVariable B g _ hr).mono ?_
    rintro e wy ⟨x, _, hx, rfl, hr', hg⟩
    have R2 := (R.grown hg (by simp; omega)).far (a := ⟨tb, 0, none⟩) (by simp; omega) (.string x)
    have T' := T.grown hg (by simp; omega)
    have G2 := grown_setNew (G.trans hg) (a := ⟨tb, 0, none⟩) (by simp; omega) (.string x)
    have hr2 := hr'.setFar (a := ⟨tb, 0, none⟩) (by simp; omega) (by simp; omega) (.string x)
    clear hg R T G hr hr' c0 c1 c2 f0 f1 f2 hs
    obtain ⟨c0, c1, c2⟩ := T'.cells
    obtain ⟨f0, f1, f2⟩ := T'.free
    have T1 := T'.set0 (.string x)
    have hs : x.size ≤ 20 := by omega
    clear T'
    go_wp2_with fail
    clear c0 c1 c2 f0 f1 f2 hx
    generalize wy.setCell ⟨tb, 0, none⟩ (.string x) = wz at R2 T1 G2 hr2 ⊢
    obtain ⟨s, rfl⟩ : ∃ z, z = x := ⟨_, rfl⟩
  case' false =>
    go_wp2_with fail
    have R2 := R
    have T1 := T
    have G2 := G
    have hr2 := hr
    clear R T G hr
  all_goals
    refine (rdOnce B g _ hr2 5 (by omega) (by omega)).mono ?_
    rintro e wz ⟨b, rfl, hr, hg⟩
    have R := R2.grown hg (by simp; omega)
    have T := T1.grown hg (by simp; omega)
    have G := G2.trans hg
    clear hg R2 T1 G2 hr2
    cases b
    case' true =>
      obtain ⟨c0, c1, c2⟩ := T.cells
      obtain ⟨f0, f1, f2⟩ := T.free
      go_wp2_with fail
      refine (rdVariable B g _ hr).mono ?_
      rintro e wy ⟨x, _, hx, rfl, hr', hg⟩
      have R2 := (R.grown hg (by simp; omega)).far (a := ⟨tb, 1, none⟩) (by simp; omega) (.string x)
      have T' := T.grown hg (by simp; omega)
      have G2 := grown_setNew (G.trans hg) (a := ⟨tb, 1, none⟩) (by simp; omega) (.string x)
      have hr2 := hr'.setFar (a := ⟨tb, 1, none⟩) (by simp; omega) (by simp; omega) (.string x)
      clear hg R T G hr hr' c0 c1 c2 f0 f1 f2 hp
      obtain ⟨c0, c1, c2⟩ := T'.cells
      obtain ⟨f0, f1, f2⟩ := T'.free
      have T1 := T'.set1 (.string x)
      have hp : x.size ≤ 20 := by omega
      clear T'
      go_wp2_with fail
      clear c0 c1 c2 f0 f1 f2 hx
      generalize wy.setCell ⟨tb, 1, none⟩ (.string x) = wz at R2 T1 G2 hr2 ⊢
      obtain ⟨p, rfl⟩ : ∃ z, z = x := ⟨_, rfl⟩
    case' false =>
      go_wp2_with fail
      have R2 := R
      have T1 := T
      have G2 := G
      have hr2 := hr
      clear R T G hr
    all_goals
      refine (rdOnce B g _ hr2 3 (by omega) (by omega)).mono ?_
      rintro e wz ⟨b, rfl, hr, hg⟩
      have R := R2.grown hg (by simp; omega)
      have T := T1.grown hg (by simp; omega)
      have G := G2.trans hg
      clear hg R2 T1 G2 hr2
      cases b
      case' false =>
        obtain ⟨c0, c1, c2⟩ := T.cells
        obtain ⟨f0, f1, f2⟩ := T.free
        go_wp2_with fail
        refine (rdVariable B g _ hr).mono ?_
        rintro e wy ⟨x, _, hx, rfl, hr', hg⟩
        have R' := R.grown hg (by simp; omega)
        have R2 := R'.far (a := ⟨tb, 2, none⟩) (by simp; omega) (.string x)
        have T' := T.grown hg (by simp; omega)
        have G2 := grown_setNew (G.trans hg) (a := ⟨tb, 2, none⟩) (by simp; omega) (.string x)
        have hr2 := hr'.setFar (a := ⟨tb, 2, none⟩) (by simp; omega) (by simp; omega) (.string x)
        clear hg R T G hr hr' c0 c1 c2 f0 f1 f2 ho
        obtain ⟨c0, c1, c2⟩ := T'.cells
        obtain ⟨f0, f1, f2⟩ := T'.free
        obtain ⟨d0, d1, d2⟩ := R'.cells
        obtain ⟨k0, k1, k2⟩ := R'.free
        have ho : x.size ≤ 20 := by omega
        have hne : ¬ w.heap.size = tb := by omega
        have hne2 : ¬ tb = w.heap.size := by omega
        clear T' R'
        go_wp2_with fail
        clear c0 c1 c2 f0 f1 f2 d0 d1 d2 k0 k1 k2 hx
        generalize wy.setCell ⟨tb, 2, none⟩ (.string x) = wz at R2 G2 hr2 ⊢
        obtain ⟨o, rfl⟩ : ∃ z, z = x := ⟨_, rfl⟩
      case' true =>
        obtain ⟨c0, c1, c2⟩ := T.cells
        obtain ⟨f0, f1, f2⟩ := T.free
        obtain ⟨d0, d1, d2⟩ := R.cells
        obtain ⟨k0, k1, k2⟩ := R.free
        go_wp2_with fail
        have R2 := R
        have G2 := G
        have hr2 := hr
        clear R T G hr c0 c1 c2 f0 f1 f2 d0 d1 d2 k0 k1 k2
      all_goals
        obtain ⟨d0, d1, d2⟩ := R2.cells
        obtain ⟨k0, k1, k2⟩ := R2.free
        refine bodyPost_ret (v := .agg #[.string s, .string p, .string o]) (by simp [results, Tryz.results139, go_sem, *]) rfl ⟨s, p, o, hs, hp, ho, rfl, ?_, ?_⟩
        · exact ((hr2.setFar (by simp; omega) (by simp; omega) _).setFar (by simp; omega) (by simp; omega) _).setFar (by simp; omega) (by simp; omega) _
        · exact grown_setNew (grown_setNew (grown_setNew G2 (by simp) _) (by simp) _) (by simp) _
end Go.Proofs.YtiajdnhmjdfeeaaGreat
namespace Go.Proofs.YtiajdnhmjdfeeaaGreat
open Go.ChangeShapes Go.WideShapes Go.ChangeAt Go.RowKit
abbrev Tri3 := ByteArray × ByteArray × ByteArray
def TriAt (w : World) (x : Addr) (i : Nat) (t : Tri3) : Prop := w.cell? (x.add (3 * i)) = some (.string t.1) ∧ w.cell? (x.add (3 * i + 1)) = some (.string t.2.1) ∧ w.cell? (x.add (3 * i + 2)) = some (.string t.2.2) ∧
  t.1.size ≤ maxLen ∧ t.2.1.size ≤ maxLen ∧ t.2.2.size ≤ maxLen
/-- The slice is nil, or its cells hold the triples ts, three texts each. -/
def IsTris (w : World) (a : Option Addr) (len cap : Nat) (ts : List Tri3) : Prop :=
  (a = none ∧ len = 0 ∧ cap = 0 ∧ ts = []) ∨
  ∃ x, a = some x ∧ len ≤ cap ∧ cap ≤ maxLen ∧ ts.length = len ∧ ∀ (i : Nat) (t : Tri3), ts[i]? = some t → TriAt w x i t
end Go.Proofs.YtiajdnhmjdfeeaaGreat
namespace Go.Proofs.YtiajdnhmjdfeeaaGreat
open Go.RowKit
def szT (s p o : Nat) (left : Int) : Int := if left - s < 0 then -1 else if left - s - p < 0 then -1 else if left - s - p - o < 0 then -1 else left - s - p - o
end Go.Proofs.YtiajdnhmjdfeeaaGreat
