/- The two triples that are drawn for the statement on their order. -/
import Derived.Test.YtfigcefdkdlcaaaDrawTri
import Derived.RegionTactic
namespace Go.Proofs.Ytfigcefdkdlcaaa
open Go.RowKit Go.WideShapes
theorem Rd.lt {B g : Nat} {w : World} (h : Rd B w g) : g < w.heap.size := h.2.1
set_option maxRecDepth 100000 in
set_option maxHeartbeats 3200000 in
theorem drawAhead (w : World) (a : Option Addr) (len cap : Nat) (zs : List Int) (hrow : Frame.IsRow .u8 w a len cap zs) :
    Calls Try.prog 36 #[.slice a len cap] w fun e w' => ∃ s p o s' p' o' : ByteArray, e = .returned (.tuple #[.agg #[.string s, .string p, .string o], .agg #[.string s', .string p', .string o']]) ∧ w.grownBy w' none := by
  have W0 := (World.grownBy_alloc w (.cells #[.string ⟨#[]⟩, .string ⟨#[]⟩, .string ⟨#[]⟩] 30) none).trans (World.grownBy_alloc (w.alloc (.cells #[.string ⟨#[]⟩, .string ⟨#[]⟩, .string ⟨#[]⟩] 30)) (.cells #[.string ⟨#[]⟩, .string ⟨#[]⟩, .string ⟨#[]⟩] 30) none)
  have R0 := (Box.new w (.string ⟨#[]⟩) (.string ⟨#[]⟩) (.string ⟨#[]⟩) 30).alloc (.cells #[.string ⟨#[]⟩, .string ⟨#[]⟩, .string ⟨#[]⟩] 30)
  have Q0 := Box.new (w.alloc (.cells #[.string ⟨#[]⟩, .string ⟨#[]⟩, .string ⟨#[]⟩] 30)) (.string ⟨#[]⟩) (.string ⟨#[]⟩) (.string ⟨#[]⟩) 30
  have e0 : (w.alloc (.cells #[.string ⟨#[]⟩, .string ⟨#[]⟩, .string ⟨#[]⟩] 30)).heap.size = w.heap.size + 1 := by simp
  have e1 : ((w.alloc (.cells #[.string ⟨#[]⟩, .string ⟨#[]⟩, .string ⟨#[]⟩] 30)).alloc (.cells #[.string ⟨#[]⟩, .string ⟨#[]⟩, .string ⟨#[]⟩] 30)).heap.size = w.heap.size + 2 := by simp
  rw [e0] at Q0
  have O := rdOpen ((w.alloc (.cells #[.string ⟨#[]⟩, .string ⟨#[]⟩, .string ⟨#[]⟩] 30)).alloc (.cells #[.string ⟨#[]⟩, .string ⟨#[]⟩, .string ⟨#[]⟩] 30)) a len cap zs (isRow_grown hrow W0)
  rw [e1] at O
  have HO := Lib.hid O
  clear O e0 e1
  go_enter Try.func36, Try.ntmps36
  go_wp2_with fail
  refine HO.out.mono ?_
  rintro e w1 ⟨rfl, hr1, hg1⟩
  have R1 := R0.grown hg1 (by simp)
  have Q1 := Q0.grown hg1 (by simp)
  have G1 := W0.trans hg1
  clear hg1 R0 Q0 W0
  go_wp2_with fail
  refine (rdTriple _ _ _ hr1).mono ?_
  rintro e w2 ⟨s, p, o, hs, hp, ho, rfl, hr2, hg2⟩
  have R2 := R1.grown hg2 (by simp)
  have Q2 := Q1.grown hg2 (by simp)
  have G2 := G1.andThen hg2 (by intro j hj; simp at hj; omega)
  have T2 := Box.new w2 (.string s) (.string p) (.string o) 30
  have l2 := hr2.lt
  clear hg2 R1 Q1 G1 hr1
  go_wp2_with fail
  refine (rdTriple _ _ _ (hr2.alloc _)).mono ?_
  rintro e w3 ⟨s', p', o', hs', hp', ho', rfl, hr3, hg3⟩
  have R3 := (R2.alloc _).grown hg3 (by simp)
  have Q3 := (Q2.alloc _).grown hg3 (by simp)
  have T3 := T2.grown hg3 (by simp; omega)
  have G3 := (G2.trans (World.grownBy_alloc w2 _ _)).andThen hg3 (by intro j hj; simp at hj; omega)
  have V3 := Box.new w3 (.string s') (.string p') (.string o') 30
  have l3 := T3.lt
  clear hg3 R2 Q2 T2 G2 hr2
  go_wp2_with fail
  refine (rdOnce _ _ _ (hr3.alloc _) 2 (by omega) (by omega)).mono ?_
  rintro e w4 ⟨b, rfl, hr4, hg4⟩
  have R4 := (R3.alloc _).grown hg4 (by simp)
  have Q4 := (Q3.alloc _).grown hg4 (by simp)
  have T4 := (T3.alloc _).grown hg4 (by simp; omega)
  have V4 := V3.grown hg4 (by simp; omega)
  have G4 := (G3.trans (World.grownBy_alloc w3 _ _)).andThen hg4 (by intro j hj; simp at hj; omega)
  clear hg4 R3 Q3 T3 V3 G3 hr3
  have n1 : ¬ w2.heap.size = w3.heap.size := by omega
  have n2 : ¬ w3.heap.size = w2.heap.size := by omega
  have n3 : ¬ w.heap.size = w3.heap.size := by omega
  have n4 : ¬ w.heap.size + 1 = w3.heap.size := by omega
  have n5 : ¬ w.heap.size = w2.heap.size := by omega
  have n6 : ¬ w.heap.size + 1 = w2.heap.size := by omega
  have n7 : ¬ w3.heap.size = w.heap.size := by omega
  have n8 : ¬ w3.heap.size = w.heap.size + 1 := by omega
  have n9 : ¬ w2.heap.size = w.heap.size := by omega
  have n10 : ¬ w2.heap.size = w.heap.size + 1 := by omega
  cases b
  · go_wp2_with fail
    refine (rdOnce _ _ _ hr4 3 (by omega) (by omega)).mono ?_
    rintro e w5 ⟨b, rfl, hr5, hg5⟩
    have R5 := R4.grown hg5 (by simp)
    have Q5 := Q4.grown hg5 (by simp)
    have T5 := T4.grown hg5 (by simp; omega)
    have V5 := V4.grown hg5 (by simp; omega)
    have G5 := G4.andThen hg5 (by intro j hj; simp at hj; omega)
    clear hg5 R4 Q4 T4 V4 G4 hr4 hr5
    obtain ⟨r0, r1, r2⟩ := R5.cells
    obtain ⟨x0, x1, x2⟩ := R5.free
    obtain ⟨q0, q1, q2⟩ := Q5.cells
    obtain ⟨y0, y1, y2⟩ := Q5.free
    obtain ⟨c0, c1, c2⟩ := T5.cells
    obtain ⟨v0, v1, v2⟩ := V5.cells
    obtain ⟨f0, f1, f2⟩ := V5.free
    clear R5 Q5 T5 V5
    cases b
    · skip
      go_wp2_with fail
      go_region
      all_goals go_wp2_with fail
      all_goals refine bodyPost_ret (v := .tuple #[.agg #[.string s, .string p, .string o], .agg #[.string s', .string p', .string o']]) (by simp [results, Try.results36, go_sem, *]) rfl ⟨s, p, o, s', p', o', rfl, ?_⟩
      all_goals exact grown_drew (grown_setNew (grown_setNew (grown_setNew (grown_setNew (grown_setNew (grown_setNew G5 (by simp) _) (by simp) _) (by simp) _) (by simp) _) (by simp) _) (by simp) _)
    · skip
      go_wp2_with fail
      go_region
      all_goals go_wp2_with fail
      all_goals refine bodyPost_ret (v := .tuple #[.agg #[.string s, .string p, .string o], .agg #[.string s', .string p, .string o']]) (by simp [results, Try.results36, go_sem, *]) rfl ⟨s, p, o, s', p, o', rfl, ?_⟩
      all_goals exact grown_drew (grown_setNew (grown_setNew (grown_setNew (grown_setNew (grown_setNew (grown_setNew (grown_setNew G5 (by simp; omega) _) (by simp) _) (by simp) _) (by simp) _) (by simp) _) (by simp) _) (by simp) _)
  · obtain ⟨c0, c1, c2⟩ := T4.cells
    obtain ⟨v0, v1, v2⟩ := V4.cells
    obtain ⟨f0, f1, f2⟩ := V4.free
    go_wp2_with fail
    clear c0 c1 c2 v0 v1 v2 f0 f1 f2
    replace hr4 := hr4.setFar (a := ⟨w3.heap.size, 0, none⟩) (by simp; omega) (by simp; omega) (.string s)
    replace R4 := R4.far (a := ⟨w3.heap.size, 0, none⟩) (by simp; omega) (.string s)
    replace Q4 := Q4.far (a := ⟨w3.heap.size, 0, none⟩) (by simp; omega) (.string s)
    replace T4 := T4.far (a := ⟨w3.heap.size, 0, none⟩) (by simp; omega) (.string s)
    replace V4 := V4.set0 (.string s)
    replace G4 := grown_setNew G4 (a := ⟨w3.heap.size, 0, none⟩) (by simp; omega) (.string s)
    refine (rdOnce _ _ _ hr4 3 (by omega) (by omega)).mono ?_
    rintro e w5 ⟨b, rfl, hr5, hg5⟩
    have R5 := R4.grown hg5 (by simp)
    have Q5 := Q4.grown hg5 (by simp)
    have T5 := T4.grown hg5 (by simp; omega)
    have V5 := V4.grown hg5 (by simp; omega)
    have G5 := G4.andThen hg5 (by intro j hj; simp at hj; omega)
    clear hg5 R4 Q4 T4 V4 G4 hr4 hr5
    obtain ⟨r0, r1, r2⟩ := R5.cells
    obtain ⟨x0, x1, x2⟩ := R5.free
    obtain ⟨q0, q1, q2⟩ := Q5.cells
    obtain ⟨y0, y1, y2⟩ := Q5.free
    obtain ⟨c0, c1, c2⟩ := T5.cells
    obtain ⟨v0, v1, v2⟩ := V5.cells
    obtain ⟨f0, f1, f2⟩ := V5.free
    clear R5 Q5 T5 V5
    cases b
    · skip
      go_wp2_with fail
      go_region
      all_goals go_wp2_with fail
      all_goals refine bodyPost_ret (v := .tuple #[.agg #[.string s, .string p, .string o], .agg #[.string s, .string p', .string o']]) (by simp [results, Try.results36, go_sem, *]) rfl ⟨s, p, o, s, p', o', rfl, ?_⟩
      all_goals exact grown_drew (grown_setNew (grown_setNew (grown_setNew (grown_setNew (grown_setNew (grown_setNew G5 (by simp) _) (by simp) _) (by simp) _) (by simp) _) (by simp) _) (by simp) _)
    · skip
      go_wp2_with fail
      go_region
      all_goals go_wp2_with fail
      all_goals refine bodyPost_ret (v := .tuple #[.agg #[.string s, .string p, .string o], .agg #[.string s, .string p, .string o']]) (by simp [results, Try.results36, go_sem, *]) rfl ⟨s, p, o, s, p, o', rfl, ?_⟩
      all_goals exact grown_drew (grown_setNew (grown_setNew (grown_setNew (grown_setNew (grown_setNew (grown_setNew (grown_setNew G5 (by simp; omega) _) (by simp) _) (by simp) _) (by simp) _) (by simp) _) (by simp) _) (by simp) _)
end Go.Proofs.Ytfigcefdkdlcaaa
