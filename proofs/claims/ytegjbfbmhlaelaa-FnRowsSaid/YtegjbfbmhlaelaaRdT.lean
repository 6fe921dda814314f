/- A drawn triple: texts of a bounded length. -/
import Derived.Test.YtegjbfbmhlaelaaRd
import Derived.Test.YtegjbfbmhlaelaaBox
import Derived.RegionTactic
namespace Go.Proofs.Ytegjbfbmhlaelaa
open Go.RowKit Go.WideShapes
theorem Rd.setFar {B g : Nat} {w : World} (h : Rd B w g) {a : Addr} (h1 : B ≤ a.block) (h2 : a.block ≠ g) (u : Value) : Rd B (w.setCell a u) g :=
  h.keep (by simp [World.setCell]) (Below.heap_setCell w a u g (Ne.symm h2)) fun k hk => Below.heap_setCell w a u k (by omega)
set_option maxRecDepth 100000 in
set_option maxHeartbeats 1600000 in
theorem rdTriple (B g : Nat) (w : World) (h : Rd B w g) :
    Calls Try.prog 90 #[.pointer (some ⟨g, 0, none⟩)] w fun e w' => ∃ s p o : ByteArray, (1 ≤ s.size ∧ s.size ≤ 20) ∧ p.size ≤ 20 ∧ o.size ≤ 20 ∧ e = .returned (.agg #[.string s, .string p, .string o]) ∧ Rd B w' g ∧ w.grownBy w' (some g) := by
  have hgw := h.2.1
  have hB := h.1
  have R0 := Box.new w (.string ⟨#[]⟩) (.string ⟨#[]⟩) (.string ⟨#[]⟩) 47
  have G0 := World.grownBy_alloc w (.cells #[.string ⟨#[]⟩, .string ⟨#[]⟩, .string ⟨#[]⟩] 47) (some g)
  go_enter Try.func90, Try.ntmps90
  go_wp2_with fail
  refine (rdThing B g _ (h.alloc _)).mono ?_
  rintro e w1 ⟨s, hs2, hs1, rfl, hr1, hg1⟩
  have R1 := R0.grown hg1 (by simp; omega)
  have G1 := G0.trans hg1
  clear hg1 R0 G0
  go_wp2_with fail
  refine (rdPred B g _ hr1).mono ?_
  rintro e w2 ⟨p, _, hp, rfl, hr2, hg2⟩
  have R2 := R1.grown hg2 (by simp; omega)
  have G2 := G1.trans hg2
  clear hg2 R1 G1 hr1
  go_wp2_with fail
  refine (rdThing B g _ hr2).mono ?_
  rintro e w3 ⟨o, ho, _, rfl, hr3, hg3⟩
  have R3 := R2.grown hg3 (by simp; omega)
  have G3 := G2.trans hg3
  have l3 := R3.lt
  clear hg3 R2 G2 hr2
  have T3 := Box.new w3 (.string s) (.string p) (.string o) 47
  have i0 : (0 : Int) < s.size := by omega
  cases hq : ((s[0].toNat : Int) == 34)
  · go_wp2_with fail
    refine (rdOnce B g _ (hr3.alloc _) 60 (by omega) (by omega)).mono ?_
    rintro e w4 ⟨b, rfl, hr4, hg4⟩
    have R4 := (R3.alloc _).grown hg4 (by simp; omega)
    have T4 := T3.grown hg4 (by have := hr3.2.1; simp; omega)
    have G4 := (G3.trans (World.grownBy_alloc w3 _ _)).trans hg4
    clear hg4 R3 T3 G3 hr3 hq
    obtain ⟨c0, c1, c2⟩ := T4.cells
    obtain ⟨f0, f1, f2⟩ := T4.free
    obtain ⟨d0, d1, d2⟩ := R4.cells
    obtain ⟨k0, k1, k2⟩ := R4.free
    have hne : ¬ w.heap.size = w3.heap.size := by omega
    have hne2 : ¬ w3.heap.size = w.heap.size := by omega
    clear T4 R4
    cases b
    · go_wp2_with fail
      refine bodyPost_ret (v := .agg #[.string s, .string p, .string o]) (by simp [results, Try.results90, go_sem, *]) rfl ⟨s, p, o, ⟨hs1, hs2⟩, by omega, ho, rfl, ?_, ?_⟩
      · exact ((hr4.setFar (by simp; omega) (by simp; omega) _).setFar (by simp; omega) (by simp; omega) _).setFar (by simp; omega) (by simp; omega) _
      · exact grown_setNew (grown_setNew (grown_setNew G4 (by simp) _) (by simp) _) (by simp) _
    · go_wp2_with fail
      refine bodyPost_ret (v := .agg #[.string s, .string ⟨#[95, 58, 98]⟩, .string o]) (by simp [results, Try.results90, go_sem, *]) rfl ⟨s, _, o, ⟨hs1, hs2⟩, by simp [lit_size], ho, rfl, ?_, ?_⟩
      · exact (((hr4.setFar (by simp; omega) (by simp; omega) _).setFar (by simp; omega) (by simp; omega) _).setFar (by simp; omega) (by simp; omega) _).setFar (by simp; omega) (by simp; omega) _
      · exact grown_setNew (grown_setNew (grown_setNew (grown_setNew G4 (by simp; omega) _) (by simp) _) (by simp) _) (by simp) _
  · go_wp2_with fail
    refine (rdName B g _ (hr3.alloc _)).mono ?_
    rintro e w5 ⟨s', hs1', hs2', rfl, hr5, hg5⟩
    have R5 := (R3.alloc _).grown hg5 (by simp; omega)
    have T5 := T3.grown hg5 (by have := hr3.2.1; simp; omega)
    have G5 := (G3.trans (World.grownBy_alloc w3 _ _)).trans hg5
    have hg3 := hr3.2.1
    clear hg5 R3 T3 G3 hr3 hq i0
    obtain ⟨c0, c1, c2⟩ := T5.cells
    obtain ⟨f0, f1, f2⟩ := T5.free
    have hne : ¬ w.heap.size = w3.heap.size := by omega
    have hne2 : ¬ w3.heap.size = w.heap.size := by omega
    have T6 := T5.set0 (.string s')
    have R6 := R5.far (a := ⟨w3.heap.size, 0, none⟩) (by simp; omega) (.string s')
    have hr6 := hr5.setFar (a := ⟨w3.heap.size, 0, none⟩) (by simp; omega) (by simp; omega) (.string s')
    have G6 := grown_setNew G5 (a := ⟨w3.heap.size, 0, none⟩) (by simp; omega) (.string s')
    clear T5 R5 G5 hr5
    go_wp2_with fail
    refine (rdOnce B g _ hr6 60 (by omega) (by omega)).mono ?_
    rintro e w4 ⟨b, rfl, hr4, hg4⟩
    have R4 := R6.grown hg4 (by simp; omega)
    have T4 := T6.grown hg4 (by simp; omega)
    have G4 := G6.trans hg4
    clear hg4 R6 T6 G6 hr6 c0 c1 c2 f0 f1 f2
    obtain ⟨c0, c1, c2⟩ := T4.cells
    obtain ⟨f0, f1, f2⟩ := T4.free
    obtain ⟨d0, d1, d2⟩ := R4.cells
    obtain ⟨k0, k1, k2⟩ := R4.free
    clear T4 R4
    cases b
    · go_wp2_with fail
      refine bodyPost_ret (v := .agg #[.string s', .string p, .string o]) (by simp [results, Try.results90, go_sem, *]) rfl ⟨s', p, o, ⟨hs1', by omega⟩, by omega, ho, rfl, ?_, ?_⟩
      · exact ((hr4.setFar (by simp; omega) (by simp; omega) _).setFar (by simp; omega) (by simp; omega) _).setFar (by simp; omega) (by simp; omega) _
      · exact grown_setNew (grown_setNew (grown_setNew G4 (by simp) _) (by simp) _) (by simp) _
    · go_wp2_with fail
      refine bodyPost_ret (v := .agg #[.string s', .string ⟨#[95, 58, 98]⟩, .string o]) (by simp [results, Try.results90, go_sem, *]) rfl ⟨s', _, o, ⟨hs1', by omega⟩, by simp [lit_size], ho, rfl, ?_, ?_⟩
      · exact (((hr4.setFar (by simp; omega) (by simp; omega) _).setFar (by simp; omega) (by simp; omega) _).setFar (by simp; omega) (by simp; omega) _).setFar (by simp; omega) (by simp; omega) _
      · exact grown_setNew (grown_setNew (grown_setNew (grown_setNew G4 (by simp; omega) _) (by simp) _) (by simp) _) (by simp) _
end Go.Proofs.Ytegjbfbmhlaelaa
