/- What the drawn triples are: texts of a bounded length. -/
import Derived.Test.YtinmjbgljgljkaaRd
import Derived.Test.YtinmjbgljgljkaaBox
import Derived.Test.YtinmjbgljgljkaaTri2
import Derived.RegionTactic
namespace Go.Proofs.Ytinmjbgljgljkaa
open Go.RowKit Go.WideShapes
theorem Rd.setFar {B g : Nat} {w : World} (h : Rd B w g) {a : Addr} (h1 : B ≤ a.block) (h2 : a.block ≠ g) (u : Value) : Rd B (w.setCell a u) g :=
  h.keep (by simp [World.setCell]) (Below.heap_setCell w a u g (Ne.symm h2)) fun k hk => Below.heap_setCell w a u k (by omega)
set_option maxRecDepth 100000 in
set_option maxHeartbeats 1600000 in
theorem rdTriple (B g : Nat) (w : World) (h : Rd B w g) :
    Calls Try.prog 64 #[.pointer (some ⟨g, 0, none⟩)] w fun e w' => ∃ s p o : ByteArray, (1 ≤ s.size ∧ s.size ≤ 20) ∧ p.size ≤ 20 ∧ o.size ≤ 20 ∧ e = .returned (.agg #[.string s, .string p, .string o]) ∧ Rd B w' g ∧ w.grownBy w' (some g) := by
  have hgw := h.2.1
  have hB := h.1
  have R0 := Box.new w (.string ⟨#[]⟩) (.string ⟨#[]⟩) (.string ⟨#[]⟩) 33
  have G0 := World.grownBy_alloc w (.cells #[.string ⟨#[]⟩, .string ⟨#[]⟩, .string ⟨#[]⟩] 33) (some g)
  go_enter Try.func64, Try.ntmps64
  go_wp2_with fail
  refine (rdThing B g _ (h.alloc _)).mono ?_
  rintro e w1 ⟨s, hs2, hs1, rfl, hr1, hg1⟩
  have R1 := R0.grown hg1 (by simp; omega)
  have G1 := G0.trans hg1
  clear hg1 R0 G0
  go_wp2_with fail
  refine (rdPred B g _ hr1).mono ?_
  rintro e w2 ⟨p, _, hp, rfl, hr2, hg2⟩
  have R2 := R1.grown hg2 (by simp; omega)
  have G2 := G1.trans hg2
  clear hg2 R1 G1 hr1
  go_wp2_with fail
  refine (rdThing B g _ hr2).mono ?_
  rintro e w3 ⟨o, ho, _, rfl, hr3, hg3⟩
  have R3 := R2.grown hg3 (by simp; omega)
  have G3 := G2.trans hg3
  have l3 := R3.lt
  clear hg3 R2 G2 hr2
  have T3 := Box.new w3 (.string s) (.string p) (.string o) 33
  have i0 : (0 : Int) < s.size := by omega
  cases hq : ((s[0].toNat : Int) == 34)
  · go_wp2_with fail
    refine (rdOnce B g _ (hr3.alloc _) 60 (by omega) (by omega)).mono ?_
    rintro e w4 ⟨b, rfl, hr4, hg4⟩
    have R4 := (R3.alloc _).grown hg4 (by simp; omega)
    have T4 := T3.grown hg4 (by have := hr3.2.1; simp; omega)
    have G4 := (G3.trans (World.grownBy_alloc w3 _ _)).trans hg4
    clear hg4 R3 T3 G3 hr3 hq
    obtain ⟨c0, c1, c2⟩ := T4.cells
    obtain ⟨f0, f1, f2⟩ := T4.free
    obtain ⟨d0, d1, d2⟩ := R4.cells
    obtain ⟨k0, k1, k2⟩ := R4.free
    have hne : ¬ w.heap.size = w3.heap.size := by omega
    have hne2 : ¬ w3.heap.size = w.heap.size := by omega
    clear T4 R4
    cases b
    · go_wp2_with fail
      refine bodyPost_ret (v := .agg #[.string s, .string p, .string o]) (by simp [results, Try.results64, go_sem, *]) rfl ⟨s, p, o, ⟨hs1, hs2⟩, by omega, ho, rfl, ?_, ?_⟩
      · exact ((hr4.setFar (by simp; omega) (by simp; omega) _).setFar (by simp; omega) (by simp; omega) _).setFar (by simp; omega) (by simp; omega) _
      · exact grown_setNew (grown_setNew (grown_setNew G4 (by simp) _) (by simp) _) (by simp) _
    · go_wp2_with fail
      refine bodyPost_ret (v := .agg #[.string s, .string ⟨#[95, 58, 98]⟩, .string o]) (by simp [results, Try.results64, go_sem, *]) rfl ⟨s, _, o, ⟨hs1, hs2⟩, by simp [lit_size], ho, rfl, ?_, ?_⟩
      · exact (((hr4.setFar (by simp; omega) (by simp; omega) _).setFar (by simp; omega) (by simp; omega) _).setFar (by simp; omega) (by simp; omega) _).setFar (by simp; omega) (by simp; omega) _
      · exact grown_setNew (grown_setNew (grown_setNew (grown_setNew G4 (by simp; omega) _) (by simp) _) (by simp) _) (by simp) _
  · go_wp2_with fail
    refine (rdName B g _ (hr3.alloc _)).mono ?_
    rintro e w5 ⟨s', hs1', hs2', rfl, hr5, hg5⟩
    have R5 := (R3.alloc _).grown hg5 (by simp; omega)
    have T5 := T3.grown hg5 (by have := hr3.2.1; simp; omega)
    have G5 := (G3.trans (World.grownBy_alloc w3 _ _)).trans hg5
    have hg3 := hr3.2.1
    clear hg5 R3 T3 G3 hr3 hq i0
    obtain ⟨c0, c1, c2⟩ := T5.cells
    obtain ⟨f0, f1, f2⟩ := T5.free
    have hne : ¬ w.heap.size = w3.heap.size := by omega
    have hne2 : ¬ w3.heap.size = w.heap.size := by omega
    have T6 := T5.set0 (.string s')
    have R6 := R5.far (a := ⟨w3.heap.size, 0, none⟩) (by simp; omega) (.string s')
    have hr6 := hr5.setFar (a := ⟨w3.heap.size, 0, none⟩) (by simp; omega) (by simp; omega) (.string s')
    have G6 := grown_setNew G5 (a := ⟨w3.heap.size, 0, none⟩) (by simp; omega) (.string s')
    clear T5 R5 G5 hr5
    go_wp2_with fail
    refine (rdOnce B g _ hr6 60 (by omega) (by omega)).mono ?_
    rintro e w4 ⟨b, rfl, hr4, hg4⟩
    have R4 := R6.grown hg4 (by simp; omega)
    have T4 := T6.grown hg4 (by simp; omega)
    have G4 := G6.trans hg4
    clear hg4 R6 T6 G6 hr6 c0 c1 c2 f0 f1 f2
    obtain ⟨c0, c1, c2⟩ := T4.cells
    obtain ⟨f0, f1, f2⟩ := T4.free
    obtain ⟨d0, d1, d2⟩ := R4.cells
    obtain ⟨k0, k1, k2⟩ := R4.free
    clear T4 R4
    cases b
    · go_wp2_with fail
      refine bodyPost_ret (v := .agg #[.string s', .string p, .string o]) (by simp [results, Try.results64, go_sem, *]) rfl ⟨s', p, o, ⟨hs1', by omega⟩, by omega, ho, rfl, ?_, ?_⟩
      · exact ((hr4.setFar (by simp; omega) (by simp; omega) _).setFar (by simp; omega) (by simp; omega) _).setFar (by simp; omega) (by simp; omega) _
      · exact grown_setNew (grown_setNew (grown_setNew G4 (by simp) _) (by simp) _) (by simp) _
    · go_wp2_with fail
      refine bodyPost_ret (v := .agg #[.string s', .string ⟨#[95, 58, 98]⟩, .string o]) (by simp [results, Try.results64, go_sem, *]) rfl ⟨s', _, o, ⟨hs1', by omega⟩, by simp [lit_size], ho, rfl, ?_, ?_⟩
      · exact (((hr4.setFar (by simp; omega) (by simp; omega) _).setFar (by simp; omega) (by simp; omega) _).setFar (by simp; omega) (by simp; omega) _).setFar (by simp; omega) (by simp; omega) _
      · exact grown_setNew (grown_setNew (grown_setNew (grown_setNew G4 (by simp; omega) _) (by simp) _) (by simp) _) (by simp) _
open Go.RowKit Go.WideShapes
set_option maxRecDepth 100000 in
set_option maxHeartbeats 1600000 in
theorem drawTripleOk (w : World) (a : Option Addr) (len cap : Nat) (zs : List Int) (hrow : Frame.IsRow .u8 w a len cap zs) :
    Calls Try.prog 71 #[.slice a len cap] w fun e w' => ∃ s p o : ByteArray, s.size ≤ 20 ∧ p.size ≤ 20 ∧ o.size ≤ 20 ∧ e = .returned (.agg #[.string s, .string p, .string o]) ∧ w.grownBy w' none := by
  have R0 := Box.new w (.string ⟨#[]⟩) (.string ⟨#[]⟩) (.string ⟨#[]⟩) 33
  have G0 := World.grownBy_alloc w (.cells #[.string ⟨#[]⟩, .string ⟨#[]⟩, .string ⟨#[]⟩] 33) none
  go_enter Try.func71, Try.ntmps71
  go_wp2_with fail
  refine (rdOpen _ _ _ _ _ (isRow_grown hrow G0)).mono ?_
  rintro e w1 ⟨rfl, hr1, hg1⟩
  have R1 := R0.grown hg1 (by simp)
  have G1 := G0.trans hg1
  have e0 : (w.alloc (.cells #[.string ⟨#[]⟩, .string ⟨#[]⟩, .string ⟨#[]⟩] 33)).heap.size = w.heap.size + 1 := by simp
  rw [e0] at hr1
  clear hg1 R0 G0 e0
  go_wp2_with fail
  refine (rdTriple _ _ _ hr1).mono ?_
  rintro e w2 ⟨s, p, o, hs, hp, ho, rfl, hr2, hg2⟩
  have R2 := R1.grown hg2 (by simp)
  have G2 := G1.andThen hg2 (by intro j hj; simp at hj; omega)
  have l2 := R2.lt
  have l3 := hr2.2.1
  clear hg2 R1 G1 hr1
  have T2 := Box.new w2 (.string s) (.string p) (.string o) 33
  go_wp2_with fail
  refine (rdOnce _ _ _ (hr2.alloc _) 6 (by omega) (by omega)).mono ?_
  rintro e w3 ⟨b, rfl, hr3, hg3⟩
  have R3 := (R2.alloc _).grown hg3 (by simp)
  have T3 := T2.grown hg3 (by simp; omega)
  have G3 := (G2.trans (World.grownBy_alloc w2 _ _)).andThen hg3 (by intro j hj; simp at hj; omega)
  have hne : ¬ w.heap.size = w2.heap.size := by omega
  have hne2 : ¬ w2.heap.size = w.heap.size := by omega
  clear hg3 R2 T2 G2 hr2
  cases b
  · obtain ⟨c0, c1, c2⟩ := T3.cells
    obtain ⟨d0, d1, d2⟩ := R3.cells
    obtain ⟨k0, k1, k2⟩ := R3.free
    clear T3 R3 hr3
    go_wp2_with fail
    refine bodyPost_ret (v := .agg #[.string s, .string p, .string o]) (by simp [results, Try.results71, go_sem, *]) rfl ⟨s, p, o, hs.2, hp, ho, rfl, ?_⟩
    exact grown_setNew (grown_setNew (grown_setNew G3 (by simp) _) (by simp) _) (by simp) _
  · go_wp2_with fail
    refine (rdThing _ _ _ hr3).mono ?_
    rintro e w4 ⟨s', hs1', hs2', rfl, hr4, hg4⟩
    have R4 := R3.grown hg4 (by simp)
    have T4 := T3.grown hg4 (by simp; omega)
    have G4 := G3.andThen hg4 (by intro j hj; simp at hj; omega)
    clear hg4 R3 T3 G3 hr3 hr4
    obtain ⟨c0, c1, c2⟩ := T4.cells
    obtain ⟨f0, f1, f2⟩ := T4.free
    obtain ⟨d0, d1, d2⟩ := R4.cells
    obtain ⟨k0, k1, k2⟩ := R4.free
    clear T4 R4
    go_wp2_with fail
    refine bodyPost_ret (v := .agg #[.string s', .string p, .string o]) (by simp [results, Try.results71, go_sem, *]) rfl ⟨s', p, o, hs1', hp, ho, rfl, ?_⟩
    exact grown_setNew (grown_setNew (grown_setNew (grown_setNew G4 (by simp; omega) _) (by simp) _) (by simp) _) (by simp) _
set_option maxRecDepth 100000 in
theorem drawTripleText (w : World) (a : Option Addr) (len cap : Nat) (zs : List Int) (hrow : Frame.IsRow .u8 w a len cap zs) :
    Calls Try.prog 36 #[.slice a len cap] w fun e w' => ∃ s p o : ByteArray, s.size ≤ 20 ∧ p.size ≤ 20 ∧ o.size ≤ 20 ∧ e = .returned (.agg #[.string s, .string p, .string o]) ∧ w.grownBy w' none := by
  have R0 := Box.new w (.string ⟨#[]⟩) (.string ⟨#[]⟩) (.string ⟨#[]⟩) 33
  have G0 := World.grownBy_alloc w (.cells #[.string ⟨#[]⟩, .string ⟨#[]⟩, .string ⟨#[]⟩] 33) none
  go_enter Try.func36, Try.ntmps36
  go_wp2_with fail
  refine (drawTripleOk _ _ _ _ _ (isRow_grown hrow G0)).mono ?_
  rintro e w1 ⟨s, p, o, hs, hp, ho, rfl, hg1⟩
  have R1 := R0.grown hg1 (by simp)
  have G1 := G0.trans hg1
  clear hg1 R0 G0
  obtain ⟨d0, d1, d2⟩ := R1.cells
  obtain ⟨k0, k1, k2⟩ := R1.free
  clear R1
  go_wp2_with fail
  refine bodyPost_ret (v := .agg #[.string s, .string p, .string o]) (by simp [results, Try.results36, go_sem, *]) rfl ⟨s, p, o, hs, hp, ho, rfl, ?_⟩
  exact grown_setNew (grown_setNew (grown_setNew G1 (by simp) _) (by simp) _) (by simp) _
set_option maxRecDepth 100000 in
set_option maxHeartbeats 800000 in
theorem drawReadTriple (w : World) (a : Option Addr) (len cap : Nat) (zs : List Int) (hrow : Frame.IsRow .u8 w a len cap zs) :
    Calls Try.prog 42 #[.slice a len cap] w fun e w' => ∃ s : ByteArray, s.size ≤ 100 ∧ e = .returned (.string s) ∧ w.grownBy w' none := by
  go_enter Try.func42, Try.ntmps42
  go_wp2_with fail
  refine (rdOpen _ _ _ _ _ hrow).mono ?_
  rintro e w1 ⟨rfl, hr1, hg1⟩
  go_wp2_with fail
  refine (rdTriple _ _ _ hr1).mono ?_
  rintro e w2 ⟨s, p, o, hs, hp, ho, rfl, hr2, hg2⟩
  have C := specTripleText s p o (by omega) (by omega) (by omega)
  obtain ⟨q, hq, hql⟩ : ∃ q : ByteArray, bs (triText s.data.toList p.data.toList o.data.toList) = q ∧ q.size ≤ 64 := ⟨_, rfl, by
    rw [bs_size]; unfold triText; split <;> simp <;> omega⟩
  rw [hq] at C
  have D := Lib.hid C
  clear C hq
  go_wp2_with fail
  refine (D.out _).mono ?_
  rintro e w3 ⟨rfl, hb3⟩
  have hg3 := grown_of_below hb3
  have hr3 := hr2.grown hg3 (by simp)
  have G3 := (grown_new hg1 hg2).trans hg3
  clear hb3 hg1 hg2 hg3 hr1 hr2
  go_wp2_with fail
  refine (rdOnce _ _ _ hr3 2 (by omega) (by omega)).mono ?_
  rintro e w4 ⟨b, rfl, hr4, hg4⟩
  have G4 := grown_new G3 hg4
  clear G3 hg4 hr3
  cases b
  · go_wp2_with fail
    refine (rdHurt _ _ _ hr4 q (by omega)).mono ?_
    rintro e w5 ⟨t, ht, rfl, hr5, hg5⟩
    go_wp2_with fail
    go_ret
    exact ⟨t, by omega, rfl, grown_new G4 hg5⟩
  · go_wp2_with fail
    go_ret
    exact ⟨q, by omega, rfl, G4⟩
end Go.Proofs.Ytinmjbgljgljkaa
