/- The contracts of what a row gives for a triple. -/
import Derived.Test.YtapcbhpkbdlinaaFill2
import Derived.Test.YtapcbhpkbdlinaaExactR2
import Derived.Test.YtapcbhpkbdlinaaRow
import Derived.Test.YtapcbhpkbdlinaaRow2
import Derived.Deep.RegionHeld3
import Derived.Deep.RegionWith
namespace Go.Proofs.Ytapcbhpkbdlinaa
open Go.RowKit Go.WideShapes
def filledV (ts : List Pre2) (s p o : ByteArray) : Value := match rowOk ts with
  | true => .agg #[.string (seen ts s), .string (seen ts p), .string (seen ts o)]
  | false => .agg #[.string s, .string p, .string o]
theorem below_set3 {B : Nat} {w w' : World} (h : Below B w w') (g : Nat) (hg : B ≤ g) (x y z : Value) : Below B w (((w'.setCell ⟨g, 0, none⟩ x).setCell ⟨g, 1, none⟩ y).setCell ⟨g, 2, none⟩ z) :=
  Below.setCell (Below.setCell (Below.setCell h (p := ⟨g, 0, none⟩) hg x) (p := ⟨g, 1, none⟩) hg y) (p := ⟨g, 2, none⟩) hg z
theorem cell_set3 {w : World} {g k j : Nat} {x y z : Value} (h : k ≠ g) : (((w.setCell ⟨g, 0, none⟩ x).setCell ⟨g, 1, none⟩ y).setCell ⟨g, 2, none⟩ z).cell? ⟨k, j, none⟩ = w.cell? ⟨k, j, none⟩ := by
  unfold World.cell?
  rw [Below.heap_setCell _ _ _ _ h, Below.heap_setCell _ _ _ _ h, Below.heap_setCell _ _ _ _ h]
theorem asc_ok {ts : List Pre2} (h : rowOk ts = true) : Asc ts := asc_of (by unfold rowOk at h; simp only [Bool.and_eq_true] at h; exact h.2)
set_option maxRecDepth 100000 in
set_option maxHeartbeats 3200000 in
theorem implFilledBy (a : Option Addr) (len cap : Nat) (ts : List Pre2) (s p o : ByteArray) (w : World) (h : IsPres w a len cap ts) (ha : Asc ts) (hlen : len ≤ 1048576) :
    Calls Try.prog 94 #[.slice a len cap, .agg #[.string s, .string p, .string o]] w fun e w' => e = .returned (.agg #[.string (seen ts s), .string (seen ts p), .string (seen ts o)]) ∧ Below w.heap.size w w' := by
  have H := Lib.hid h
  have HA := Lib.hid ha
  clear h ha
  go_enter Try.func94, Try.ntmps94
  go_wp2_with fail
  have B0 : Below w.heap.size w ((w.alloc (.cells #[.string s, .string p, .string o] 23)).alloc (.cells #[.string ⟨#[]⟩, .string ⟨#[]⟩, .string ⟨#[]⟩] 23)).drew := (((Below.refl _ _).alloc (Nat.le_refl _) _).alloc (by simp) _).drew
  have g0 : Box ((w.alloc (.cells #[.string s, .string p, .string o] 23)).alloc (.cells #[.string ⟨#[]⟩, .string ⟨#[]⟩, .string ⟨#[]⟩] 23)).drew w.heap.size (.string s) (.string p) (.string o) 23 := Box.drew (Box.alloc (Box.new w _ _ _ _) _)
  have g1 : Box ((w.alloc (.cells #[.string s, .string p, .string o] 23)).alloc (.cells #[.string ⟨#[]⟩, .string ⟨#[]⟩, .string ⟨#[]⟩] 23)).drew (w.heap.size + 1) (.string ⟨#[]⟩) (.string ⟨#[]⟩) (.string ⟨#[]⟩) 23 := by
    have := Box.drew (Box.new (w.alloc (.cells #[.string s, .string p, .string o] 23)) (.string ⟨#[]⟩) (.string ⟨#[]⟩) (.string ⟨#[]⟩) 23)
    unfold Box at this ⊢
    simpa using this
  have S0 := Lib.hid (⟨g0.cells.1, g0.cells.2.1, g0.cells.2.2, IsPres.next H.out B0⟩ : _ ∧ _ ∧ _ ∧ _)
  clear g0
  have B00 := Lib.hid B0
  clear B0
  go_region_held3 (fun w' => w'.cell? ⟨w.heap.size, 0, none⟩ = some (.string s) ∧ w'.cell? ⟨w.heap.size, 1, none⟩ = some (.string p) ∧ w'.cell? ⟨w.heap.size, 2, none⟩ = some (.string o) ∧ IsPres w' a len cap ts)
    (first | exact S0.out | (go_split_ands; refine ⟨?_, ?_, ?_, IsPres.next (by assumption) hb1⟩ <;> (rw [hb1.cell (World.block_lt_of_cell? _ _ (by assumption))]; assumption)) | (go_split_ands; refine ⟨?_, ?_, ?_, IsPres.next (by assumption) hb2⟩ <;> (rw [hb2.cell (World.block_lt_of_cell? _ _ (by assumption))]; assumption)) | (go_split_ands; refine ⟨?_, ?_, ?_, IsPres.next (by assumption) hb3⟩ <;> (rw [hb3.cell (World.block_lt_of_cell? _ _ (by assumption))]; assumption)) | (refine ⟨?_, ?_, ?_, IsPres.next H.out (below_set3 B33.out (w.heap.size + 1) (Nat.le_succ _) _ _ _)⟩ <;> (go_split_ands; rw [cell_set3 (Nat.ne_of_lt (Nat.lt_succ_self _))]; assumption)))
    (first
      | (go_at_call_of 132 (Value.string s); go_split_ands; refine (implValueIn a len cap ts s _ (by assumption) HA.out hlen).mono ?_; rintro e w1 ⟨rfl, hb1⟩; have g2 := g1.next hb1; have B11 := Lib.hid (B00.out.trans (hb1.mono B00.out.size)))
      | (go_at_call_of 132 (Value.string p); go_split_ands; refine (implValueIn a len cap ts p _ (by assumption) HA.out hlen).mono ?_; rintro e w2 ⟨rfl, hb2⟩; have g3 := g2.next hb2; have B22 := Lib.hid (B11.out.trans (hb2.mono B11.out.size)))
      | (go_at_call_of 132 (Value.string o); go_split_ands; refine (implValueIn a len cap ts o _ (by assumption) HA.out hlen).mono ?_; rintro e w3 ⟨rfl, hb3⟩; have g4 := g3.next hb3; have B33 := Lib.hid (B22.out.trans (hb3.mono B22.out.size)); obtain ⟨a0, a1, a2⟩ := g4.cells; obtain ⟨f0, f1, f2⟩ := g4.free))
  go_wp2_with fail
  refine bodyPost_ret (v := .agg #[.string (seen ts s), .string (seen ts p), .string (seen ts o)]) (by simp [results, Try.results94, go_sem, *]) rfl ⟨rfl, below_set3 B33.out (w.heap.size + 1) (Nat.le_succ _) _ _ _⟩
set_option maxRecDepth 100000 in
set_option maxHeartbeats 3200000 in
theorem specFilledBy (a : Option Addr) (len cap : Nat) (ts : List Pre2) (s p o : ByteArray) (w : World) (h : IsPres w a len cap ts) (ha : Asc ts) (hlen : len ≤ 1048576) :
    Calls Try.prog 95 #[.slice a len cap, .agg #[.string s, .string p, .string o]] w fun e w' => e = .returned (.agg #[.string (seen ts s), .string (seen ts p), .string (seen ts o)]) ∧ Below w.heap.size w w' := by
  have H := Lib.hid h
  have HA := Lib.hid ha
  clear h ha
  go_enter Try.func95, Try.ntmps95
  go_wp2_with fail
  have B0 : Below w.heap.size w ((w.alloc (.cells #[.string s, .string p, .string o] 23)).alloc (.cells #[.string ⟨#[]⟩, .string ⟨#[]⟩, .string ⟨#[]⟩] 23)).drew := (((Below.refl _ _).alloc (Nat.le_refl _) _).alloc (by simp) _).drew
  have g0 : Box ((w.alloc (.cells #[.string s, .string p, .string o] 23)).alloc (.cells #[.string ⟨#[]⟩, .string ⟨#[]⟩, .string ⟨#[]⟩] 23)).drew w.heap.size (.string s) (.string p) (.string o) 23 := Box.drew (Box.alloc (Box.new w _ _ _ _) _)
  have g1 : Box ((w.alloc (.cells #[.string s, .string p, .string o] 23)).alloc (.cells #[.string ⟨#[]⟩, .string ⟨#[]⟩, .string ⟨#[]⟩] 23)).drew (w.heap.size + 1) (.string ⟨#[]⟩) (.string ⟨#[]⟩) (.string ⟨#[]⟩) 23 := by
    have := Box.drew (Box.new (w.alloc (.cells #[.string s, .string p, .string o] 23)) (.string ⟨#[]⟩) (.string ⟨#[]⟩) (.string ⟨#[]⟩) 23)
    unfold Box at this ⊢
    simpa using this
  have S0 := Lib.hid (⟨g0.cells.1, g0.cells.2.1, g0.cells.2.2, IsPres.next H.out B0⟩ : _ ∧ _ ∧ _ ∧ _)
  clear g0
  have B00 := Lib.hid B0
  clear B0
  go_region_held3 (fun w' => w'.cell? ⟨w.heap.size, 0, none⟩ = some (.string s) ∧ w'.cell? ⟨w.heap.size, 1, none⟩ = some (.string p) ∧ w'.cell? ⟨w.heap.size, 2, none⟩ = some (.string o) ∧ IsPres w' a len cap ts)
    (first | exact S0.out | (go_split_ands; refine ⟨?_, ?_, ?_, IsPres.next (by assumption) hb1⟩ <;> (rw [hb1.cell (World.block_lt_of_cell? _ _ (by assumption))]; assumption)) | (go_split_ands; refine ⟨?_, ?_, ?_, IsPres.next (by assumption) hb2⟩ <;> (rw [hb2.cell (World.block_lt_of_cell? _ _ (by assumption))]; assumption)) | (go_split_ands; refine ⟨?_, ?_, ?_, IsPres.next (by assumption) hb3⟩ <;> (rw [hb3.cell (World.block_lt_of_cell? _ _ (by assumption))]; assumption)) | (refine ⟨?_, ?_, ?_, IsPres.next H.out (below_set3 B33.out (w.heap.size + 1) (Nat.le_succ _) _ _ _)⟩ <;> (go_split_ands; rw [cell_set3 (Nat.ne_of_lt (Nat.lt_succ_self _))]; assumption)))
    (first
      | (go_at_call_of 133 (Value.string s); go_split_ands; refine (specTerm a len cap ts s _ (by assumption) hlen).mono ?_; rintro e w1 ⟨rfl, hb1⟩; have g2 := g1.next hb1; have B11 := Lib.hid (B00.out.trans (hb1.mono B00.out.size)))
      | (go_at_call_of 133 (Value.string p); go_split_ands; refine (specTerm a len cap ts p _ (by assumption) hlen).mono ?_; rintro e w2 ⟨rfl, hb2⟩; have g3 := g2.next hb2; have B22 := Lib.hid (B11.out.trans (hb2.mono B11.out.size)))
      | (go_at_call_of 133 (Value.string o); go_split_ands; refine (specTerm a len cap ts o _ (by assumption) hlen).mono ?_; rintro e w3 ⟨rfl, hb3⟩; have g4 := g3.next hb3; have B33 := Lib.hid (B22.out.trans (hb3.mono B22.out.size)); obtain ⟨a0, a1, a2⟩ := g4.cells; obtain ⟨f0, f1, f2⟩ := g4.free))
  go_wp2_with fail
  refine bodyPost_ret (v := .agg #[.string (seen ts s), .string (seen ts p), .string (seen ts o)]) (by simp [results, Try.results95, go_sem, *]) rfl ⟨rfl, below_set3 B33.out (w.heap.size + 1) (Nat.le_succ _) _ _ _⟩
set_option maxRecDepth 100000 in
set_option maxHeartbeats 1600000 in
theorem implFilled (a : Option Addr) (len cap : Nat) (ts : List Pre2) (s p o : ByteArray) (w : World) (h : IsPres w a len cap ts) (hsm : SmP ts) (hlen : len ≤ 1048576) :
    Calls Try.prog 37 #[.slice a len cap, .agg #[.string s, .string p, .string o]] w fun e w' => e = .returned (filledV ts s p o) ∧ Below w.heap.size w w' := by
  have H := Lib.hid h
  have HM := Lib.hid hsm
  clear h hsm
  have B0 : Below w.heap.size w ((w.alloc (.cells #[.string s, .string p, .string o] 23)).alloc (.cells #[.string ⟨#[]⟩, .string ⟨#[]⟩, .string ⟨#[]⟩] 23)) := ((Below.refl _ _).alloc (Nat.le_refl _) _).alloc (by simp) _
  have g0 : Box ((w.alloc (.cells #[.string s, .string p, .string o] 23)).alloc (.cells #[.string ⟨#[]⟩, .string ⟨#[]⟩, .string ⟨#[]⟩] 23)) w.heap.size (.string s) (.string p) (.string o) 23 := Box.alloc (Box.new w _ _ _ _) _
  have g1 : Box ((w.alloc (.cells #[.string s, .string p, .string o] 23)).alloc (.cells #[.string ⟨#[]⟩, .string ⟨#[]⟩, .string ⟨#[]⟩] 23)) (w.heap.size + 1) (.string ⟨#[]⟩) (.string ⟨#[]⟩) (.string ⟨#[]⟩) 23 := by
    have := Box.new (w.alloc (.cells #[.string s, .string p, .string o] 23)) (.string ⟨#[]⟩) (.string ⟨#[]⟩) (.string ⟨#[]⟩) 23
    unfold Box at this ⊢
    simpa using this
  have C1' := implRowOk a len cap ts _ (IsPres.next H.out B0) HM.out
  unfold filledV
  cases hq : rowOk ts
  all_goals
    rw [hq] at C1'
    have C1 := Lib.hid C1'
    have HQ := Lib.hid hq
    have BB := Lib.hid B0
    have G0 := Lib.hid g0
    have G1 := Lib.hid g1
    clear C1' hq B0 g0 g1
    go_enter Try.func37, Try.ntmps37
    go_wp2_with fail
    refine C1.out.mono ?_
    rintro e w1 ⟨rfl, hb1⟩
    obtain ⟨c0, c1, c2⟩ := (G0.out.next hb1).cells
    have g1 := G1.out.next hb1
    have B1 := Lib.hid (BB.out.trans (hb1.mono BB.out.size))
    clear hb1 C1
  · obtain ⟨a0, a1, a2⟩ := g1.cells
    obtain ⟨f0, f1, f2⟩ := g1.free
    go_wp2_with fail
    refine bodyPost_ret (v := .agg #[.string s, .string p, .string o]) (by simp [results, Try.results37, go_sem, *]) rfl ⟨rfl, below_set3 B1.out (w.heap.size + 1) (Nat.le_succ _) _ _ _⟩
  · have C2 := Lib.hid (implFilledBy a len cap ts s p o _ (IsPres.next H.out B1.out) (asc_ok HQ.out) hlen)
    have l1 := g1.lt
    have G2 := Lib.hid g1
    clear g1
    go_wp2_with fail
    refine C2.out.mono ?_
    rintro e w2 ⟨rfl, hb2⟩
    have g2 := G2.out.next hb2
    obtain ⟨a0, a1, a2⟩ := g2.cells
    obtain ⟨f0, f1, f2⟩ := g2.free
    have B2 := Lib.hid (B1.out.trans (hb2.mono B1.out.size))
    clear hb2 g2
    go_wp2_with fail
    refine bodyPost_ret (v := .agg #[.string (seen ts s), .string (seen ts p), .string (seen ts o)]) (by simp [results, Try.results37, go_sem, *]) rfl ⟨rfl, below_set3 B2.out (w.heap.size + 1) (Nat.le_succ _) _ _ _⟩
set_option maxRecDepth 100000 in
set_option maxHeartbeats 1600000 in
theorem specFilled (a : Option Addr) (len cap : Nat) (ts : List Pre2) (s p o : ByteArray) (w : World) (h : IsPres w a len cap ts) (hsm : SmP ts) (hlen : len ≤ 1048576) :
    Calls Try.prog 38 #[.slice a len cap, .agg #[.string s, .string p, .string o]] w fun e w' => e = .returned (filledV ts s p o) ∧ Below w.heap.size w w' := by
  have H := Lib.hid h
  have HM := Lib.hid hsm
  clear h hsm
  have B0 : Below w.heap.size w ((w.alloc (.cells #[.string s, .string p, .string o] 23)).alloc (.cells #[.string ⟨#[]⟩, .string ⟨#[]⟩, .string ⟨#[]⟩] 23)) := ((Below.refl _ _).alloc (Nat.le_refl _) _).alloc (by simp) _
  have g0 : Box ((w.alloc (.cells #[.string s, .string p, .string o] 23)).alloc (.cells #[.string ⟨#[]⟩, .string ⟨#[]⟩, .string ⟨#[]⟩] 23)) w.heap.size (.string s) (.string p) (.string o) 23 := Box.alloc (Box.new w _ _ _ _) _
  have g1 : Box ((w.alloc (.cells #[.string s, .string p, .string o] 23)).alloc (.cells #[.string ⟨#[]⟩, .string ⟨#[]⟩, .string ⟨#[]⟩] 23)) (w.heap.size + 1) (.string ⟨#[]⟩) (.string ⟨#[]⟩) (.string ⟨#[]⟩) 23 := by
    have := Box.new (w.alloc (.cells #[.string s, .string p, .string o] 23)) (.string ⟨#[]⟩) (.string ⟨#[]⟩) (.string ⟨#[]⟩) 23
    unfold Box at this ⊢
    simpa using this
  have C1' := specRowOk a len cap ts _ (IsPres.next H.out B0) HM.out
  unfold filledV
  cases hq : rowOk ts
  all_goals
    rw [hq] at C1'
    have C1 := Lib.hid C1'
    have HQ := Lib.hid hq
    have BB := Lib.hid B0
    have G0 := Lib.hid g0
    have G1 := Lib.hid g1
    clear C1' hq B0 g0 g1
    go_enter Try.func38, Try.ntmps38
    go_wp2_with fail
    refine C1.out.mono ?_
    rintro e w1 ⟨rfl, hb1⟩
    obtain ⟨c0, c1, c2⟩ := (G0.out.next hb1).cells
    have g1 := G1.out.next hb1
    have B1 := Lib.hid (BB.out.trans (hb1.mono BB.out.size))
    clear hb1 C1
  · obtain ⟨a0, a1, a2⟩ := g1.cells
    obtain ⟨f0, f1, f2⟩ := g1.free
    go_wp2_with fail
    refine bodyPost_ret (v := .agg #[.string s, .string p, .string o]) (by simp [results, Try.results38, go_sem, *]) rfl ⟨rfl, below_set3 B1.out (w.heap.size + 1) (Nat.le_succ _) _ _ _⟩
  · have C2 := Lib.hid (specFilledBy a len cap ts s p o _ (IsPres.next H.out B1.out) (asc_ok HQ.out) hlen)
    have l1 := g1.lt
    have G2 := Lib.hid g1
    clear g1
    go_wp2_with fail
    refine C2.out.mono ?_
    rintro e w2 ⟨rfl, hb2⟩
    have g2 := G2.out.next hb2
    obtain ⟨a0, a1, a2⟩ := g2.cells
    obtain ⟨f0, f1, f2⟩ := g2.free
    have B2 := Lib.hid (B1.out.trans (hb2.mono B1.out.size))
    clear hb2 g2
    go_wp2_with fail
    refine bodyPost_ret (v := .agg #[.string (seen ts s), .string (seen ts p), .string (seen ts o)]) (by simp [results, Try.results38, go_sem, *]) rfl ⟨rfl, below_set3 B2.out (w.heap.size + 1) (Nat.le_succ _) _ _ _⟩
end Go.Proofs.Ytapcbhpkbdlinaa
