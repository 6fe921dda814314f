/- The contracts of what a row gives for a triple. -/
import Derived.Test.YtbhlenjcahonnaaGreatJExactSolutions32
import Derived.Test.YtbhlenjcahonnaaGreatJExactSolutions13
import Derived.Test.YtbhlenjcahonnaaGreatJExactSolutions16
import Derived.Test.YtbhlenjcahonnaaGreatJExactSolutions17
import Derived.Deep.RegionHeld3
import Derived.Deep.RegionWith
import Derived.Test.YtbhlenjcahonnaaGreatJExactSolutions29
import Derived.Test.YtbhlenjcahonnaaGreatJExactSolutions31
import Derived.Deep.QuietTactic
import Derived.BigQuiet
namespace Go.Proofs.YtbhlenjcahonnaaGreat
open Go.RowKit Go.WideShapes
def filledV (ts : List Pre2) (s p o : ByteArray) : Value := match rowOk ts with
  | true => .agg #[.string (seen ts s), .string (seen ts p), .string (seen ts o)]
  | false => .agg #[.string s, .string p, .string o]
theorem below_set3 {B : Nat} {w w' : World} (h : Below B w w') (g : Nat) (hg : B ≤ g) (x y z : Value) : Below B w (((w'.setCell ⟨g, 0, none⟩ x).setCell ⟨g, 1, none⟩ y).setCell ⟨g, 2, none⟩ z) :=
  Below.setCell (Below.setCell (Below.setCell h (p := ⟨g, 0, none⟩) hg x) (p := ⟨g, 1, none⟩) hg y) (p := ⟨g, 2, none⟩) hg z
theorem cell_set3 {w : World} {g k j : Nat} {x y z : Value} (h : k ≠ g) : (((w.setCell ⟨g, 0, none⟩ x).setCell ⟨g, 1, none⟩ y).setCell ⟨g, 2, none⟩ z).cell? ⟨k, j, none⟩ = w.cell? ⟨k, j, none⟩ := by
  unfold World.cell?
  rw [Below.heap_setCell _ _ _ _ h, Below.heap_setCell _ _ _ _ h, Below.heap_setCell _ _ _ _ h]
theorem asc_ok {ts : List Pre2} (h : rowOk ts = true) : Asc ts := asc_of (by unfold rowOk at h; simp only [Bool.and_eq_true] at h; exact h.2)
set_option maxRecDepth 100000 in
set_option maxHeartbeats 3200000 in
theorem implFilledBy (a : Option Addr) (len cap : Nat) (ts : List Pre2) (s p o : ByteArray) (w : World) (h : IsPres w a len cap ts) (ha : Asc ts) (hlen : len ≤ 1048576) :
    Calls Tryz.prog 117 #[.slice a len cap, .agg #[.string s, .string p, .string o]] w fun e w' => e = .returned (.agg #[.string (seen ts s), .string (seen ts p), .string (seen ts o)]) ∧ Below w.heap.size w w' := by
  have H := Lib.hid h
  have HA := Lib.hid ha
  clear h ha
  go_enter Tryz.func117, Tryz.ntmps117
  go_wp2_with fail
  have B0 : Below w.heap.size w ((w.alloc (.cells #[.string s, .string p, .string o] 79)).alloc (.cells #[.string ⟨#[]⟩, .string ⟨#[]⟩, .string ⟨#[]⟩] 79)).drew := (((Below.refl _ _).alloc (Nat.le_refl _) _).alloc (by simp) _).drew
  have g0 : Box ((w.alloc (.cells #[.string s, .string p, .string o] 79)).alloc (.cells #[.string ⟨#[]⟩, .string ⟨#[]⟩, .string ⟨#[]⟩] 79)).drew w.heap.size (.string s) (.string p) (.string o) 79 := Box.drew (Box.alloc (Box.new w _ _ _ _) _)
  have g1 : Box ((w.alloc (.cells #[.string s, .string p, .string o] 79)).alloc (.cells #[.string ⟨#[]⟩, .string ⟨#[]⟩, .string ⟨#[]⟩] 79)).drew (w.heap.size + 1) (.string ⟨#[]⟩) (.string ⟨#[]⟩) (.string ⟨#[]⟩) 79 := by
    have := Box.drew (Box.new (w.alloc (.cells #[.string s, .string p, .string o] 79)) (.string ⟨#[]⟩) (.string ⟨#[]⟩) (.string ⟨#[]⟩) 79)
    unfold Box at this ⊢
    simpa using this
  have S0 := Lib.hid (⟨g0.cells.1, g0.cells.2.1, g0.cells.2.2, IsPres.next H.out B0⟩ : _ ∧ _ ∧ _ ∧ _)
  clear g0
  have B00 := Lib.hid B0
  clear B0
  go_region_held3 (fun w' => w'.cell? ⟨w.heap.size, 0, none⟩ = some (.string s) ∧ w'.cell? ⟨w.heap.size, 1, none⟩ = some (.string p) ∧ w'.cell? ⟨w.heap.size, 2, none⟩ = some (.string o) ∧ IsPres w' a len cap ts)
    (first | exact S0.out | (go_split_ands; refine ⟨?_, ?_, ?_, IsPres.next (by assumption) hb1⟩ <;> (rw [hb1.cell (World.block_lt_of_cell? _ _ (by assumption))]; assumption)) | (go_split_ands; refine ⟨?_, ?_, ?_, IsPres.next (by assumption) hb2⟩ <;> (rw [hb2.cell (World.block_lt_of_cell? _ _ (by assumption))]; assumption)) | (go_split_ands; refine ⟨?_, ?_, ?_, IsPres.next (by assumption) hb3⟩ <;> (rw [hb3.cell (World.block_lt_of_cell? _ _ (by assumption))]; assumption)) | (refine ⟨?_, ?_, ?_, IsPres.next H.out (below_set3 B33.out (w.heap.size + 1) (Nat.le_succ _) _ _ _)⟩ <;> (go_split_ands; rw [cell_set3 (Nat.ne_of_lt (Nat.lt_succ_self _))]; assumption)))
    (first
      | (go_at_call_of 136 (Value.string s); go_split_ands; refine (implValueIn a len cap ts s _ (by assumption) HA.out hlen).mono ?_; rintro e w1 ⟨rfl, hb1⟩; have g2 := g1.next hb1; have B11 := Lib.hid (B00.out.trans (hb1.mono B00.out.size)))
      | (go_at_call_of 136 (Value.string p); go_split_ands; refine (implValueIn a len cap ts p _ (by assumption) HA.out hlen).mono ?_; rintro e w2 ⟨rfl, hb2⟩; have g3 := g2.next hb2; have B22 := Lib.hid (B11.out.trans (hb2.mono B11.out.size)))
      | (go_at_call_of 136 (Value.string o); go_split_ands; refine (implValueIn a len cap ts o _ (by assumption) HA.out hlen).mono ?_; rintro e w3 ⟨rfl, hb3⟩; have g4 := g3.next hb3; have B33 := Lib.hid (B22.out.trans (hb3.mono B22.out.size)); obtain ⟨a0, a1, a2⟩ := g4.cells; obtain ⟨f0, f1, f2⟩ := g4.free))
  go_wp2_with fail
  refine bodyPost_ret (v := .agg #[.string (seen ts s), .string (seen ts p), .string (seen ts o)]) (by simp [results, Tryz.results117, go_sem, *]) rfl ⟨rfl, below_set3 B33.out (w.heap.size + 1) (Nat.le_succ _) _ _ _⟩
set_option maxRecDepth 100000 in
set_option maxHeartbeats 3200000 in
theorem specFilledBy (a : Option Addr) (len cap : Nat) (ts : List Pre2) (s p o : ByteArray) (w : World) (h : IsPres w a len cap ts) (ha : Asc ts) (hlen : len ≤ 1048576) :
    Calls Tryz.prog 95 #[.slice a len cap, .agg #[.string s, .string p, .string o]] w fun e w' => e = .returned (.agg #[.string (seen ts s), .string (seen ts p), .string (seen ts o)]) ∧ Below w.heap.size w w' := by
  have H := Lib.hid h
  have HA := Lib.hid ha
  clear h ha
  go_enter Tryz.func95, Tryz.ntmps95
  go_wp2_with fail
  have B0 : Below w.heap.size w ((w.alloc (.cells #[.string s, .string p, .string o] 79)).alloc (.cells #[.string ⟨#[]⟩, .string ⟨#[]⟩, .string ⟨#[]⟩] 79)).drew := (((Below.refl _ _).alloc (Nat.le_refl _) _).alloc (by simp) _).drew
  have g0 : Box ((w.alloc (.cells #[.string s, .string p, .string o] 79)).alloc (.cells #[.string ⟨#[]⟩, .string ⟨#[]⟩, .string ⟨#[]⟩] 79)).drew w.heap.size (.string s) (.string p) (.string o) 79 := Box.drew (Box.alloc (Box.new w _ _ _ _) _)
  have g1 : Box ((w.alloc (.cells #[.string s, .string p, .string o] 79)).alloc (.cells #[.string ⟨#[]⟩, .string ⟨#[]⟩, .string ⟨#[]⟩] 79)).drew (w.heap.size + 1) (.string ⟨#[]⟩) (.string ⟨#[]⟩) (.string ⟨#[]⟩) 79 := by
    have := Box.drew (Box.new (w.alloc (.cells #[.string s, .string p, .string o] 79)) (.string ⟨#[]⟩) (.string ⟨#[]⟩) (.string ⟨#[]⟩) 79)
    unfold Box at this ⊢
    simpa using this
  have S0 := Lib.hid (⟨g0.cells.1, g0.cells.2.1, g0.cells.2.2, IsPres.next H.out B0⟩ : _ ∧ _ ∧ _ ∧ _)
  clear g0
  have B00 := Lib.hid B0
  clear B0
  go_region_held3 (fun w' => w'.cell? ⟨w.heap.size, 0, none⟩ = some (.string s) ∧ w'.cell? ⟨w.heap.size, 1, none⟩ = some (.string p) ∧ w'.cell? ⟨w.heap.size, 2, none⟩ = some (.string o) ∧ IsPres w' a len cap ts)
    (first | exact S0.out | (go_split_ands; refine ⟨?_, ?_, ?_, IsPres.next (by assumption) hb1⟩ <;> (rw [hb1.cell (World.block_lt_of_cell? _ _ (by assumption))]; assumption)) | (go_split_ands; refine ⟨?_, ?_, ?_, IsPres.next (by assumption) hb2⟩ <;> (rw [hb2.cell (World.block_lt_of_cell? _ _ (by assumption))]; assumption)) | (go_split_ands; refine ⟨?_, ?_, ?_, IsPres.next (by assumption) hb3⟩ <;> (rw [hb3.cell (World.block_lt_of_cell? _ _ (by assumption))]; assumption)) | (refine ⟨?_, ?_, ?_, IsPres.next H.out (below_set3 B33.out (w.heap.size + 1) (Nat.le_succ _) _ _ _)⟩ <;> (go_split_ands; rw [cell_set3 (Nat.ne_of_lt (Nat.lt_succ_self _))]; assumption)))
    (first
      | (go_at_call_of 123 (Value.string s); go_split_ands; refine (specTerm a len cap ts s _ (by assumption) hlen).mono ?_; rintro e w1 ⟨rfl, hb1⟩; have g2 := g1.next hb1; have B11 := Lib.hid (B00.out.trans (hb1.mono B00.out.size)))
      | (go_at_call_of 123 (Value.string p); go_split_ands; refine (specTerm a len cap ts p _ (by assumption) hlen).mono ?_; rintro e w2 ⟨rfl, hb2⟩; have g3 := g2.next hb2; have B22 := Lib.hid (B11.out.trans (hb2.mono B11.out.size)))
      | (go_at_call_of 123 (Value.string o); go_split_ands; refine (specTerm a len cap ts o _ (by assumption) hlen).mono ?_; rintro e w3 ⟨rfl, hb3⟩; have g4 := g3.next hb3; have B33 := Lib.hid (B22.out.trans (hb3.mono B22.out.size)); obtain ⟨a0, a1, a2⟩ := g4.cells; obtain ⟨f0, f1, f2⟩ := g4.free))
  go_wp2_with fail
  refine bodyPost_ret (v := .agg #[.string (seen ts s), .string (seen ts p), .string (seen ts o)]) (by simp [results, Tryz.results95, go_sem, *]) rfl ⟨rfl, below_set3 B33.out (w.heap.size + 1) (Nat.le_succ _) _ _ _⟩
set_option maxRecDepth 100000 in
set_option maxHeartbeats 1600000 in
theorem implFilled (a : Option Addr) (len cap : Nat) (ts : List Pre2) (s p o : ByteArray) (w : World) (h : IsPres w a len cap ts) (hsm : SmP ts) (hlen : len ≤ 1048576) :
    Calls Tryz.prog 128 #[.slice a len cap, .agg #[.string s, .string p, .string o]] w fun e w' => e = .returned (filledV ts s p o) ∧ Below w.heap.size w w' := by
  have H := Lib.hid h
  have HM := Lib.hid hsm
  clear h hsm
  have B0 : Below w.heap.size w ((w.alloc (.cells #[.string s, .string p, .string o] 79)).alloc (.cells #[.string ⟨#[]⟩, .string ⟨#[]⟩, .string ⟨#[]⟩] 79)) := ((Below.refl _ _).alloc (Nat.le_refl _) _).alloc (by simp) _
  have g0 : Box ((w.alloc (.cells #[.string s, .string p, .string o] 79)).alloc (.cells #[.string ⟨#[]⟩, .string ⟨#[]⟩, .string ⟨#[]⟩] 79)) w.heap.size (.string s) (.string p) (.string o) 79 := Box.alloc (Box.new w _ _ _ _) _
  have g1 : Box ((w.alloc (.cells #[.string s, .string p, .string o] 79)).alloc (.cells #[.string ⟨#[]⟩, .string ⟨#[]⟩, .string ⟨#[]⟩] 79)) (w.heap.size + 1) (.string ⟨#[]⟩) (.string ⟨#[]⟩) (.string ⟨#[]⟩) 79 := by
    have := Box.new (w.alloc (.cells #[.string s, .string p, .string o] 79)) (.string ⟨#[]⟩) (.string ⟨#[]⟩) (.string ⟨#[]⟩) 79
    unfold Box at this ⊢
    simpa using this
  have C1' := implRowOk a len cap ts _ (IsPres.next H.out B0) HM.out
  unfold filledV
  cases hq : rowOk ts
  all_goals
    rw [hq] at C1'
    have C1 := Lib.hid C1'
    have HQ := Lib.hid hq
    have BB := Lib.hid B0
    have G0 := Lib.hid g0
    have G1 := Lib.hid g1
    clear C1' hq B0 g0 g1
    go_enter Tryz.func128, Tryz.ntmps128
    go_wp2_with fail
    refine C1.out.mono ?_
    rintro e w1 ⟨rfl, hb1⟩
    obtain ⟨c0, c1, c2⟩ := (G0.out.next hb1).cells
    have g1 := G1.out.next hb1
    have B1 := Lib.hid (BB.out.trans (hb1.mono BB.out.size))
    clear hb1 C1
  · obtain ⟨a0, a1, a2⟩ := g1.cells
    obtain ⟨f0, f1, f2⟩ := g1.free
    go_wp2_with fail
    refine bodyPost_ret (v := .agg #[.string s, .string p, .string o]) (by simp [results, Tryz.results128, go_sem, *]) rfl ⟨rfl, below_set3 B1.out (w.heap.size + 1) (Nat.le_succ _) _ _ _⟩
  · have C2 := Lib.hid (implFilledBy a len cap ts s p o _ (IsPres.next H.out B1.out) (asc_ok HQ.out) hlen)
    have l1 := g1.lt
    have G2 := Lib.hid g1
    clear g1
    go_wp2_with fail
    refine C2.out.mono ?_
    rintro e w2 ⟨rfl, hb2⟩
    have g2 := G2.out.next hb2
    obtain ⟨a0, a1, a2⟩ := g2.cells
    obtain ⟨f0, f1, f2⟩ := g2.free
    have B2 := Lib.hid (B1.out.trans (hb2.mono B1.out.size))
    clear hb2 g2
    go_wp2_with fail
    refine bodyPost_ret (v := .agg #[.string (seen ts s), .string (seen ts p), .string (seen ts o)]) (by simp [results, Tryz.results128, go_sem, *]) rfl ⟨rfl, below_set3 B2.out (w.heap.size + 1) (Nat.le_succ _) _ _ _⟩
end Go.Proofs.YtbhlenjcahonnaaGreat
/- A row and a triple: the program's own tests. -/
namespace Go.Proofs.YtbhlenjcahonnaaGreat
open Go.RowKit Go.WideShapes
def blankV (x : ByteArray) : ByteArray := if isVarK x.data.toList = true then ⟨#[]⟩ else x
def blankT (a : Tri3) : Tri3 := (blankV a.1, blankV a.2.1, blankV a.2.2)
def wv (x : ByteArray) (k j : Nat) : ByteArray := if k < j then blankV x else x
theorem Box.setc2 {w : World} {g : Nat} {x y z : Value} {T : TypeId} (h : Box w g x y z T) (u : Value) : Box (w.setCell ⟨g, 2, none⟩ u) g x y u T := by
  unfold Box at h ⊢
  simp [World.setCell, h, Array.getElem?_modify]
theorem box_at {w : World} {g : Nat} {s p o : ByteArray} {T : TypeId} (h : Box w g (.string s) (.string p) (.string o) T) : w.cell? ⟨g, 0, none⟩ = some (.string s) ∧ w.cell? ⟨g, 1, none⟩ = some (.string p) ∧ w.cell? ⟨g, 2, none⟩ = some (.string o) := h.cells
theorem words_cases {s p o : ByteArray} {j : Nat} {x : ByteArray} (hx : (wordsT (s, p, o))[j]? = some x) : (j = 0 ∧ s = x) ∨ (j = 1 ∧ p = x) ∨ (j = 2 ∧ o = x) := by
  have hj : j = 0 ∨ j = 1 ∨ j = 2 := by
    have := (List.getElem?_eq_some_iff.1 hx).1
    simp only [wordsT, List.length_cons, List.length_nil] at this; omega
  rcases hj with rfl | rfl | rfl
  · exact .inl ⟨rfl, by simpa [wordsT] using hx⟩
  · exact .inr (.inl ⟨rfl, by simpa [wordsT] using hx⟩)
  · exact .inr (.inr ⟨rfl, by simpa [wordsT] using hx⟩)
theorem blankV_no {x : ByteArray} (h : isVarK x.data.toList = false) : blankV x = x := by unfold blankV; rw [h]; rfl
theorem blankV_yes {x : ByteArray} (h : isVarK x.data.toList = true) : blankV x = ⟨#[]⟩ := by unfold blankV; rw [if_pos h]
theorem boxw_keep {w : World} {g j : Nat} {s p o x : ByteArray} {T : TypeId} (h : Box w g (.string (wv s 0 j)) (.string (wv p 1 j)) (.string (wv o 2 j)) T) (hx : (wordsT (s, p, o))[j]? = some x) (hv : isVarK x.data.toList = false) : Box w g (.string (wv s 0 (j + 1))) (.string (wv p 1 (j + 1))) (.string (wv o 2 (j + 1))) T := by
  rcases words_cases hx with ⟨rfl, rfl⟩ | ⟨rfl, rfl⟩ | ⟨rfl, rfl⟩ <;> simpa [wv, blankV_no hv] using h
theorem boxw_set {w : World} {g j : Nat} {s p o x : ByteArray} {T : TypeId} (h : Box w g (.string (wv s 0 j)) (.string (wv p 1 j)) (.string (wv o 2 j)) T) (hx : (wordsT (s, p, o))[j]? = some x) (hv : isVarK x.data.toList = true) : Box (w.setCell ⟨g, j, none⟩ (.string ⟨#[]⟩)) g (.string (wv s 0 (j + 1))) (.string (wv p 1 (j + 1))) (.string (wv o 2 (j + 1))) T := by
  rcases words_cases hx with ⟨rfl, rfl⟩ | ⟨rfl, rfl⟩ | ⟨rfl, rfl⟩
  · simpa [wv, blankV_yes hv] using h.set0 (.string ⟨#[]⟩)
  · simpa [wv, blankV_yes hv] using h.set1 (.string ⟨#[]⟩)
  · simpa [wv, blankV_yes hv] using h.setc2 (.string ⟨#[]⟩)
theorem boxw_at {w : World} {g j : Nat} {s p o : ByteArray} {T : TypeId} (h : Box w g (.string s) (.string p) (.string o) T) (hj : j < 3) : ∃ u, w.cell? ⟨g, j, none⟩ = some (.string u) ∧ w.frozen? ⟨g, j, none⟩ = false := by
  obtain ⟨c0, c1, c2⟩ := h.cells
  obtain ⟨f0, f1, f2⟩ := h.free
  have hj' : j = 0 ∨ j = 1 ∨ j = 2 := by omega
  rcases hj' with rfl | rfl | rfl
  · exact ⟨_, c0, f0⟩
  · exact ⟨_, c1, f1⟩
  · exact ⟨_, c2, f2⟩
set_option maxRecDepth 100000 in
set_option maxHeartbeats 3200000 in
theorem implWithoutVars (s p o : ByteArray) (w : World) (hs : s.size ≤ 2097152 ∧ p.size ≤ 2097152 ∧ o.size ≤ 2097152) :
    Calls Tryz.prog 118 #[.agg #[.string s, .string p, .string o]] w fun e w' => e = .returned (.agg #[.string (blankV s), .string (blankV p), .string (blankV o)]) ∧ Below w.heap.size w w' := by
  obtain ⟨hs1, hs2, hs3⟩ := hs
  have B0 : Below w.heap.size w ((w.alloc (.cells #[.string s, .string p, .string o] 79)).alloc (.cells #[.string ⟨#[]⟩, .string ⟨#[]⟩, .string ⟨#[]⟩] 79)) := ((Below.refl _ _).alloc (Nat.le_refl _) _).alloc (by simp) _
  have g0 : Box ((w.alloc (.cells #[.string s, .string p, .string o] 79)).alloc (.cells #[.string ⟨#[]⟩, .string ⟨#[]⟩, .string ⟨#[]⟩] 79)) w.heap.size (.string s) (.string p) (.string o) 79 := Box.alloc (Box.new w _ _ _ _) _
  have g1 : Box ((w.alloc (.cells #[.string s, .string p, .string o] 79)).alloc (.cells #[.string ⟨#[]⟩, .string ⟨#[]⟩, .string ⟨#[]⟩] 79)) (w.heap.size + 1) (.string ⟨#[]⟩) (.string ⟨#[]⟩) (.string ⟨#[]⟩) 79 := by
    have := Box.new (w.alloc (.cells #[.string s, .string p, .string o] 79)) (.string ⟨#[]⟩) (.string ⟨#[]⟩) (.string ⟨#[]⟩) 79
    unfold Box at this ⊢
    simpa using this
  obtain ⟨c0, c1, c2⟩ := g0.cells
  have CP := Lib.hid (fun W => implParts s p o W)
  go_enter Tryz.func118, Tryz.ntmps118
  go_wp2_with fail
  refine (CP.out _).mono ?_
  rintro e w3 ⟨rfl, hb3⟩
  have B3 := B0.trans (hb3.mono B0.size)
  have hz3 : w.heap.size + 1 < w3.heap.size := by have := hb3.size; simp at this; omega
  have G1 := Lib.hid (g1.next hb3)
  have T1 := Lib.hid (Box.new w3 (.string s) (.string p) (.string o) 169)
  have B4 := Lib.hid (B3.alloc B3.size (.cells #[.string s, .string p, .string o] 169))
  have G2 := Lib.hid (G1.out.alloc (.cells #[.string s, .string p, .string o] 169))
  clear c0 c1 c2 g0 g1 hb3 B0 CP G1 B3
  go_wp2_with fail
  have hgb : w.heap.size ≤ w3.heap.size := by omega
  have hgn : w.heap.size + 1 ≠ w3.heap.size := by omega
  generalize w3.alloc (.cells #[.string s, .string p, .string o] 169) = w4 at T1 B4 G2 ⊢
  generalize w3.heap.size = gb at T1 hgb hgn hz3 ⊢
  clear hz3
  have HS : Hid (∀ (j : Nat) (x : ByteArray), (wordsT (s, p, o))[j]? = some x → x.size ≤ 2097152) := Lib.hid (fun j x hx => by
    have hj : j = 0 ∨ j = 1 ∨ j = 2 := by
      have := (List.getElem?_eq_some_iff.1 hx).1
      simp only [wordsT, List.length_cons, List.length_nil] at this; omega
    rcases hj with rfl | rfl | rfl
    · obtain rfl : s = x := by simpa [wordsT] using hx
      exact hs1
    · obtain rfl : p = x := by simpa [wordsT] using hx
      exact hs2
    · obtain rfl : o = x := by simpa [wordsT] using hx
      exact hs3)
  go_loopw [9] (fun i wr => ∃ j : Nat, j ≤ 3 ∧ i = .int .i64 j ∧ Hid (Box wr gb (.string (wv s 0 j)) (.string (wv p 1 j)) (.string (wv o 2 j)) 169) ∧ Hid (Box wr (w.heap.size + 1) (.string ⟨#[]⟩) (.string ⟨#[]⟩) (.string ⟨#[]⟩) 79) ∧ Below w.heap.size w wr) (fun i _ => 3 - (intOf i).toNat)
  case atStart => exact ⟨0, by omega, rfl, by simpa [wv] using T1, G2, B4.out⟩
  case round =>
    obtain ⟨j, hj, rfl, HT, HG, hnx⟩ := hrel
    clear T1 G2 B4
    have hj6 : (0 : Int) ≤ (j : Int) := by omega
    by_cases hlj : j < 3
    · have hxx : (wordsT (s, p, o))[j]? = some ((wordsT (s, p, o))[j]'(by simp only [wordsT, List.length_cons, List.length_nil]; omega)) := List.getElem?_eq_getElem _
      generalize (wordsT (s, p, o))[j]'(by simp only [wordsT, List.length_cons, List.length_nil]; omega) = x at hxx
      have hx1 := HS.out j x hxx
      have hidx := index3 s p o j x hxx
      have CV' := implIsVar x hx1
      have hj7 : (j : Int) < 3 := by omega
      have HXX := Lib.hid hxx
      obtain ⟨q, hbq⟩ : ∃ q, isVarK x.data.toList = q := ⟨_, rfl⟩
      rw [hbq] at CV'
      have CV := Lib.hid CV'
      have HBQ := Lib.hid hbq
      clear CV' hbq hxx
      go_wp2_with fail
      clear hidx
      refine (CV.out _).mono ?_
      rintro e w5 ⟨rfl, hb5⟩
      have B5 := hnx.trans (hb5.mono hnx.size)
      have HT5 := Lib.hid (HT.out.next hb5)
      have HG5 := Lib.hid (HG.out.next hb5)
      clear hb5 hnx CV HT HG
      cases q
      · have HT6 := Lib.hid (boxw_keep HT5.out HXX.out HBQ.out)
        clear HT5
        go_wp2_with fail
        go_roundw
        case rel => exact ⟨j + 1, by omega, by go_num, HT6, HG5, B5⟩
        case measure => simp [intOf]; omega
      · obtain ⟨u, cj, fj⟩ := boxw_at HT5.out hlj
        have HT6 := Lib.hid (boxw_set HT5.out HXX.out HBQ.out)
        have HG6 := Lib.hid (HG5.out.far (a := ⟨gb, j, none⟩) hgn (.string ⟨#[]⟩))
        have B6 := B5.setCell (p := ⟨gb, j, none⟩) hgb (.string ⟨#[]⟩)
        clear HT5 HG5 B5
        go_wp2_with fail
        go_roundw
        case rel => exact ⟨j + 1, by omega, by go_num, HT6, HG6, B6⟩
        case measure => simp [intOf]; omega
    · have hT : Box wr gb (.string (blankV s)) (.string (blankV p)) (.string (blankV o)) 169 := by
        have h1 := HT.out
        obtain rfl : j = 3 := by omega
        simpa [wv] using h1
      obtain ⟨c0, c1, c2⟩ := hT.cells
      obtain ⟨a0, a1, a2⟩ := HG.out.cells
      obtain ⟨f0, f1, f2⟩ := HG.out.free
      clear HT hT HG
      go_wp2_with fail
      refine bodyPost_ret (v := .agg #[.string (blankV s), .string (blankV p), .string (blankV o)]) (by simp [results, Tryz.results118, go_sem, *]) rfl ⟨rfl, below_set3 hnx (w.heap.size + 1) (Nat.le_succ _) _ _ _⟩
end Go.Proofs.YtbhlenjcahonnaaGreat
