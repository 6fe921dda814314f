/- The orders of a store: the program's functions. -/
import Derived.Test.YtapcbhpkbdlinaaCmpT
import Derived.Test.YtapcbhpkbdlinaaStoM
import Derived.Deep.RegionHeld3
namespace Go.Proofs.Ytapcbhpkbdlinaa
open Go.RowKit Go.Sort Go.Shelf
def aggT (t : Tri3) : Value := .agg #[.string t.1, .string t.2.1, .string t.2.2]
def cmpH (h : Nat) (x y : Tri3) : Int := cmpT (turnT h x) (turnT h y)
theorem modify_append {α : Type} (x y : Array α) (g : Nat) (F : α → α) (h : x.size ≤ g) : (x ++ y).modify g F = x ++ y.modify (g - x.size) F := by
  apply Array.ext_getElem?
  intro i
  rw [Array.getElem?_modify, Array.getElem?_append, Array.getElem?_append]
  by_cases hi : i < x.size
  · have : g ≠ i := by omega
    simp [hi, this]
  · simp only [hi, if_false, Array.getElem?_modify]
    by_cases e : g = i
    · subst e; simp
    · have : g - x.size ≠ i - x.size := by omega
      simp [e, this]
theorem GrowsD.setCell {a b : World} (h : GrowsD a b) {g : Nat} (hg : a.heap.size ≤ g) (j : Nat) (v : Value) : GrowsD a (b.setCell ⟨g, j, none⟩ v) := by
  obtain ⟨q, os, rfl⟩ := h
  refine ⟨q, os.modify (g - a.heap.size) (fun o => match o with | .cells c e f => .cells (c.setIfInBounds j v) e f | o => o), ?_⟩
  unfold World.setCell grow
  congr 1
  exact modify_append _ _ _ _ hg
/-- What an order's function does. -/
def Turns (f h : Nat) : Prop := ∀ (t : Tri3) (w : World), Calls Try.prog f #[.agg #[.string t.1, .string t.2.1, .string t.2.2]] w fun e w' => e = .returned (.agg #[.string (turnT h t).1, .string (turnT h t).2.1, .string (turnT h t).2.2]) ∧ GrowsD w w'
theorem agg_new (w : World) (x y z : Value) (T : TypeId) : GrowsD w (w.alloc (.cells #[x, y, z] T)) := (GrowsD.refl w).alloc _
theorem posTurns : Turns 99 1 := fun t w => by
  go_enter Try.func99, Try.ntmps99
  go_wp2_with fail
  refine bodyPost_ret (v := .agg #[.string t.2.1, .string t.2.2, .string t.1]) (by simp [results, Try.results99, go_sem, *]) rfl ⟨rfl, ?_⟩
  exact ((GrowsD.refl w).alloc _).alloc _
theorem ospTurns : Turns 100 2 := fun t w => by
  go_enter Try.func100, Try.ntmps100
  go_wp2_with fail
  refine bodyPost_ret (v := .agg #[.string t.2.2, .string t.1, .string t.2.1]) (by simp [results, Try.results100, go_sem, *]) rfl ⟨rfl, ?_⟩
  exact ((GrowsD.refl w).alloc _).alloc _
set_option maxRecDepth 100000 in
set_option maxHeartbeats 1600000 in
theorem implByPos (s p o s' p' o' : ByteArray) (bx : Nat) (W : World) (hc : W.cell? ⟨bx, 0, none⟩ = some (.func (.func 99) #[] #[])) :
    Calls Try.prog 136 #[.agg #[.string s, .string p, .string o], .agg #[.string s', .string p', .string o'], .pointer (some ⟨bx, 0, none⟩)] W fun e w' => e = .returned (.int .i64 (cmpH 1 (s, p, o) (s', p', o'))) ∧ GrowsD W w' := by
  have T1 := Lib.hid (fun W => posTurns (s, p, o) W)
  have T2 := Lib.hid (fun W => posTurns (s', p', o') W)
  have C := Lib.hid (fun W => implCompare (turnT 1 (s, p, o)) (turnT 1 (s', p', o')) W)
  simp only [turnT_one] at T1 T2 C
  have HR : Hid (cmpH 1 (s, p, o) (s', p', o') = cmpT (p, o, s) (p', o', s')) := Lib.hid rfl
  have hbx := World.block_lt_of_cell? _ _ hc
  simp only at hbx
  have X0 := (Box.new W (.string s) (.string p) (.string o) 23).alloc (.cells #[.string s', .string p', .string o'] 23)
  have Y0 := Box.new (W.alloc (.cells #[.string s, .string p, .string o] 23)) (.string s') (.string p') (.string o') 23
  rw [World.size_alloc] at Y0
  have G0 := ((GrowsD.refl W).alloc (.cells #[.string s, .string p, .string o] 23)).alloc (.cells #[.string s', .string p', .string o'] 23)
  have hc2 : ((W.alloc (.cells #[.string s, .string p, .string o] 23)).alloc (.cells #[.string s', .string p', .string o'] 23)).cell? ⟨bx, 0, none⟩ = some (.func (.func 99) #[] #[]) := by
    rw [G0.below.cell (p := ⟨bx, 0, none⟩) hbx]; exact hc
  generalize cmpT (p, o, s) (p', o', s') = cc at C HR
  have GG := Lib.hid G0
  have XX := Lib.hid X0
  have YY := Lib.hid Y0
  have CC := Lib.hid hc2
  obtain ⟨a0, a1, a2⟩ := X0.drew.cells
  obtain ⟨b0, b1, b2⟩ := Y0.drew.cells
  have k2 := hc2
  rw [← World.cell?_drew] at k2
  clear G0 X0 Y0 hc hc2
  go_enter Try.func136, Try.ntmps136
  go_wp2_with fail
  go_region_held3 (fun w' => w'.cell? ⟨bx, 0, none⟩ = some (.func (.func 99) #[] #[]) ∧ w'.cell? ⟨W.heap.size, 0, none⟩ = some (.string s) ∧ w'.cell? ⟨W.heap.size, 1, none⟩ = some (.string p) ∧ w'.cell? ⟨W.heap.size, 2, none⟩ = some (.string o) ∧ w'.cell? ⟨W.heap.size + 1, 0, none⟩ = some (.string s') ∧ w'.cell? ⟨W.heap.size + 1, 1, none⟩ = some (.string p') ∧ w'.cell? ⟨W.heap.size + 1, 2, none⟩ = some (.string o'))
    (first | go_keep | (go_split_ands; refine ⟨?_, ?_, ?_, ?_, ?_, ?_, ?_⟩ <;> (rw [g2.below.cell (World.block_lt_of_cell? _ _ (by assumption))]; assumption)) | (go_split_ands; refine ⟨?_, ?_, ?_, ?_, ?_, ?_, ?_⟩ <;> (rw [g1.below.cell (World.block_lt_of_cell? _ _ (by assumption))]; assumption)) | (go_split_ands; refine ⟨?_, ?_, ?_, ?_, ?_, ?_, ?_⟩ <;> (rw [g3.below.cell (World.block_lt_of_cell? _ _ (by assumption))]; assumption)))
    (first
      | (go_at_call_of 99 (Value.agg #[.string s, .string p, .string o]); refine (T1.out _).mono ?_; rintro e w1 ⟨rfl, g1⟩)
      | (go_at_call_of 99 (Value.agg #[.string s', .string p', .string o']); refine (T2.out _).mono ?_; rintro e w2 ⟨rfl, g2⟩)
      | (go_at_call 137; refine (C.out _).mono ?_; rintro e w3 ⟨rfl, g3⟩))
  all_goals
    go_wp2_with fail
    go_ret
    exact ⟨by rw [HR.out]; rfl, ((GG.out.drew.trans g1).trans g2).trans g3⟩
set_option maxRecDepth 100000 in
set_option maxHeartbeats 1600000 in
theorem implByOsp (s p o s' p' o' : ByteArray) (bx : Nat) (W : World) (hc : W.cell? ⟨bx, 0, none⟩ = some (.func (.func 100) #[] #[])) :
    Calls Try.prog 136 #[.agg #[.string s, .string p, .string o], .agg #[.string s', .string p', .string o'], .pointer (some ⟨bx, 0, none⟩)] W fun e w' => e = .returned (.int .i64 (cmpH 2 (s, p, o) (s', p', o'))) ∧ GrowsD W w' := by
  have T1 := Lib.hid (fun W => ospTurns (s, p, o) W)
  have T2 := Lib.hid (fun W => ospTurns (s', p', o') W)
  have C := Lib.hid (fun W => implCompare (turnT 2 (s, p, o)) (turnT 2 (s', p', o')) W)
  simp only [turnT_two] at T1 T2 C
  have HR : Hid (cmpH 2 (s, p, o) (s', p', o') = cmpT (o, s, p) (o', s', p')) := Lib.hid rfl
  have hbx := World.block_lt_of_cell? _ _ hc
  simp only at hbx
  have X0 := (Box.new W (.string s) (.string p) (.string o) 23).alloc (.cells #[.string s', .string p', .string o'] 23)
  have Y0 := Box.new (W.alloc (.cells #[.string s, .string p, .string o] 23)) (.string s') (.string p') (.string o') 23
  rw [World.size_alloc] at Y0
  have G0 := ((GrowsD.refl W).alloc (.cells #[.string s, .string p, .string o] 23)).alloc (.cells #[.string s', .string p', .string o'] 23)
  have hc2 : ((W.alloc (.cells #[.string s, .string p, .string o] 23)).alloc (.cells #[.string s', .string p', .string o'] 23)).cell? ⟨bx, 0, none⟩ = some (.func (.func 100) #[] #[]) := by
    rw [G0.below.cell (p := ⟨bx, 0, none⟩) hbx]; exact hc
  generalize cmpT (o, s, p) (o', s', p') = cc at C HR
  have GG := Lib.hid G0
  have XX := Lib.hid X0
  have YY := Lib.hid Y0
  have CC := Lib.hid hc2
  obtain ⟨a0, a1, a2⟩ := X0.drew.cells
  obtain ⟨b0, b1, b2⟩ := Y0.drew.cells
  have k2 := hc2
  rw [← World.cell?_drew] at k2
  clear G0 X0 Y0 hc hc2
  go_enter Try.func136, Try.ntmps136
  go_wp2_with fail
  go_region_held3 (fun w' => w'.cell? ⟨bx, 0, none⟩ = some (.func (.func 100) #[] #[]) ∧ w'.cell? ⟨W.heap.size, 0, none⟩ = some (.string s) ∧ w'.cell? ⟨W.heap.size, 1, none⟩ = some (.string p) ∧ w'.cell? ⟨W.heap.size, 2, none⟩ = some (.string o) ∧ w'.cell? ⟨W.heap.size + 1, 0, none⟩ = some (.string s') ∧ w'.cell? ⟨W.heap.size + 1, 1, none⟩ = some (.string p') ∧ w'.cell? ⟨W.heap.size + 1, 2, none⟩ = some (.string o'))
    (first | go_keep | (go_split_ands; refine ⟨?_, ?_, ?_, ?_, ?_, ?_, ?_⟩ <;> (rw [g2.below.cell (World.block_lt_of_cell? _ _ (by assumption))]; assumption)) | (go_split_ands; refine ⟨?_, ?_, ?_, ?_, ?_, ?_, ?_⟩ <;> (rw [g1.below.cell (World.block_lt_of_cell? _ _ (by assumption))]; assumption)) | (go_split_ands; refine ⟨?_, ?_, ?_, ?_, ?_, ?_, ?_⟩ <;> (rw [g3.below.cell (World.block_lt_of_cell? _ _ (by assumption))]; assumption)))
    (first
      | (go_at_call_of 100 (Value.agg #[.string s, .string p, .string o]); refine (T1.out _).mono ?_; rintro e w1 ⟨rfl, g1⟩)
      | (go_at_call_of 100 (Value.agg #[.string s', .string p', .string o']); refine (T2.out _).mono ?_; rintro e w2 ⟨rfl, g2⟩)
      | (go_at_call 137; refine (C.out _).mono ?_; rintro e w3 ⟨rfl, g3⟩))
  all_goals
    go_wp2_with fail
    go_ret
    exact ⟨by rw [HR.out]; rfl, ((GG.out.drew.trans g1).trans g2).trans g3⟩
end Go.Proofs.Ytapcbhpkbdlinaa
