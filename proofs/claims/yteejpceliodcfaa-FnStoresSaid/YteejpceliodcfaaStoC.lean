/- The orders of a store: the program's functions. -/
import Derived.Test.YteejpceliodcfaaCmpT
import Derived.Test.YteejpceliodcfaaStoM
import Derived.Deep.RegionHeld3
import Derived.Test.YteejpceliodcfaaSortM
import Derived.Test.YteejpceliodcfaaFlat
namespace Go.Proofs.Yteejpceliodcfaa
open Go.RowKit Go.Sort Go.Shelf
def aggT (t : Tri3) : Value := .agg #[.string t.1, .string t.2.1, .string t.2.2]
def cmpH (h : Nat) (x y : Tri3) : Int := cmpT (turnT h x) (turnT h y)
theorem modify_append {α : Type} (x y : Array α) (g : Nat) (F : α → α) (h : x.size ≤ g) : (x ++ y).modify g F = x ++ y.modify (g - x.size) F := by
  apply Array.ext_getElem?
  intro i
  rw [Array.getElem?_modify, Array.getElem?_append, Array.getElem?_append]
  by_cases hi : i < x.size
  · have : g ≠ i := by omega
    simp [hi, this]
  · simp only [hi, if_false, Array.getElem?_modify]
    by_cases e : g = i
    · subst e; simp
    · have : g - x.size ≠ i - x.size := by omega
      simp [e, this]
theorem GrowsD.setCell {a b : World} (h : GrowsD a b) {g : Nat} (hg : a.heap.size ≤ g) (j : Nat) (v : Value) : GrowsD a (b.setCell ⟨g, j, none⟩ v) := by
  obtain ⟨q, os, rfl⟩ := h
  refine ⟨q, os.modify (g - a.heap.size) (fun o => match o with | .cells c e f => .cells (c.setIfInBounds j v) e f | o => o), ?_⟩
  unfold World.setCell grow
  congr 1
  exact modify_append _ _ _ _ hg
/-- What an order's function does. -/
def Turns (f h : Nat) : Prop := ∀ (t : Tri3) (w : World), Calls Try.prog f #[.agg #[.string t.1, .string t.2.1, .string t.2.2]] w fun e w' => e = .returned (.agg #[.string (turnT h t).1, .string (turnT h t).2.1, .string (turnT h t).2.2]) ∧ GrowsD w w'
theorem agg_new (w : World) (x y z : Value) (T : TypeId) : GrowsD w (w.alloc (.cells #[x, y, z] T)) := (GrowsD.refl w).alloc _
theorem posTurns : Turns 66 1 := fun t w => by
  go_enter Try.func66, Try.ntmps66
  go_wp2_with fail
  refine bodyPost_ret (v := .agg #[.string t.2.1, .string t.2.2, .string t.1]) (by simp [results, Try.results66, go_sem, *]) rfl ⟨rfl, ?_⟩
  exact ((GrowsD.refl w).alloc _).alloc _
theorem ospTurns : Turns 67 2 := fun t w => by
  go_enter Try.func67, Try.ntmps67
  go_wp2_with fail
  refine bodyPost_ret (v := .agg #[.string t.2.2, .string t.1, .string t.2.1]) (by simp [results, Try.results67, go_sem, *]) rfl ⟨rfl, ?_⟩
  exact ((GrowsD.refl w).alloc _).alloc _
set_option maxRecDepth 100000 in
set_option maxHeartbeats 1600000 in
theorem implByPos (s p o s' p' o' : ByteArray) (bx : Nat) (W : World) (hc : W.cell? ⟨bx, 0, none⟩ = some (.func (.func 66) #[] #[])) :
    Calls Try.prog 108 #[.agg #[.string s, .string p, .string o], .agg #[.string s', .string p', .string o'], .pointer (some ⟨bx, 0, none⟩)] W fun e w' => e = .returned (.int .i64 (cmpH 1 (s, p, o) (s', p', o'))) ∧ GrowsD W w' := by
  have T1 := Lib.hid (fun W => posTurns (s, p, o) W)
  have T2 := Lib.hid (fun W => posTurns (s', p', o') W)
  have C := Lib.hid (fun W => implCompare (turnT 1 (s, p, o)) (turnT 1 (s', p', o')) W)
  simp only [turnT_one] at T1 T2 C
  have HR : Hid (cmpH 1 (s, p, o) (s', p', o') = cmpT (p, o, s) (p', o', s')) := Lib.hid rfl
  have hbx := World.block_lt_of_cell? _ _ hc
  simp only at hbx
  have X0 := (Box.new W (.string s) (.string p) (.string o) 46).alloc (.cells #[.string s', .string p', .string o'] 46)
  have Y0 := Box.new (W.alloc (.cells #[.string s, .string p, .string o] 46)) (.string s') (.string p') (.string o') 46
  rw [World.size_alloc] at Y0
  have G0 := ((GrowsD.refl W).alloc (.cells #[.string s, .string p, .string o] 46)).alloc (.cells #[.string s', .string p', .string o'] 46)
  have hc2 : ((W.alloc (.cells #[.string s, .string p, .string o] 46)).alloc (.cells #[.string s', .string p', .string o'] 46)).cell? ⟨bx, 0, none⟩ = some (.func (.func 66) #[] #[]) := by
    rw [G0.below.cell (p := ⟨bx, 0, none⟩) hbx]; exact hc
  generalize cmpT (p, o, s) (p', o', s') = cc at C HR
  have GG := Lib.hid G0
  have XX := Lib.hid X0
  have YY := Lib.hid Y0
  have CC := Lib.hid hc2
  obtain ⟨a0, a1, a2⟩ := X0.drew.cells
  obtain ⟨b0, b1, b2⟩ := Y0.drew.cells
  have k2 := hc2
  rw [← World.cell?_drew] at k2
  clear G0 X0 Y0 hc hc2
  go_enter Try.func108, Try.ntmps108
  go_wp2_with fail
  go_region_held3 (fun w' => w'.cell? ⟨bx, 0, none⟩ = some (.func (.func 66) #[] #[]) ∧ w'.cell? ⟨W.heap.size, 0, none⟩ = some (.string s) ∧ w'.cell? ⟨W.heap.size, 1, none⟩ = some (.string p) ∧ w'.cell? ⟨W.heap.size, 2, none⟩ = some (.string o) ∧ w'.cell? ⟨W.heap.size + 1, 0, none⟩ = some (.string s') ∧ w'.cell? ⟨W.heap.size + 1, 1, none⟩ = some (.string p') ∧ w'.cell? ⟨W.heap.size + 1, 2, none⟩ = some (.string o'))
    (first | go_keep | (go_split_ands; refine ⟨?_, ?_, ?_, ?_, ?_, ?_, ?_⟩ <;> (rw [g2.below.cell (World.block_lt_of_cell? _ _ (by assumption))]; assumption)) | (go_split_ands; refine ⟨?_, ?_, ?_, ?_, ?_, ?_, ?_⟩ <;> (rw [g1.below.cell (World.block_lt_of_cell? _ _ (by assumption))]; assumption)) | (go_split_ands; refine ⟨?_, ?_, ?_, ?_, ?_, ?_, ?_⟩ <;> (rw [g3.below.cell (World.block_lt_of_cell? _ _ (by assumption))]; assumption)))
    (first
      | (go_at_call_of 66 (Value.agg #[.string s, .string p, .string o]); refine (T1.out _).mono ?_; rintro e w1 ⟨rfl, g1⟩)
      | (go_at_call_of 66 (Value.agg #[.string s', .string p', .string o']); refine (T2.out _).mono ?_; rintro e w2 ⟨rfl, g2⟩)
      | (go_at_call 109; refine (C.out _).mono ?_; rintro e w3 ⟨rfl, g3⟩))
  all_goals
    go_wp2_with fail
    go_ret
    exact ⟨by rw [HR.out]; rfl, ((GG.out.drew.trans g1).trans g2).trans g3⟩
set_option maxRecDepth 100000 in
set_option maxHeartbeats 1600000 in
theorem implByOsp (s p o s' p' o' : ByteArray) (bx : Nat) (W : World) (hc : W.cell? ⟨bx, 0, none⟩ = some (.func (.func 67) #[] #[])) :
    Calls Try.prog 108 #[.agg #[.string s, .string p, .string o], .agg #[.string s', .string p', .string o'], .pointer (some ⟨bx, 0, none⟩)] W fun e w' => e = .returned (.int .i64 (cmpH 2 (s, p, o) (s', p', o'))) ∧ GrowsD W w' := by
  have T1 := Lib.hid (fun W => ospTurns (s, p, o) W)
  have T2 := Lib.hid (fun W => ospTurns (s', p', o') W)
  have C := Lib.hid (fun W => implCompare (turnT 2 (s, p, o)) (turnT 2 (s', p', o')) W)
  simp only [turnT_two] at T1 T2 C
  have HR : Hid (cmpH 2 (s, p, o) (s', p', o') = cmpT (o, s, p) (o', s', p')) := Lib.hid rfl
  have hbx := World.block_lt_of_cell? _ _ hc
  simp only at hbx
  have X0 := (Box.new W (.string s) (.string p) (.string o) 46).alloc (.cells #[.string s', .string p', .string o'] 46)
  have Y0 := Box.new (W.alloc (.cells #[.string s, .string p, .string o] 46)) (.string s') (.string p') (.string o') 46
  rw [World.size_alloc] at Y0
  have G0 := ((GrowsD.refl W).alloc (.cells #[.string s, .string p, .string o] 46)).alloc (.cells #[.string s', .string p', .string o'] 46)
  have hc2 : ((W.alloc (.cells #[.string s, .string p, .string o] 46)).alloc (.cells #[.string s', .string p', .string o'] 46)).cell? ⟨bx, 0, none⟩ = some (.func (.func 67) #[] #[]) := by
    rw [G0.below.cell (p := ⟨bx, 0, none⟩) hbx]; exact hc
  generalize cmpT (o, s, p) (o', s', p') = cc at C HR
  have GG := Lib.hid G0
  have XX := Lib.hid X0
  have YY := Lib.hid Y0
  have CC := Lib.hid hc2
  obtain ⟨a0, a1, a2⟩ := X0.drew.cells
  obtain ⟨b0, b1, b2⟩ := Y0.drew.cells
  have k2 := hc2
  rw [← World.cell?_drew] at k2
  clear G0 X0 Y0 hc hc2
  go_enter Try.func108, Try.ntmps108
  go_wp2_with fail
  go_region_held3 (fun w' => w'.cell? ⟨bx, 0, none⟩ = some (.func (.func 67) #[] #[]) ∧ w'.cell? ⟨W.heap.size, 0, none⟩ = some (.string s) ∧ w'.cell? ⟨W.heap.size, 1, none⟩ = some (.string p) ∧ w'.cell? ⟨W.heap.size, 2, none⟩ = some (.string o) ∧ w'.cell? ⟨W.heap.size + 1, 0, none⟩ = some (.string s') ∧ w'.cell? ⟨W.heap.size + 1, 1, none⟩ = some (.string p') ∧ w'.cell? ⟨W.heap.size + 1, 2, none⟩ = some (.string o'))
    (first | go_keep | (go_split_ands; refine ⟨?_, ?_, ?_, ?_, ?_, ?_, ?_⟩ <;> (rw [g2.below.cell (World.block_lt_of_cell? _ _ (by assumption))]; assumption)) | (go_split_ands; refine ⟨?_, ?_, ?_, ?_, ?_, ?_, ?_⟩ <;> (rw [g1.below.cell (World.block_lt_of_cell? _ _ (by assumption))]; assumption)) | (go_split_ands; refine ⟨?_, ?_, ?_, ?_, ?_, ?_, ?_⟩ <;> (rw [g3.below.cell (World.block_lt_of_cell? _ _ (by assumption))]; assumption)))
    (first
      | (go_at_call_of 67 (Value.agg #[.string s, .string p, .string o]); refine (T1.out _).mono ?_; rintro e w1 ⟨rfl, g1⟩)
      | (go_at_call_of 67 (Value.agg #[.string s', .string p', .string o']); refine (T2.out _).mono ?_; rintro e w2 ⟨rfl, g2⟩)
      | (go_at_call 109; refine (C.out _).mono ?_; rintro e w3 ⟨rfl, g3⟩))
  all_goals
    go_wp2_with fail
    go_ret
    exact ⟨by rw [HR.out]; rfl, ((GG.out.drew.trans g1).trans g2).trans g3⟩
open Go.RowKit Go.Sort Go.Shelf
theorem ltH (h : Nat) (x y : Tri3) : ltOf (cmpH h) x y = aheadH h x y := ltT _ _
theorem swoH (h : Nat) : SWO (ltOf (cmpH h)) where
  irrefl x := by rw [ltH]; simp [aheadH_irrefl]
  trans x y z h1 h2 := by
    rw [ltH] at *
    exact aheadH_trans h1 h2
  ntrans x y z h1 h2 := by
    rw [ltH] at *
    cases g : aheadH h x z
    · simp
    · exfalso
      cases g1 : aheadH h z y
      · rw [aheadH_one h2 g1] at h1; rw [h1] at g; cases g
      · rw [aheadH_trans g g1] at h1; cases h1
theorem mergeH (h : Nat) (ts : List Tri3) : (ts.mergeSort fun x y => !(ltOf (cmpH h)) y x) = sortH h ts := by
  unfold sortH
  congr 1
  funext x y
  rw [ltH]
set_option maxRecDepth 100000 in
/-- The sort of a slice of triples that the call owns, in an order. -/
theorem sortPos (B bx : Nat) (v : Value) (ts : List Tri3) (w : World) (h : OwnT B w v ts) (hl : ts.length < 4611686018427387904) (hc : w.cell? ⟨bx, 0, none⟩ = some (.func (.func 66) #[] #[])) (hbx : bx < B) :
    Calls Try.prog 107 #[v, .func (.func 108) #[] #[.pointer (some ⟨bx, 0, none⟩)]] w fun e w' => e = .returned (.tuple #[]) ∧ OwnT B w' v (sortH 1 ts) ∧ w.grownBy w' v.ownBlock := by
  have h' := h
  rcases h'.2 with ⟨rfl, h0⟩ | ⟨g, cap, cur, rfl, hB, hb, h1, h2, h3, h4⟩
  · obtain rfl : ts = [] := List.length_eq_zero_iff.1 h0
    refine (AnyF.slices_SortFunc_none Try.sortTri none 0 _ w).mono ?_
    rintro e w' ⟨rfl, rfl⟩
    exact ⟨rfl, by rw [show sortH 1 [] = [] from by unfold sortH; simp]; exact h, World.grownBy.refl _ _⟩
  · have eg : ∀ args w, (callFunc 108 args).run Try.prog w = .ok (.enter 108 args) w := enters_of Try.func108 (by kernel_rfl) rfl
    have hcmp : CmpLays Try.prog 108 #[.pointer (some ⟨bx, 0, none⟩)] encL 3 (cmpH 1) g 0 ts.toArray.size w := fun m os dk hd x y => by
      have hcw : (sortWorldK encL 3 w g 0 m dk os).cell? ⟨bx, 0, none⟩ = some (.func (.func 66) #[] #[]) := by
        have hg : w.grownBy (sortWorldK encL 3 w g 0 m dk os) (some g) := grownBy_sortedK _
        exact hg.cell hc (by simp; omega)
      exact implByPos x.1 x.2.1 x.2.2 y.1 y.2.1 y.2.2 bx _ hcw
    have hS := AnyQ.slices_SortFunc_total Try.sortTri 3 aggTri sizeTri encL encL_len encL_one (cmpH 1) (swoH 1) _ #[.pointer (some ⟨bx, 0, none⟩)] g 0 cap ts.toArray w eg hcmp (holdsK_of_block hb h4) (Array.getElem?_eq_some_iff.1 hb).1 (by simpa using hl) (fun x y a b => by rw [ltH] at a b; exact aheadH_one a b)
    change Calls Try.prog 107 _ _ _ at hS
    rw [Array.size_eq_length_toList, List.toList_toArray] at hS
    refine hS.mono ?_
    rintro e w' ⟨rfl, n, os, rfl⟩
    rw [mergeH]
    exact ⟨rfl, own_sortedK (sortH_len 1 ts) hB hb h1 h2 h3, grownBy_sortedK _⟩
set_option maxRecDepth 100000 in
/-- The sort of a slice of triples that the call owns, in an order. -/
theorem sortOsp (B bx : Nat) (v : Value) (ts : List Tri3) (w : World) (h : OwnT B w v ts) (hl : ts.length < 4611686018427387904) (hc : w.cell? ⟨bx, 0, none⟩ = some (.func (.func 67) #[] #[])) (hbx : bx < B) :
    Calls Try.prog 107 #[v, .func (.func 108) #[] #[.pointer (some ⟨bx, 0, none⟩)]] w fun e w' => e = .returned (.tuple #[]) ∧ OwnT B w' v (sortH 2 ts) ∧ w.grownBy w' v.ownBlock := by
  have h' := h
  rcases h'.2 with ⟨rfl, h0⟩ | ⟨g, cap, cur, rfl, hB, hb, h1, h2, h3, h4⟩
  · obtain rfl : ts = [] := List.length_eq_zero_iff.1 h0
    refine (AnyF.slices_SortFunc_none Try.sortTri none 0 _ w).mono ?_
    rintro e w' ⟨rfl, rfl⟩
    exact ⟨rfl, by rw [show sortH 2 [] = [] from by unfold sortH; simp]; exact h, World.grownBy.refl _ _⟩
  · have eg : ∀ args w, (callFunc 108 args).run Try.prog w = .ok (.enter 108 args) w := enters_of Try.func108 (by kernel_rfl) rfl
    have hcmp : CmpLays Try.prog 108 #[.pointer (some ⟨bx, 0, none⟩)] encL 3 (cmpH 2) g 0 ts.toArray.size w := fun m os dk hd x y => by
      have hcw : (sortWorldK encL 3 w g 0 m dk os).cell? ⟨bx, 0, none⟩ = some (.func (.func 67) #[] #[]) := by
        have hg : w.grownBy (sortWorldK encL 3 w g 0 m dk os) (some g) := grownBy_sortedK _
        exact hg.cell hc (by simp; omega)
      exact implByOsp x.1 x.2.1 x.2.2 y.1 y.2.1 y.2.2 bx _ hcw
    have hS := AnyQ.slices_SortFunc_total Try.sortTri 3 aggTri sizeTri encL encL_len encL_one (cmpH 2) (swoH 2) _ #[.pointer (some ⟨bx, 0, none⟩)] g 0 cap ts.toArray w eg hcmp (holdsK_of_block hb h4) (Array.getElem?_eq_some_iff.1 hb).1 (by simpa using hl) (fun x y a b => by rw [ltH] at a b; exact aheadH_one a b)
    change Calls Try.prog 107 _ _ _ at hS
    rw [Array.size_eq_length_toList, List.toList_toArray] at hS
    refine hS.mono ?_
    rintro e w' ⟨rfl, n, os, rfl⟩
    rw [mergeH]
    exact ⟨rfl, own_sortedK (sortH_len 2 ts) hB hb h1 h2 h3, grownBy_sortedK _⟩
open Go.RowKit Go.WideShapes
set_option maxRecDepth 100000 in
set_option maxHeartbeats 1600000 in
theorem cloneTri (a : Option Addr) (len cap : Nat) (ts : List Tri3) (w : World) (h : IsTris w a len cap ts) (hl : len ≤ 1048576) :
    Calls Try.prog 64 #[.slice a len cap] w (CopyPost ts w) := by
  have q28 : ∀ (w : World) (a : Option Addr) (n c n' c' : Nat), (binOp .eql 27 (.slice a n c) (.slice none n' c')).run Try.prog w = .ok (.bool a.isNone) w := fun w a n c n' c' => Lib.run_eql_slice_nil w _ _ a n c n' c' Try.underlying27
  obtain ⟨i0, hi, hz0, hz1, hz2⟩ := info_parts infoTri
  rcases h with ⟨rfl, rfl, rfl, rfl⟩ | ⟨x, rfl, h1, h2, h3, h4⟩
  · go_enter Try.func64, Try.ntmps64
    go_wp2_with fail
    go_ret
    exact ⟨_, rfl, ⟨rfl, .inl ⟨rfl, rfl⟩⟩, Below.refl _ _⟩
  · have A := Lib.hid (fun j u hj => tris_news h4 j u hj)
    have H3 := Lib.hid h3
    have HF := Lib.hid (flat_one ts)
    clear h4 h3
    go_enter Try.func64, Try.ntmps64
    go_wp2_with (at_builtin; refine wpList_append_own _ rfl _ _ 27 rfl w.heap.size 46 i0 (.agg #[.string ⟨#[]⟩, .string ⟨#[]⟩, .string ⟨#[]⟩]) 3 48 Try.underlying27 hi hz0 hz1 hz2 rfl (by decide) _ _ _ rfl (World.ownsRow_made w #[] 0 (Nat.le_refl _) (Nat.zero_le _) (by simp)) x len cap (flat ts) rfl ?qc1 ?qc2 ?qc3 ?qc4 ?qc5 ?qc6 ?_)
    case qc1 => rw [flat_len, H3.out]
    case qc2 => exact fun j u hj => Lib.cell?_alloc_some _ (A.out j u hj)
    case qc3 => exact HF.out
    case qc4 => unfold maxLen; omega
    case qc5 => omega
    case qc6 => simp
    intro v' w1 hown hgrow _
    go_wp2_with fail
    go_ret
    exact ⟨v', rfl, by unfold OwnT; rw [H3.out]; simpa using hown, ((Below.refl _ w).alloc (Nat.le_refl _) _).grown hgrow (by simp) (by intro k hk; simp [Value.ownBlock] at hk; omega)⟩
set_option maxRecDepth 100000 in
set_option maxHeartbeats 1600000 in
theorem implSortedPos (a : Option Addr) (len cap : Nat) (ts : List Tri3) (w : World) (h : IsTris w a len cap ts) (hl : len ≤ 1048576) :
    Calls Try.prog 65 #[.slice a len cap, .func (.func 66) #[] #[]] w (CopyPost (sortH 1 ts) w) := by
  have B0 := (Below.refl w.heap.size w).alloc (Nat.le_refl _) (.cells #[.func (.func 66) #[] #[]] 128)
  have hc0 : (w.alloc (.cells #[.func (.func 66) #[] #[]] 128)).cell? ⟨w.heap.size, 0, none⟩ = some (.func (.func 66) #[] #[]) := by simp
  have C := Lib.hid (cloneTri a len cap ts _ (h.next B0) hl)
  have HT := Lib.hid h.len
  have HC := Lib.hid hc0
  have BB := Lib.hid B0
  clear h B0 hc0
  go_enter Try.func65, Try.ntmps65
  go_wp2_with fail
  refine C.out.mono ?_
  rintro e w1 ⟨v, rfl, o1, hb1⟩
  have hz : (w.alloc (.cells #[.func (.func 66) #[] #[]] 128)).heap.size = w.heap.size + 1 := by simp
  rw [hz] at o1
  have hc1 : w1.cell? ⟨w.heap.size, 0, none⟩ = some (.func (.func 66) #[] #[]) := by rw [hb1.cell (p := ⟨w.heap.size, 0, none⟩) (by simp)]; exact HC.out
  have hne := fun j hj => (World.ownsRow.lt o1 j hj).1
  have S := Lib.hid (sortPos (w.heap.size + 1) w.heap.size v ts w1 o1 (by have := HT.out; omega) hc1 (Nat.lt_succ_self _))
  have B1 := Lib.hid (BB.out.trans (hb1.mono BB.out.size))
  clear hb1 o1 hc1 hz C
  go_wp2_with fail
  refine S.out.mono ?_
  rintro e w2 ⟨rfl, o2, hg2⟩
  have O2 := Lib.hid o2
  have B2 := Lib.hid (B1.out.grown hg2 B1.out.size (fun j hj => by have := hne j hj; omega))
  clear o2 hg2 S
  go_wp2_with fail
  go_ret
  exact ⟨v, rfl, own_base O2.out (Nat.le_succ _), B2.out⟩
set_option maxRecDepth 100000 in
set_option maxHeartbeats 1600000 in
theorem implSortedOsp (a : Option Addr) (len cap : Nat) (ts : List Tri3) (w : World) (h : IsTris w a len cap ts) (hl : len ≤ 1048576) :
    Calls Try.prog 65 #[.slice a len cap, .func (.func 67) #[] #[]] w (CopyPost (sortH 2 ts) w) := by
  have B0 := (Below.refl w.heap.size w).alloc (Nat.le_refl _) (.cells #[.func (.func 67) #[] #[]] 128)
  have hc0 : (w.alloc (.cells #[.func (.func 67) #[] #[]] 128)).cell? ⟨w.heap.size, 0, none⟩ = some (.func (.func 67) #[] #[]) := by simp
  have C := Lib.hid (cloneTri a len cap ts _ (h.next B0) hl)
  have HT := Lib.hid h.len
  have HC := Lib.hid hc0
  have BB := Lib.hid B0
  clear h B0 hc0
  go_enter Try.func65, Try.ntmps65
  go_wp2_with fail
  refine C.out.mono ?_
  rintro e w1 ⟨v, rfl, o1, hb1⟩
  have hz : (w.alloc (.cells #[.func (.func 67) #[] #[]] 128)).heap.size = w.heap.size + 1 := by simp
  rw [hz] at o1
  have hc1 : w1.cell? ⟨w.heap.size, 0, none⟩ = some (.func (.func 67) #[] #[]) := by rw [hb1.cell (p := ⟨w.heap.size, 0, none⟩) (by simp)]; exact HC.out
  have hne := fun j hj => (World.ownsRow.lt o1 j hj).1
  have S := Lib.hid (sortOsp (w.heap.size + 1) w.heap.size v ts w1 o1 (by have := HT.out; omega) hc1 (Nat.lt_succ_self _))
  have B1 := Lib.hid (BB.out.trans (hb1.mono BB.out.size))
  clear hb1 o1 hc1 hz C
  go_wp2_with fail
  refine S.out.mono ?_
  rintro e w2 ⟨rfl, o2, hg2⟩
  have O2 := Lib.hid o2
  have B2 := Lib.hid (B1.out.grown hg2 B1.out.size (fun j hj => by have := hne j hj; omega))
  clear o2 hg2 S
  go_wp2_with fail
  go_ret
  exact ⟨v, rfl, own_base O2.out (Nat.le_succ _), B2.out⟩
end Go.Proofs.Yteejpceliodcfaa
