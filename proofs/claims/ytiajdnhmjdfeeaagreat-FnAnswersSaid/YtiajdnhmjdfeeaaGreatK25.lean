/- Rows merged: plain facts on lists of pairs.; A strings.Builder of the call's own: what its methods leave.; Build, the rest. -/
import Derived.Test.YtiajdnhmjdfeeaaGreatK10
import Derived.Test.YtiajdnhmjdfeeaaGreatK01
import Derived.Test.YtiajdnhmjdfeeaaGreatK05
import Derived.Lib.Builder
import Derived.Lib.AppendStr
import Derived.Laws.Externs
namespace Go.Proofs.YtiajdnhmjdfeeaaGreat
open Go.RowKit
/-- How many names are less than x, from the front on. -/
def posP (x : ByteArray) : List Pre2 → Nat
  | [] => 0
  | u :: r => if Op.bytesLess u.1.data.toList x.data.toList = true then posP x r + 1 else 0
theorem posP_le (x : ByteArray) : ∀ g : List Pre2, posP x g ≤ g.length
  | [] => Nat.le_refl _
  | u :: r => by unfold posP; have := posP_le x r; split <;> simp <;> omega
theorem posP_ahead {x : ByteArray} {u : Pre2} : ∀ {g : List Pre2} {i : Nat}, i < posP x g → g[i]? = some u → Op.bytesLess u.1.data.toList x.data.toList = true
  | [], i, h, _ => by simp [posP] at h
  | v :: r, i, h, hu => by
    unfold posP at h
    split at h
    · rename_i hv
      cases i with
      | zero => simp at hu; rw [← hu]; exact hv
      | succ i => exact posP_ahead (g := r) (i := i) (by omega) (by simpa using hu)
    · omega
theorem posP_stop {x : ByteArray} {u : Pre2} : ∀ {g : List Pre2}, g[posP x g]? = some u → Op.bytesLess u.1.data.toList x.data.toList = false
  | [], h => by simp at h
  | v :: r, h => by
    unfold posP at h
    split at h
    · exact posP_stop (g := r) (by simpa using h)
    · rename_i hv
      simp at h
      rw [← h]; simpa using hv
theorem posP_is {x : ByteArray} {g : List Pre2} {k : Nat} (h1 : ∀ (i : Nat) (u : Pre2), i < k → g[i]? = some u → Op.bytesLess u.1.data.toList x.data.toList = true) (hk : k ≤ g.length) (h2 : ∀ u, g[k]? = some u → Op.bytesLess u.1.data.toList x.data.toList = false) : posP x g = k := by
  rcases Nat.lt_trichotomy (posP x g) k with hh | hh | hh
  · have e : g[posP x g]? = some g[posP x g] := List.getElem?_eq_getElem (by omega)
    have := h1 _ _ hh e
    rw [posP_stop e] at this
    cases this
  · exact hh
  · have hl := posP_le x g
    have e : g[k]? = some g[k] := List.getElem?_eq_getElem (by omega)
    have := h2 _ e
    rw [posP_ahead hh e] at this
    cases this
/-- A row with one more; none: it has another one there. -/
def putP (g : List Pre2) (p : Pre2) : Option (List Pre2) :=
  match g[posP p.1 g]? with
  | some q => if q.1 = p.1 then (if q.2 = p.2 then some g else none) else some ((g.take (posP p.1 g) ++ [p]) ++ g.drop (posP p.1 g))
  | none => some ((g.take (posP p.1 g) ++ [p]) ++ g.drop (posP p.1 g))
theorem putP_same {g : List Pre2} {p q : Pre2} {k : Nat} (h : posP p.1 g = k) (hq : g[k]? = some q) (h1 : q.1 = p.1) (h2 : q.2 = p.2) : putP g p = some g := by
  unfold putP; rw [h, hq]; simp [h1, h2]
theorem putP_other {g : List Pre2} {p q : Pre2} {k : Nat} (h : posP p.1 g = k) (hq : g[k]? = some q) (h1 : q.1 = p.1) (h2 : q.2 ≠ p.2) : putP g p = none := by
  unfold putP; rw [h, hq]; simp [h1, h2]
theorem putP_new {g : List Pre2} {p : Pre2} {k : Nat} (h : posP p.1 g = k) (hn : ∀ q, g[k]? = some q → q.1 ≠ p.1) : putP g p = some ((g.take k ++ [p]) ++ g.drop k) := by
  unfold putP; rw [h]
  cases hq : g[k]? with
  | none => rfl
  | some q => simp [hn q hq]
theorem putP_len {g h : List Pre2} {p : Pre2} (e : putP g p = some h) : h.length ≤ g.length + 1 := by
  have hl := posP_le p.1 g
  unfold putP at e
  split at e
  · split at e
    · split at e
      · cases e; omega
      · cases e
    · cases e; simp only [List.length_append, List.length_take, List.length_cons, List.length_nil, List.length_drop]; omega
  · cases e; simp only [List.length_append, List.length_take, List.length_cons, List.length_nil, List.length_drop]; omega
theorem putP_mem {g h : List Pre2} {p u : Pre2} (e : putP g p = some h) (hu : u ∈ h) : u = p ∨ u ∈ g := by
  have hs : ∀ u, u ∈ (g.take (posP p.1 g) ++ [p]) ++ g.drop (posP p.1 g) → u = p ∨ u ∈ g := by
    intro u hu
    rw [List.mem_append, List.mem_append, List.mem_singleton] at hu
    rcases hu with (hu | hu) | hu
    · exact .inr (List.mem_of_mem_take hu)
    · exact .inl hu
    · exact .inr (List.mem_of_mem_drop hu)
  unfold putP at e
  split at e
  · split at e
    · split at e
      · cases e; exact .inr hu
      · cases e
    · cases e; exact hs u hu
  · cases e; exact hs u hu
def LtP (t u : Pre2) : Prop := Op.bytesLess t.1.data.toList u.1.data.toList = true
def AscP (ts : List Pre2) : Prop := ts.Pairwise LtP
theorem lessP_is (t u : Pre2) : lessP t u = Op.bytesLess t.1.data.toList u.1.data.toList := by unfold lessP; rw [ByteArray.toList_eq, ByteArray.toList_eq]
theorem asc_iff {ts : List Pre2} : Asc ts ↔ AscP ts := by
  unfold Asc AscP LtP
  rw [List.pairwise_iff_getElem]
  constructor
  · intro h i j hi hj hij
    rw [← lessP_is]
    exact h i j _ _ hij (List.getElem?_eq_getElem hi) (List.getElem?_eq_getElem hj)
  · intro h i j t u hij ht hu
    obtain ⟨hi, rfl⟩ := List.getElem?_eq_some_iff.1 ht
    obtain ⟨hj, rfl⟩ := List.getElem?_eq_some_iff.1 hu
    rw [lessP_is]
    exact h i j hi hj hij
theorem putP_asc {g h : List Pre2} {p : Pre2} (ha : Asc g) (e : putP g p = some h) : Asc h := by
  rw [asc_iff] at ha ⊢
  have hl := posP_le p.1 g
  have key : (∀ q, g[posP p.1 g]? = some q → q.1 ≠ p.1) → AscP ((g.take (posP p.1 g) ++ [p]) ++ g.drop (posP p.1 g)) := by
    intro hn
    have hsplit : AscP (g.take (posP p.1 g) ++ g.drop (posP p.1 g)) := by rw [List.take_append_drop]; exact ha
    obtain ⟨p1, p2, p3⟩ := List.pairwise_append.1 hsplit
    have q1 : ∀ u ∈ g.take (posP p.1 g), LtP u p := by
      intro u hu
      obtain ⟨i, hi⟩ := List.mem_iff_getElem?.1 hu
      have hil := (List.getElem?_eq_some_iff.1 hi).1
      rw [List.length_take] at hil
      rw [List.getElem?_take_of_lt (by omega)] at hi
      exact posP_ahead (by omega) hi
    have q2 : ∀ u ∈ g.drop (posP p.1 g), LtP p u := by
      intro u hu
      rcases Nat.lt_or_ge (posP p.1 g) g.length with hh | hh
      · have e : g[posP p.1 g]? = some g[posP p.1 g] := List.getElem?_eq_getElem hh
        have hv : LtP p g[posP p.1 g] := by
          have h1 := posP_stop e
          have h2 := hn _ e
          unfold LtP
          rcases cmp_cases p.1.data.toList g[posP p.1 g].1.data.toList with ⟨_, h'⟩ | ⟨_, h'⟩ | ⟨_, h'⟩
          · exact h'
          · exact absurd (data_inj h').symm h2
          · rw [h1] at h'; cases h'
        rw [List.drop_eq_getElem_cons hh] at hu p2
        rcases List.mem_cons.1 hu with rfl | hu
        · exact hv
        · exact ltb_trans _ _ _ hv ((List.pairwise_cons.1 p2).1 u hu)
      · rw [List.drop_eq_nil_of_le hh] at hu
        simp at hu
    rw [List.append_assoc]
    refine List.pairwise_append.2 ⟨p1, List.pairwise_cons.2 ⟨q2, p2⟩, fun a ha b hb => ?_⟩
    rcases List.mem_cons.1 hb with rfl | hb
    · exact q1 a ha
    · exact p3 a ha b hb
  unfold putP at e
  split at e
  · rename_i q hq
    split at e
    · split at e
      · cases e; exact ha
      · cases e
    · rename_i hne
      cases e; exact key (fun q' hq' => by rw [hq] at hq'; cases hq'; exact hne)
  · rename_i hq
    cases e; exact key (fun q' hq' => by rw [hq] at hq'; cases hq')
/-- All pairs of b, put into a one by one. -/
def putAllP : List Pre2 → List Pre2 → Option (List Pre2)
  | a, [] => some a
  | a, p :: r => match putP a p with
    | some h => putAllP h r
    | none => none
def mergedP (a b : List Pre2) : Option (List Pre2) := if rowOk a = true ∧ rowOk b = true then (match putAllP a b with
  | some h => if rowOk h = true then some h else none
  | none => none) else none
end Go.Proofs.YtiajdnhmjdfeeaaGreat
namespace Go.Proofs.YtiajdnhmjdfeeaaGreat
open Go.RowKit
/-- The builder in block b, one of the blocks from B on, holds these bytes. -/
abbrev Bld (B b : Nat) (l : List UInt8) (w : World) : Prop := Lib.IsBuilder 97 5 B b (l.map b8) w
/-- Whatever block is neither a builder nor a row of bytes is as it was. -/
def Keeps (w w' : World) : Prop := ∀ (g : Nat) (c : Array Value) (T : TypeId) (fr : Nat × Nat), w.heap[g]? = some (Obj.cells c T fr) → T ≠ 97 → T ≠ 5 → w'.heap[g]? = some (Obj.cells c T fr)
theorem Keeps.refl (w : World) : Keeps w w := fun _ _ _ _ h _ _ => h
theorem Keeps.trans {a b c : World} (h : Keeps a b) (k : Keeps b c) : Keeps a c := fun g x T fr hg h1 h2 => k g x T fr (h g x T fr hg h1 h2) h1 h2
theorem keeps_set {w : World} {b : Nat} {c : Array Value} {fr : Nat × Nat} (h : w.heap[b]? = some (.cells c 97 fr)) (j : Nat) (u : Value) : Keeps w (w.setCell ⟨b, j, none⟩ u) := by
  intro g c' T' fr' hg hT _
  have hne : g ≠ b := by
    rintro rfl
    rw [hg] at h
    simp only [Option.some.injEq, Obj.cells.injEq] at h
    exact hT h.2.1
  rw [Below.heap_setCell _ _ _ _ hne]
  exact hg
theorem keeps_grown {w w' : World} {v : Value} {B n : Nat} {xs : List Value} (h : w.ownsRow B 5 1 v n xs) (hg : w.grownBy w' v.ownBlock) : Keeps w w' := by
  intro g c' T' fr' hg' _ hT
  rw [hg.block g ?_ ?_]
  · exact hg'
  · rcases Nat.lt_or_ge g w.heap.size with q | q
    · exact q
    · rw [Array.getElem?_eq_none q] at hg'; simp at hg'
  · intro e
    rcases h.2 with ⟨rfl, _⟩ | ⟨g2, cap, cur, rfl, _, hb, _⟩
    · simp [Value.ownBlock] at e
    · simp only [Value.ownBlock, Option.some.injEq] at e
      subst e
      rw [hb] at hg'
      simp only [Option.some.injEq, Obj.cells.injEq] at hg'
      exact hT hg'.2.1.symm
theorem bld_size : (Tryz.prog.info? 97).map (fun i => i.size) = some 2 := by kernel_rfl
theorem bld_lies : liesAt Tryz.prog Tryz.prog.depth 97 (2 / Tryz.prog.cellsOf 97) 0 97 1 = true := by kernel_rfl
set_option maxHeartbeats 1000000 in
set_option maxRecDepth 100000 in
theorem bldCheck (B b : Nat) (l : List UInt8) (w : World) (h : Bld B b l w) :
    Calls Tryz.prog 114 #[.pointer (some ⟨b, 0, none⟩)] w fun e w' =>
      e = .returned (.tuple #[]) ∧ Lib.BuilderAt 97 5 B b (.pointer (some ⟨b, 0, none⟩)) (l.map b8) w' ∧ Below B w w' ∧ Keeps w w' := by
  obtain ⟨j, hj, hs⟩ := Option.map_eq_some_iff.1 bld_size
  rcases h with h | h
  · have K := h.used (.pointer (some ⟨b, 0, none⟩))
    have hB := h.1
    have KE : Keeps w (w.setCell ⟨b, 0, none⟩ (.pointer (some ⟨b, 0, none⟩))) := by
      obtain ⟨_, v, hv, _⟩ := h
      exact keeps_set hv 0 _
    have z0 := h.cell0
    have zs := h.shape
    have zf := h.frozen0
    have r1 := Lib.run_to_unsafe (P := Tryz.prog) w ⟨b, 0, none⟩ Tryz.underlying95 Tryz.underlying183 hj (by rw [hs]; decide) zs (Nat.zero_lt_succ 1)
    have r2 := Lib.run_from_unsafe (P := Tryz.prog) w ⟨b, 0, none⟩ Tryz.underlying183 Tryz.underlying95 hj zs bld_lies
    clear h
    go_enter Tryz.func114, Tryz.ntmps114
    go_wp2_with fail
    rw [run_callFunc_extern Tryz.func155 (by kernel_rfl) (by kernel_rfl) (by kernel_rfl) (e := Extern.AbiNoEscape.same) (by kernel_rfl), Lib.run_noEscape]
    simp only [Result.andThen]
    rw [Oper.upon_value]
    go_wp2_with fail
    go_end0
    exact ⟨rfl, K, (Below.refl B w).setCell (p := ⟨b, 0, none⟩) hB _, KE⟩
  · have z0 := h.cell0
    go_enter Tryz.func114, Tryz.ntmps114
    go_wp2_with fail
    rw [Lib.run_neq_ptr_same w _ Tryz.underlying95 hj]
    go_wp2_with fail
    go_end0
    exact ⟨rfl, h, Below.refl B _, Keeps.refl _⟩
theorem bld_old {w : World} {b : Nat} {c : Array Value} {T : TypeId} (h : w.heap[b]? = some (.cells c T (0, 0))) : b < w.heap.size := by
  rcases Nat.lt_or_ge b w.heap.size with g | g
  · exact g
  · rw [Array.getElem?_eq_none g] at h; simp at h
theorem own_shape {w : World} {B e : Nat} {v : Value} {n : Nat} {xs : List Value} (h : w.ownsRow B e 1 v n xs) : ∃ ao m c, v = .slice ao m c := by
  rcases h.2 with ⟨rfl, _⟩ | ⟨g, c, _, rfl, _⟩
  · exact ⟨_, _, _, rfl⟩
  · exact ⟨_, _, _, rfl⟩
set_option maxHeartbeats 1600000 in
set_option maxRecDepth 100000 in
theorem bldText (B b : Nat) (l : List UInt8) (s : ByteArray) (w : World) (h : Bld B b l w) (hl : l.length + s.size ≤ 140737488355328) (hw : B ≤ w.heap.size) :
    Calls Tryz.prog 67 #[.pointer (some ⟨b, 0, none⟩), .string s] w fun e w' =>
      (∃ n, e = .returned (.tuple #[.int .i64 n, .nilIface])) ∧ Bld B b (l ++ s.data.toList) w' ∧ Below B w w' ∧ Keeps w w' := by
  obtain ⟨i0, hi, j0, j1, j2⟩ := info_parts infoU8
  have hs : s.size ≤ 140737488355328 := by omega
  have C := Lib.hid (bldCheck B b l w h)
  clear h
  go_enter Tryz.func67, Tryz.ntmps67
  go_wp2_with fail
  refine C.out.mono ?_
  rintro e w1 ⟨rfl, ⟨hB, v, hv, hown, hne⟩, hb1, hk1⟩
  clear C
  have k0 := Lib.cell_of_heap hv 1
  change _ = some v at k0
  have kz := hb1.size
  go_wp2_with (at_builtin; refine Lib.wpList_append_own_string _ rfl _ _ 43 9 rfl B 5 i0 Tryz.underlying43 Tryz.underlying9 hi j0 j1 j2 _ _ _ rfl hown s rfl ?d3 ?d4 ?d5 ?_)
  case d3 => unfold maxLen; rw [List.length_map]; omega
  case d4 => rw [List.length_map]; omega
  case d5 => omega
  intro v2 w2 hown2 hg _
  have hv2 := (hg.block b (bld_old hv) (fun x => hne x.symm)).trans hv
  have k1 := Lib.cell_of_heap hv2 1
  change _ = some v at k1
  have f1 := Lib.frozen_of_heap hv2 1
  have hput := Lib.BuilderAt.put (p := .pointer (some ⟨b, 0, none⟩)) (bs' := l.map b8 ++ Lib.strCells s) hB hv2 (by rw [List.length_append, Lib.strCells_length, List.length_map]; exact hown2) (by decide)
  have hbel := (hb1.grown hg (by omega) (fun k hk => (hown.lt k hk).1)).setCell (p := ⟨b, 1, none⟩) hB v2
  have hk2 := hk1.trans ((keeps_grown hown hg).trans (keeps_set hv2 1 v2))
  obtain ⟨ao, m, c, rfl⟩ := own_shape hown2
  clear hown hown2 hv hv2 hg k0
  go_wp2_with fail
  go_ret2
  refine ⟨⟨_, rfl⟩, .inr ?_, hbel, hk2⟩
  rw [List.map_append]
  exact hput
theorem bldString (B b : Nat) (l : List UInt8) (w : World) (h : Bld B b l w) (hw : B ≤ w.heap.size) :
    Calls Tryz.prog 71 #[.pointer (some ⟨b, 0, none⟩)] w fun e w' => e = .returned (.string (bs l)) ∧ Below B w w' :=
  Tryz.Builder_String_any B b l w h hw
theorem bldNew (w : World) : Bld w.heap.size w.heap.size [] (w.alloc (.cells #[.pointer none, .slice none 0 0] 97)) := Lib.fresh_isBuilder _ _ _
theorem bldKeep {B b : Nat} {l : List UInt8} {w w' : World} (h : Bld B b l w) (hg : w.grownBy w' none) : Bld B b l w' := by
  have key : ∀ p, Lib.BuilderAt 97 5 B b p (l.map b8) w → Lib.BuilderAt 97 5 B b p (l.map b8) w' := by
    rintro p ⟨hB, v, hv, hown, hne⟩
    refine ⟨hB, v, (hg.block b (bld_old hv) (by simp)).trans hv, hown.kept hg ?_, hne⟩
    cases v.ownBlock
    · exact .inl rfl
    · exact .inr (by simp)
  rcases h with h | h
  · exact .inl (key _ h)
  · exact .inr (key _ h)
theorem Bld.lt {B b : Nat} {l : List UInt8} {w : World} (h : Bld B b l w) : b < w.heap.size := by
  rcases h with ⟨_, _, hv, _⟩ | ⟨_, _, hv, _⟩ <;> exact bld_old hv
end Go.Proofs.YtiajdnhmjdfeeaaGreat
namespace Go.Proofs.YtiajdnhmjdfeeaaGreat
open Go.RowKit
set_option maxHeartbeats 1600000 in
set_option maxRecDepth 100000 in
theorem bldByte (B b : Nat) (l : List UInt8) (c : UInt8) (w : World) (h : Bld B b l w) (hl : l.length + 1 ≤ 140737488355328) (hw : B ≤ w.heap.size) :
    Calls Tryz.prog 70 #[.pointer (some ⟨b, 0, none⟩), .int .u8 c.toNat] w fun e w' =>
      e = .returned .nilIface ∧ Bld B b (l ++ [c]) w' ∧ Below B w w' := by
  obtain ⟨i0, hi, j0, j1, j2⟩ := info_parts infoU8
  have C := Lib.hid (bldCheck B b l w h)
  clear h
  go_enter Tryz.func70, Tryz.ntmps70
  go_wp2_with fail
  refine C.out.mono ?_
  rintro e w1 ⟨rfl, ⟨hB, v, hv, hown, hne⟩, hb1, _⟩
  clear C
  have k0 := Lib.cell_of_heap hv 1
  change _ = some v at k0
  have kz := hb1.size
  go_wp2_with (at_builtin; refine wpList_append_own _ rfl _ _ 43 rfl B 5 i0 (.int .u8 0) 1 1 Tryz.underlying43 hi j0 j1 j2 rfl (by decide) _ _ _ rfl (hown.alloc _) ⟨w1.heap.size, 0, none⟩ 1 1 [.int .u8 c.toNat] rfl rfl ?d1 ?d2 ?d3 ?d4 ?d5 ?_)
  case d1 => exact one_cell
  case d2 => intro u hu; simp at hu; subst hu; rfl
  case d3 => unfold maxLen; rw [List.length_map]; omega
  case d4 => rw [List.length_map]; omega
  case d5 => simp; omega
  intro v2 w2 hown2 hg _
  have hv2 := (hg.block b (by have := bld_old hv; simp; omega) (fun x => hne x.symm)).trans ((Lib.alloc_old w1 _ b (bld_old hv)).trans hv)
  have k1 := Lib.cell_of_heap hv2 1
  change _ = some v at k1
  have f1 := Lib.frozen_of_heap hv2 1
  have hput := Lib.BuilderAt.put (p := .pointer (some ⟨b, 0, none⟩)) (bs' := l.map b8 ++ [.int .u8 c.toNat]) hB hv2 (by rw [List.length_append, List.length_map]; exact hown2) (by decide)
  have hbel := ((hb1.alloc (by omega) _).grown hg (by simp; omega) (fun k hk => (hown.lt k hk).1)).setCell (p := ⟨b, 1, none⟩) hB v2
  obtain ⟨ao, m, q, rfl⟩ := own_shape hown2
  clear hown hown2 hv hv2 hg k0
  go_wp2_with fail
  go_ret
  refine ⟨rfl, .inr ?_, hbel⟩
  rw [List.map_append]
  exact hput
end Go.Proofs.YtiajdnhmjdfeeaaGreat
