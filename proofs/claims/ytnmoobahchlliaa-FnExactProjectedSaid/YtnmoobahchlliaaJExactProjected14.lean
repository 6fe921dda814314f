/- A strings.Builder of the call's own: what its methods leave. -/
import Derived.Test.YtnmoobahchlliaaJExactProjected02
import Derived.Test.YtnmoobahchlliaaJExactProjected08
import Derived.Lib.Builder
import Derived.Lib.AppendStr
import Derived.Laws.Externs
namespace Go.Proofs.Ytnmoobahchlliaa
open Go.RowKit
/-- The builder in block b, one of the blocks from B on, holds these bytes. -/
abbrev Bld (B b : Nat) (l : List UInt8) (w : World) : Prop := Lib.IsBuilder 137 5 B b (l.map b8) w
/-- Whatever block is neither a builder nor a row of bytes is as it was. -/
def Keeps (w w' : World) : Prop := ∀ (g : Nat) (c : Array Value) (T : TypeId) (fr : Nat × Nat), w.heap[g]? = some (Obj.cells c T fr) → T ≠ 137 → T ≠ 5 → w'.heap[g]? = some (Obj.cells c T fr)
theorem Keeps.refl (w : World) : Keeps w w := fun _ _ _ _ h _ _ => h
theorem Keeps.trans {a b c : World} (h : Keeps a b) (k : Keeps b c) : Keeps a c := fun g x T fr hg h1 h2 => k g x T fr (h g x T fr hg h1 h2) h1 h2
theorem keeps_set {w : World} {b : Nat} {c : Array Value} {fr : Nat × Nat} (h : w.heap[b]? = some (.cells c 137 fr)) (j : Nat) (u : Value) : Keeps w (w.setCell ⟨b, j, none⟩ u) := by
  intro g c' T' fr' hg hT _
  have hne : g ≠ b := by
    rintro rfl
    rw [hg] at h
    simp only [Option.some.injEq, Obj.cells.injEq] at h
    exact hT h.2.1
  rw [Below.heap_setCell _ _ _ _ hne]
  exact hg
theorem keeps_grown {w w' : World} {v : Value} {B n : Nat} {xs : List Value} (h : w.ownsRow B 5 1 v n xs) (hg : w.grownBy w' v.ownBlock) : Keeps w w' := by
  intro g c' T' fr' hg' _ hT
  rw [hg.block g ?_ ?_]
  · exact hg'
  · rcases Nat.lt_or_ge g w.heap.size with q | q
    · exact q
    · rw [Array.getElem?_eq_none q] at hg'; simp at hg'
  · intro e
    rcases h.2 with ⟨rfl, _⟩ | ⟨g2, cap, cur, rfl, _, hb, _⟩
    · simp [Value.ownBlock] at e
    · simp only [Value.ownBlock, Option.some.injEq] at e
      subst e
      rw [hb] at hg'
      simp only [Option.some.injEq, Obj.cells.injEq] at hg'
      exact hT hg'.2.1.symm
theorem bld_size : (Try.prog.info? 137).map (fun i => i.size) = some 2 := by kernel_rfl
theorem bld_lies : liesAt Try.prog Try.prog.depth 137 (2 / Try.prog.cellsOf 137) 0 137 1 = true := by kernel_rfl
set_option maxHeartbeats 1000000 in
set_option maxRecDepth 100000 in
theorem bldCheck (B b : Nat) (l : List UInt8) (w : World) (h : Bld B b l w) :
    Calls Try.prog 107 #[.pointer (some ⟨b, 0, none⟩)] w fun e w' =>
      e = .returned (.tuple #[]) ∧ Lib.BuilderAt 137 5 B b (.pointer (some ⟨b, 0, none⟩)) (l.map b8) w' ∧ Below B w w' ∧ Keeps w w' := by
  obtain ⟨j, hj, hs⟩ := Option.map_eq_some_iff.1 bld_size
  rcases h with h | h
  · have K := h.used (.pointer (some ⟨b, 0, none⟩))
    have hB := h.1
    have KE : Keeps w (w.setCell ⟨b, 0, none⟩ (.pointer (some ⟨b, 0, none⟩))) := by
      obtain ⟨_, v, hv, _⟩ := h
      exact keeps_set hv 0 _
    have z0 := h.cell0
    have zs := h.shape
    have zf := h.frozen0
    have r1 := Lib.run_to_unsafe (P := Try.prog) w ⟨b, 0, none⟩ Try.underlying135 Try.underlying172 hj (by rw [hs]; decide) zs (Nat.zero_lt_succ 1)
    have r2 := Lib.run_from_unsafe (P := Try.prog) w ⟨b, 0, none⟩ Try.underlying172 Try.underlying135 hj zs bld_lies
    clear h
    go_enter Try.func107, Try.ntmps107
    go_wp2_with fail
    rw [run_callFunc_extern Try.func124 (by kernel_rfl) (by kernel_rfl) (by kernel_rfl) (e := Extern.AbiNoEscape.same) (by kernel_rfl), Lib.run_noEscape]
    simp only [Result.andThen]
    rw [Oper.upon_value]
    go_wp2_with fail
    go_end0
    exact ⟨rfl, K, (Below.refl B w).setCell (p := ⟨b, 0, none⟩) hB _, KE⟩
  · have z0 := h.cell0
    go_enter Try.func107, Try.ntmps107
    go_wp2_with fail
    rw [Lib.run_neq_ptr_same w _ Try.underlying135 hj]
    go_wp2_with fail
    go_end0
    exact ⟨rfl, h, Below.refl B _, Keeps.refl _⟩
theorem bld_old {w : World} {b : Nat} {c : Array Value} {T : TypeId} (h : w.heap[b]? = some (.cells c T (0, 0))) : b < w.heap.size := by
  rcases Nat.lt_or_ge b w.heap.size with g | g
  · exact g
  · rw [Array.getElem?_eq_none g] at h; simp at h
theorem own_shape {w : World} {B e : Nat} {v : Value} {n : Nat} {xs : List Value} (h : w.ownsRow B e 1 v n xs) : ∃ ao m c, v = .slice ao m c := by
  rcases h.2 with ⟨rfl, _⟩ | ⟨g, c, _, rfl, _⟩
  · exact ⟨_, _, _, rfl⟩
  · exact ⟨_, _, _, rfl⟩
set_option maxHeartbeats 1600000 in
set_option maxRecDepth 100000 in
theorem bldText (B b : Nat) (l : List UInt8) (s : ByteArray) (w : World) (h : Bld B b l w) (hl : l.length + s.size ≤ 140737488355328) (hw : B ≤ w.heap.size) :
    Calls Try.prog 95 #[.pointer (some ⟨b, 0, none⟩), .string s] w fun e w' =>
      (∃ n, e = .returned (.tuple #[.int .i64 n, .nilIface])) ∧ Bld B b (l ++ s.data.toList) w' ∧ Below B w w' ∧ Keeps w w' := by
  obtain ⟨i0, hi, j0, j1, j2⟩ := info_parts infoU8
  have hs : s.size ≤ 140737488355328 := by omega
  have C := Lib.hid (bldCheck B b l w h)
  clear h
  go_enter Try.func95, Try.ntmps95
  go_wp2_with fail
  refine C.out.mono ?_
  rintro e w1 ⟨rfl, ⟨hB, v, hv, hown, hne⟩, hb1, hk1⟩
  clear C
  have k0 := Lib.cell_of_heap hv 1
  change _ = some v at k0
  have kz := hb1.size
  go_wp2_with (at_builtin; refine Lib.wpList_append_own_string _ rfl _ _ 111 9 rfl B 5 i0 Try.underlying111 Try.underlying9 hi j0 j1 j2 _ _ _ rfl hown s rfl ?d3 ?d4 ?d5 ?_)
  case d3 => unfold maxLen; rw [List.length_map]; omega
  case d4 => rw [List.length_map]; omega
  case d5 => omega
  intro v2 w2 hown2 hg _
  have hv2 := (hg.block b (bld_old hv) (fun x => hne x.symm)).trans hv
  have k1 := Lib.cell_of_heap hv2 1
  change _ = some v at k1
  have f1 := Lib.frozen_of_heap hv2 1
  have hput := Lib.BuilderAt.put (p := .pointer (some ⟨b, 0, none⟩)) (bs' := l.map b8 ++ Lib.strCells s) hB hv2 (by rw [List.length_append, Lib.strCells_length, List.length_map]; exact hown2) (by decide)
  have hbel := (hb1.grown hg (by omega) (fun k hk => (hown.lt k hk).1)).setCell (p := ⟨b, 1, none⟩) hB v2
  have hk2 := hk1.trans ((keeps_grown hown hg).trans (keeps_set hv2 1 v2))
  obtain ⟨ao, m, c, rfl⟩ := own_shape hown2
  clear hown hown2 hv hv2 hg k0
  go_wp2_with fail
  go_ret2
  refine ⟨⟨_, rfl⟩, .inr ?_, hbel, hk2⟩
  rw [List.map_append]
  exact hput
theorem bldString (B b : Nat) (l : List UInt8) (w : World) (h : Bld B b l w) (hw : B ≤ w.heap.size) :
    Calls Try.prog 97 #[.pointer (some ⟨b, 0, none⟩)] w fun e w' => e = .returned (.string (bs l)) ∧ Below B w w' :=
  Try.Builder_String_any B b l w h hw
theorem bldNew (w : World) : Bld w.heap.size w.heap.size [] (w.alloc (.cells #[.pointer none, .slice none 0 0] 137)) := Lib.fresh_isBuilder _ _ _
theorem bldKeep {B b : Nat} {l : List UInt8} {w w' : World} (h : Bld B b l w) (hg : w.grownBy w' none) : Bld B b l w' := by
  have key : ∀ p, Lib.BuilderAt 137 5 B b p (l.map b8) w → Lib.BuilderAt 137 5 B b p (l.map b8) w' := by
    rintro p ⟨hB, v, hv, hown, hne⟩
    refine ⟨hB, v, (hg.block b (bld_old hv) (by simp)).trans hv, hown.kept hg ?_, hne⟩
    cases v.ownBlock
    · exact .inl rfl
    · exact .inr (by simp)
  rcases h with h | h
  · exact .inl (key _ h)
  · exact .inr (key _ h)
theorem Bld.lt {B b : Nat} {l : List UInt8} {w : World} (h : Bld B b l w) : b < w.heap.size := by
  rcases h with ⟨_, _, hv, _⟩ | ⟨_, _, hv, _⟩ <;> exact bld_old hv
end Go.Proofs.Ytnmoobahchlliaa
/- Build, the rest. -/
namespace Go.Proofs.Ytnmoobahchlliaa
open Go.RowKit
set_option maxHeartbeats 1600000 in
set_option maxRecDepth 100000 in
theorem bldByte (B b : Nat) (l : List UInt8) (c : UInt8) (w : World) (h : Bld B b l w) (hl : l.length + 1 ≤ 140737488355328) (hw : B ≤ w.heap.size) :
    Calls Try.prog 96 #[.pointer (some ⟨b, 0, none⟩), .int .u8 c.toNat] w fun e w' =>
      e = .returned .nilIface ∧ Bld B b (l ++ [c]) w' ∧ Below B w w' := by
  obtain ⟨i0, hi, j0, j1, j2⟩ := info_parts infoU8
  have C := Lib.hid (bldCheck B b l w h)
  clear h
  go_enter Try.func96, Try.ntmps96
  go_wp2_with fail
  refine C.out.mono ?_
  rintro e w1 ⟨rfl, ⟨hB, v, hv, hown, hne⟩, hb1, _⟩
  clear C
  have k0 := Lib.cell_of_heap hv 1
  change _ = some v at k0
  have kz := hb1.size
  go_wp2_with (at_builtin; refine wpList_append_own _ rfl _ _ 111 rfl B 5 i0 (.int .u8 0) 1 1 Try.underlying111 hi j0 j1 j2 rfl (by decide) _ _ _ rfl (hown.alloc _) ⟨w1.heap.size, 0, none⟩ 1 1 [.int .u8 c.toNat] rfl rfl ?d1 ?d2 ?d3 ?d4 ?d5 ?_)
  case d1 => exact one_cell
  case d2 => intro u hu; simp at hu; subst hu; rfl
  case d3 => unfold maxLen; rw [List.length_map]; omega
  case d4 => rw [List.length_map]; omega
  case d5 => simp; omega
  intro v2 w2 hown2 hg _
  have hv2 := (hg.block b (by have := bld_old hv; simp; omega) (fun x => hne x.symm)).trans ((Lib.alloc_old w1 _ b (bld_old hv)).trans hv)
  have k1 := Lib.cell_of_heap hv2 1
  change _ = some v at k1
  have f1 := Lib.frozen_of_heap hv2 1
  have hput := Lib.BuilderAt.put (p := .pointer (some ⟨b, 0, none⟩)) (bs' := l.map b8 ++ [.int .u8 c.toNat]) hB hv2 (by rw [List.length_append, List.length_map]; exact hown2) (by decide)
  have hbel := ((hb1.alloc (by omega) _).grown hg (by simp; omega) (fun k hk => (hown.lt k hk).1)).setCell (p := ⟨b, 1, none⟩) hB v2
  obtain ⟨ao, m, q, rfl⟩ := own_shape hown2
  clear hown hown2 hv hv2 hg k0
  go_wp2_with fail
  go_ret
  refine ⟨rfl, .inr ?_, hbel⟩
  rw [List.map_append]
  exact hput
end Go.Proofs.Ytnmoobahchlliaa
