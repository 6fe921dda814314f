/- A strings.Builder of the call's own: what its methods leave. -/
import Derived.Test.YtdhieemalhadmaaBase
import Derived.Test.YtdhieemalhadmaaShelf
import Derived.Lib.Builder
import Derived.Lib.AppendStr
import Derived.Laws.Externs
namespace Go.Proofs.Ytdhieemalhadmaa
open Go.RowKit
/-- The builder in block b, one of the blocks from B on, holds these bytes. -/
abbrev Bld (B b : Nat) (l : List UInt8) (w : World) : Prop := Lib.IsBuilder 54 5 B b (l.map b8) w
theorem bld_size : (Try.prog.info? 54).map (fun i => i.size) = some 2 := by kernel_rfl
theorem bld_lies : liesAt Try.prog Try.prog.depth 54 (2 / Try.prog.cellsOf 54) 0 54 1 = true := by kernel_rfl
set_option maxHeartbeats 1000000 in
set_option maxRecDepth 100000 in
theorem bldCheck (B b : Nat) (l : List UInt8) (w : World) (h : Bld B b l w) :
    Calls Try.prog 71 #[.pointer (some ⟨b, 0, none⟩)] w fun e w' =>
      e = .returned (.tuple #[]) ∧ Lib.BuilderAt 54 5 B b (.pointer (some ⟨b, 0, none⟩)) (l.map b8) w' ∧ Below B w w' := by
  obtain ⟨j, hj, hs⟩ := Option.map_eq_some_iff.1 bld_size
  rcases h with h | h
  · have K := h.used (.pointer (some ⟨b, 0, none⟩))
    have hB := h.1
    have z0 := h.cell0
    have zs := h.shape
    have zf := h.frozen0
    have r1 := Lib.run_to_unsafe (P := Try.prog) w ⟨b, 0, none⟩ Try.underlying52 Try.underlying94 hj (by rw [hs]; decide) zs (Nat.zero_lt_succ 1)
    have r2 := Lib.run_from_unsafe (P := Try.prog) w ⟨b, 0, none⟩ Try.underlying94 Try.underlying52 hj zs bld_lies
    clear h
    go_enter Try.func71, Try.ntmps71
    go_wp2_with fail
    rw [run_callFunc_extern Try.func83 (by kernel_rfl) (by kernel_rfl) (by kernel_rfl) (e := Extern.AbiNoEscape.same) (by kernel_rfl), Lib.run_noEscape]
    simp only [Result.andThen]
    rw [Oper.upon_value]
    go_wp2_with fail
    go_end0
    exact ⟨rfl, K, (Below.refl B w).setCell (p := ⟨b, 0, none⟩) hB _⟩
  · have z0 := h.cell0
    go_enter Try.func71, Try.ntmps71
    go_wp2_with fail
    rw [Lib.run_neq_ptr_same w _ Try.underlying52 hj]
    go_wp2_with fail
    go_end0
    exact ⟨rfl, h, Below.refl B _⟩
theorem bld_old {w : World} {b : Nat} {c : Array Value} {T : TypeId} (h : w.heap[b]? = some (.cells c T (0, 0))) : b < w.heap.size := by
  rcases Nat.lt_or_ge b w.heap.size with g | g
  · exact g
  · rw [Array.getElem?_eq_none g] at h; simp at h
theorem own_shape {w : World} {B e : Nat} {v : Value} {n : Nat} {xs : List Value} (h : w.ownsRow B e 1 v n xs) : ∃ ao m c, v = .slice ao m c := by
  rcases h.2 with ⟨rfl, _⟩ | ⟨g, c, _, rfl, _⟩
  · exact ⟨_, _, _, rfl⟩
  · exact ⟨_, _, _, rfl⟩
set_option maxHeartbeats 1600000 in
set_option maxRecDepth 100000 in
theorem bldText (B b : Nat) (l : List UInt8) (s : ByteArray) (w : World) (h : Bld B b l w) (hl : l.length + s.size ≤ 140737488355328) (hw : B ≤ w.heap.size) :
    Calls Try.prog 44 #[.pointer (some ⟨b, 0, none⟩), .string s] w fun e w' =>
      (∃ n, e = .returned (.tuple #[.int .i64 n, .nilIface])) ∧ Bld B b (l ++ s.data.toList) w' ∧ Below B w w' := by
  obtain ⟨i0, hi, j0, j1, j2⟩ := info_parts infoU8
  have hs : s.size ≤ 140737488355328 := by omega
  have C := Lib.hid (bldCheck B b l w h)
  clear h
  go_enter Try.func44, Try.ntmps44
  go_wp2_with fail
  refine C.out.mono ?_
  rintro e w1 ⟨rfl, ⟨hB, v, hv, hown, hne⟩, hb1⟩
  clear C
  have k0 := Lib.cell_of_heap hv 1
  change _ = some v at k0
  have kz := hb1.size
  go_wp2_with (at_builtin; refine Lib.wpList_append_own_string _ rfl _ _ 22 9 rfl B 5 i0 Try.underlying22 Try.underlying9 hi j0 j1 j2 _ _ _ rfl hown s rfl ?d3 ?d4 ?d5 ?_)
  case d3 => unfold maxLen; rw [List.length_map]; omega
  case d4 => rw [List.length_map]; omega
  case d5 => omega
  intro v2 w2 hown2 hg _
  have hv2 := (hg.block b (bld_old hv) (fun x => hne x.symm)).trans hv
  have k1 := Lib.cell_of_heap hv2 1
  change _ = some v at k1
  have f1 := Lib.frozen_of_heap hv2 1
  have hput := Lib.BuilderAt.put (p := .pointer (some ⟨b, 0, none⟩)) (bs' := l.map b8 ++ Lib.strCells s) hB hv2 (by rw [List.length_append, Lib.strCells_length, List.length_map]; exact hown2) (by decide)
  have hbel := (hb1.grown hg (by omega) (fun k hk => (hown.lt k hk).1)).setCell (p := ⟨b, 1, none⟩) hB v2
  obtain ⟨ao, m, c, rfl⟩ := own_shape hown2
  clear hown hown2 hv hv2 hg k0
  go_wp2_with fail
  go_ret2
  refine ⟨⟨_, rfl⟩, .inr ?_, hbel⟩
  rw [List.map_append]
  exact hput
set_option maxHeartbeats 1600000 in
set_option maxRecDepth 100000 in
theorem bldByte (B b : Nat) (l : List UInt8) (c : UInt8) (w : World) (h : Bld B b l w) (hl : l.length + 1 ≤ 140737488355328) (hw : B ≤ w.heap.size) :
    Calls Try.prog 46 #[.pointer (some ⟨b, 0, none⟩), .int .u8 c.toNat] w fun e w' =>
      e = .returned .nilIface ∧ Bld B b (l ++ [c]) w' ∧ Below B w w' := by
  obtain ⟨i0, hi, j0, j1, j2⟩ := info_parts infoU8
  have C := Lib.hid (bldCheck B b l w h)
  clear h
  go_enter Try.func46, Try.ntmps46
  go_wp2_with fail
  refine C.out.mono ?_
  rintro e w1 ⟨rfl, ⟨hB, v, hv, hown, hne⟩, hb1⟩
  clear C
  have k0 := Lib.cell_of_heap hv 1
  change _ = some v at k0
  have kz := hb1.size
  go_wp2_with (at_builtin; refine wpList_append_own _ rfl _ _ 22 rfl B 5 i0 (.int .u8 0) 1 1 Try.underlying22 hi j0 j1 j2 rfl (by decide) _ _ _ rfl (hown.alloc _) ⟨w1.heap.size, 0, none⟩ 1 1 [.int .u8 c.toNat] rfl rfl ?d1 ?d2 ?d3 ?d4 ?d5 ?_)
  case d1 => exact one_cell
  case d2 => intro u hu; simp at hu; subst hu; rfl
  case d3 => unfold maxLen; rw [List.length_map]; omega
  case d4 => rw [List.length_map]; omega
  case d5 => simp; omega
  intro v2 w2 hown2 hg _
  have hv2 := (hg.block b (by have := bld_old hv; simp; omega) (fun x => hne x.symm)).trans ((Lib.alloc_old w1 _ b (bld_old hv)).trans hv)
  have k1 := Lib.cell_of_heap hv2 1
  change _ = some v at k1
  have f1 := Lib.frozen_of_heap hv2 1
  have hput := Lib.BuilderAt.put (p := .pointer (some ⟨b, 0, none⟩)) (bs' := l.map b8 ++ [.int .u8 c.toNat]) hB hv2 (by rw [List.length_append, List.length_map]; exact hown2) (by decide)
  have hbel := ((hb1.alloc (by omega) _).grown hg (by simp; omega) (fun k hk => (hown.lt k hk).1)).setCell (p := ⟨b, 1, none⟩) hB v2
  obtain ⟨ao, m, q, rfl⟩ := own_shape hown2
  clear hown hown2 hv hv2 hg k0
  go_wp2_with fail
  go_ret
  refine ⟨rfl, .inr ?_, hbel⟩
  rw [List.map_append]
  exact hput
theorem bldString (B b : Nat) (l : List UInt8) (w : World) (h : Bld B b l w) (hw : B ≤ w.heap.size) :
    Calls Try.prog 47 #[.pointer (some ⟨b, 0, none⟩)] w fun e w' => e = .returned (.string (bs l)) ∧ Below B w w' :=
  Try.Builder_String_any B b l w h hw
theorem bldNew (w : World) : Bld w.heap.size w.heap.size [] (w.alloc (.cells #[.pointer none, .slice none 0 0] 54)) := Lib.fresh_isBuilder _ _ _
end Go.Proofs.Ytdhieemalhadmaa
