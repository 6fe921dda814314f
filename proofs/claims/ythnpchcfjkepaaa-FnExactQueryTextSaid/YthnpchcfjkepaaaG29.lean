/- A strings.Builder of the call's own: what its methods leave. -/
import Derived.Test.YthnpchcfjkepaaaG01
import Derived.Test.YthnpchcfjkepaaaG04
import Derived.Lib.Builder
import Derived.Lib.AppendStr
import Derived.Laws.Externs
import Derived.Test.YthnpchcfjkepaaaG28
import Derived.Test.YthnpchcfjkepaaaG14
namespace Go.Proofs.Ythnpchcfjkepaaa
open Go.RowKit
/-- The builder in block b, one of the blocks from B on, holds these bytes. -/
abbrev Bld (B b : Nat) (l : List UInt8) (w : World) : Prop := Lib.IsBuilder 88 5 B b (l.map b8) w
/-- Whatever block is neither a builder nor a row of bytes is as it was. -/
def Keeps (w w' : World) : Prop := ∀ (g : Nat) (c : Array Value) (T : TypeId) (fr : Nat × Nat), w.heap[g]? = some (Obj.cells c T fr) → T ≠ 88 → T ≠ 5 → w'.heap[g]? = some (Obj.cells c T fr)
theorem Keeps.refl (w : World) : Keeps w w := fun _ _ _ _ h _ _ => h
theorem Keeps.trans {a b c : World} (h : Keeps a b) (k : Keeps b c) : Keeps a c := fun g x T fr hg h1 h2 => k g x T fr (h g x T fr hg h1 h2) h1 h2
theorem keeps_set {w : World} {b : Nat} {c : Array Value} {fr : Nat × Nat} (h : w.heap[b]? = some (.cells c 88 fr)) (j : Nat) (u : Value) : Keeps w (w.setCell ⟨b, j, none⟩ u) := by
  intro g c' T' fr' hg hT _
  have hne : g ≠ b := by
    rintro rfl
    rw [hg] at h
    simp only [Option.some.injEq, Obj.cells.injEq] at h
    exact hT h.2.1
  rw [Below.heap_setCell _ _ _ _ hne]
  exact hg
theorem keeps_grown {w w' : World} {v : Value} {B n : Nat} {xs : List Value} (h : w.ownsRow B 5 1 v n xs) (hg : w.grownBy w' v.ownBlock) : Keeps w w' := by
  intro g c' T' fr' hg' _ hT
  rw [hg.block g ?_ ?_]
  · exact hg'
  · rcases Nat.lt_or_ge g w.heap.size with q | q
    · exact q
    · rw [Array.getElem?_eq_none q] at hg'; simp at hg'
  · intro e
    rcases h.2 with ⟨rfl, _⟩ | ⟨g2, cap, cur, rfl, _, hb, _⟩
    · simp [Value.ownBlock] at e
    · simp only [Value.ownBlock, Option.some.injEq] at e
      subst e
      rw [hb] at hg'
      simp only [Option.some.injEq, Obj.cells.injEq] at hg'
      exact hT hg'.2.1.symm
theorem bld_size : (Try.prog.info? 88).map (fun i => i.size) = some 2 := by kernel_rfl
theorem bld_lies : liesAt Try.prog Try.prog.depth 88 (2 / Try.prog.cellsOf 88) 0 88 1 = true := by kernel_rfl
set_option maxHeartbeats 1000000 in
set_option maxRecDepth 100000 in
theorem bldCheck (B b : Nat) (l : List UInt8) (w : World) (h : Bld B b l w) :
    Calls Try.prog 90 #[.pointer (some ⟨b, 0, none⟩)] w fun e w' =>
      e = .returned (.tuple #[]) ∧ Lib.BuilderAt 88 5 B b (.pointer (some ⟨b, 0, none⟩)) (l.map b8) w' ∧ Below B w w' ∧ Keeps w w' := by
  obtain ⟨j, hj, hs⟩ := Option.map_eq_some_iff.1 bld_size
  rcases h with h | h
  · have K := h.used (.pointer (some ⟨b, 0, none⟩))
    have hB := h.1
    have KE : Keeps w (w.setCell ⟨b, 0, none⟩ (.pointer (some ⟨b, 0, none⟩))) := by
      obtain ⟨_, v, hv, _⟩ := h
      exact keeps_set hv 0 _
    have z0 := h.cell0
    have zs := h.shape
    have zf := h.frozen0
    have r1 := Lib.run_to_unsafe (P := Try.prog) w ⟨b, 0, none⟩ Try.underlying86 Try.underlying152 hj (by rw [hs]; decide) zs (Nat.zero_lt_succ 1)
    have r2 := Lib.run_from_unsafe (P := Try.prog) w ⟨b, 0, none⟩ Try.underlying152 Try.underlying86 hj zs bld_lies
    clear h
    go_enter Try.func90, Try.ntmps90
    go_wp2_with fail
    rw [run_callFunc_extern Try.func110 (by kernel_rfl) (by kernel_rfl) (by kernel_rfl) (e := Extern.AbiNoEscape.same) (by kernel_rfl), Lib.run_noEscape]
    simp only [Result.andThen]
    rw [Oper.upon_value]
    go_wp2_with fail
    go_end0
    exact ⟨rfl, K, (Below.refl B w).setCell (p := ⟨b, 0, none⟩) hB _, KE⟩
  · have z0 := h.cell0
    go_enter Try.func90, Try.ntmps90
    go_wp2_with fail
    rw [Lib.run_neq_ptr_same w _ Try.underlying86 hj]
    go_wp2_with fail
    go_end0
    exact ⟨rfl, h, Below.refl B _, Keeps.refl _⟩
theorem bld_old {w : World} {b : Nat} {c : Array Value} {T : TypeId} (h : w.heap[b]? = some (.cells c T (0, 0))) : b < w.heap.size := by
  rcases Nat.lt_or_ge b w.heap.size with g | g
  · exact g
  · rw [Array.getElem?_eq_none g] at h; simp at h
theorem own_shape {w : World} {B e : Nat} {v : Value} {n : Nat} {xs : List Value} (h : w.ownsRow B e 1 v n xs) : ∃ ao m c, v = .slice ao m c := by
  rcases h.2 with ⟨rfl, _⟩ | ⟨g, c, _, rfl, _⟩
  · exact ⟨_, _, _, rfl⟩
  · exact ⟨_, _, _, rfl⟩
set_option maxHeartbeats 1600000 in
set_option maxRecDepth 100000 in
theorem bldText (B b : Nat) (l : List UInt8) (s : ByteArray) (w : World) (h : Bld B b l w) (hl : l.length + s.size ≤ 140737488355328) (hw : B ≤ w.heap.size) :
    Calls Try.prog 58 #[.pointer (some ⟨b, 0, none⟩), .string s] w fun e w' =>
      (∃ n, e = .returned (.tuple #[.int .i64 n, .nilIface])) ∧ Bld B b (l ++ s.data.toList) w' ∧ Below B w w' ∧ Keeps w w' := by
  obtain ⟨i0, hi, j0, j1, j2⟩ := info_parts infoU8
  have hs : s.size ≤ 140737488355328 := by omega
  have C := Lib.hid (bldCheck B b l w h)
  clear h
  go_enter Try.func58, Try.ntmps58
  go_wp2_with fail
  refine C.out.mono ?_
  rintro e w1 ⟨rfl, ⟨hB, v, hv, hown, hne⟩, hb1, hk1⟩
  clear C
  have k0 := Lib.cell_of_heap hv 1
  change _ = some v at k0
  have kz := hb1.size
  go_wp2_with (at_builtin; refine Lib.wpList_append_own_string _ rfl _ _ 22 9 rfl B 5 i0 Try.underlying22 Try.underlying9 hi j0 j1 j2 _ _ _ rfl hown s rfl ?d3 ?d4 ?d5 ?_)
  case d3 => unfold maxLen; rw [List.length_map]; omega
  case d4 => rw [List.length_map]; omega
  case d5 => omega
  intro v2 w2 hown2 hg _
  have hv2 := (hg.block b (bld_old hv) (fun x => hne x.symm)).trans hv
  have k1 := Lib.cell_of_heap hv2 1
  change _ = some v at k1
  have f1 := Lib.frozen_of_heap hv2 1
  have hput := Lib.BuilderAt.put (p := .pointer (some ⟨b, 0, none⟩)) (bs' := l.map b8 ++ Lib.strCells s) hB hv2 (by rw [List.length_append, Lib.strCells_length, List.length_map]; exact hown2) (by decide)
  have hbel := (hb1.grown hg (by omega) (fun k hk => (hown.lt k hk).1)).setCell (p := ⟨b, 1, none⟩) hB v2
  have hk2 := hk1.trans ((keeps_grown hown hg).trans (keeps_set hv2 1 v2))
  obtain ⟨ao, m, c, rfl⟩ := own_shape hown2
  clear hown hown2 hv hv2 hg k0
  go_wp2_with fail
  go_ret2
  refine ⟨⟨_, rfl⟩, .inr ?_, hbel, hk2⟩
  rw [List.map_append]
  exact hput
theorem bldString (B b : Nat) (l : List UInt8) (w : World) (h : Bld B b l w) (hw : B ≤ w.heap.size) :
    Calls Try.prog 61 #[.pointer (some ⟨b, 0, none⟩)] w fun e w' => e = .returned (.string (bs l)) ∧ Below B w w' :=
  Try.Builder_String_any B b l w h hw
theorem bldNew (w : World) : Bld w.heap.size w.heap.size [] (w.alloc (.cells #[.pointer none, .slice none 0 0] 88)) := Lib.fresh_isBuilder _ _ _
theorem bldKeep {B b : Nat} {l : List UInt8} {w w' : World} (h : Bld B b l w) (hg : w.grownBy w' none) : Bld B b l w' := by
  have key : ∀ p, Lib.BuilderAt 88 5 B b p (l.map b8) w → Lib.BuilderAt 88 5 B b p (l.map b8) w' := by
    rintro p ⟨hB, v, hv, hown, hne⟩
    refine ⟨hB, v, (hg.block b (bld_old hv) (by simp)).trans hv, hown.kept hg ?_, hne⟩
    cases v.ownBlock
    · exact .inl rfl
    · exact .inr (by simp)
  rcases h with h | h
  · exact .inl (key _ h)
  · exact .inr (key _ h)
theorem Bld.lt {B b : Nat} {l : List UInt8} {w : World} (h : Bld B b l w) : b < w.heap.size := by
  rcases h with ⟨_, _, hv, _⟩ | ⟨_, _, hv, _⟩ <;> exact bld_old hv
end Go.Proofs.Ythnpchcfjkepaaa
/- Build, the rest. -/
namespace Go.Proofs.Ythnpchcfjkepaaa
open Go.RowKit
set_option maxHeartbeats 1600000 in
set_option maxRecDepth 100000 in
theorem bldByte (B b : Nat) (l : List UInt8) (c : UInt8) (w : World) (h : Bld B b l w) (hl : l.length + 1 ≤ 140737488355328) (hw : B ≤ w.heap.size) :
    Calls Try.prog 60 #[.pointer (some ⟨b, 0, none⟩), .int .u8 c.toNat] w fun e w' =>
      e = .returned .nilIface ∧ Bld B b (l ++ [c]) w' ∧ Below B w w' := by
  obtain ⟨i0, hi, j0, j1, j2⟩ := info_parts infoU8
  have C := Lib.hid (bldCheck B b l w h)
  clear h
  go_enter Try.func60, Try.ntmps60
  go_wp2_with fail
  refine C.out.mono ?_
  rintro e w1 ⟨rfl, ⟨hB, v, hv, hown, hne⟩, hb1, _⟩
  clear C
  have k0 := Lib.cell_of_heap hv 1
  change _ = some v at k0
  have kz := hb1.size
  go_wp2_with (at_builtin; refine wpList_append_own _ rfl _ _ 22 rfl B 5 i0 (.int .u8 0) 1 1 Try.underlying22 hi j0 j1 j2 rfl (by decide) _ _ _ rfl (hown.alloc _) ⟨w1.heap.size, 0, none⟩ 1 1 [.int .u8 c.toNat] rfl rfl ?d1 ?d2 ?d3 ?d4 ?d5 ?_)
  case d1 => exact one_cell
  case d2 => intro u hu; simp at hu; subst hu; rfl
  case d3 => unfold maxLen; rw [List.length_map]; omega
  case d4 => rw [List.length_map]; omega
  case d5 => simp; omega
  intro v2 w2 hown2 hg _
  have hv2 := (hg.block b (by have := bld_old hv; simp; omega) (fun x => hne x.symm)).trans ((Lib.alloc_old w1 _ b (bld_old hv)).trans hv)
  have k1 := Lib.cell_of_heap hv2 1
  change _ = some v at k1
  have f1 := Lib.frozen_of_heap hv2 1
  have hput := Lib.BuilderAt.put (p := .pointer (some ⟨b, 0, none⟩)) (bs' := l.map b8 ++ [.int .u8 c.toNat]) hB hv2 (by rw [List.length_append, List.length_map]; exact hown2) (by decide)
  have hbel := ((hb1.alloc (by omega) _).grown hg (by simp; omega) (fun k hk => (hown.lt k hk).1)).setCell (p := ⟨b, 1, none⟩) hB v2
  obtain ⟨ao, m, q, rfl⟩ := own_shape hown2
  clear hown hown2 hv hv2 hg k0
  go_wp2_with fail
  go_ret
  refine ⟨rfl, .inr ?_, hbel⟩
  rw [List.map_append]
  exact hput
end Go.Proofs.Ythnpchcfjkepaaa
/- The text of a row: the plain function; what the program's own rowText answers. -/
namespace Go.Proofs.Ythnpchcfjkepaaa
open Go.RowKit Go.WideShapes
def wordZ (x : ByteArray) : List UInt8 := x.data.toList ++ [0]
def rowTextL (ts : List Pre2) : List UInt8 := ts.flatMap fun t => wordZ t.1 ++ wordZ t.2
theorem rowTextL_snoc (ts : List Pre2) (t : Pre2) : rowTextL (ts ++ [t]) = rowTextL ts ++ (wordZ t.1 ++ wordZ t.2) := by unfold rowTextL; rw [List.flatMap_append]; simp
theorem rowTextL_upto (ts : List Pre2) (k : Nat) : (rowTextL (ts.take k)).length ≤ (rowTextL ts).length := by
  have e : rowTextL ts = rowTextL (ts.take k) ++ rowTextL (ts.drop k) := by
    unfold rowTextL
    rw [← List.flatMap_append, List.take_append_drop]
  rw [e, List.length_append]
  omega
theorem wordZ_len (x : ByteArray) : (wordZ x).length = x.size + 1 := by
  unfold wordZ
  rw [List.length_append, size_len]
  rfl
/-- No word has a byte 0 within: a text tells its words. -/
theorem wordZ_head : ∀ (a b r s : List UInt8), (0 : UInt8) ∉ a → (0 : UInt8) ∉ b → (a ++ [0]) ++ r = (b ++ [0]) ++ s → a = b ∧ r = s
  | [], [], r, s, _, _, h => by simpa using h
  | [], y :: b, r, s, _, hb, h => by
    simp only [List.nil_append, List.cons_append, List.cons.injEq] at h
    exact absurd (by rw [h.1]; exact List.mem_cons_self ..) hb
  | x :: a, [], r, s, ha, _, h => by
    simp only [List.nil_append, List.cons_append, List.cons.injEq] at h
    exact absurd (by rw [← h.1]; exact List.mem_cons_self ..) ha
  | x :: a, y :: b, r, s, ha, hb, h => by
    simp only [List.cons_append, List.cons.injEq] at h
    obtain ⟨e1, e2⟩ := wordZ_head a b r s (fun q => ha (List.mem_cons_of_mem _ q)) (fun q => hb (List.mem_cons_of_mem _ q)) (by simpa using h.2)
    exact ⟨by rw [h.1, e1], e2⟩
def NoZ (t : Pre2) : Prop := (0 : UInt8) ∉ t.1.data.toList ∧ (0 : UInt8) ∉ t.2.data.toList
theorem bytes_eq {x y : ByteArray} (h : x.data.toList = y.data.toList) : x = y := by
  obtain ⟨a⟩ := x
  obtain ⟨b⟩ := y
  simp only [ByteArray.mk.injEq]
  exact Array.toList_inj.1 h
theorem rowTextL_inj : ∀ (r s : List Pre2), (∀ t ∈ r, NoZ t) → (∀ t ∈ s, NoZ t) → rowTextL r = rowTextL s → r = s
  | [], [], _, _, _ => rfl
  | [], t :: s, _, _, h => by
    have := congrArg List.length h
    simp [rowTextL, wordZ] at this
  | t :: r, [], _, _, h => by
    have := congrArg List.length h
    simp [rowTextL, wordZ] at this
  | t :: r, u :: s, hr, hs, h => by
    have e : ∀ (z : Pre2) (l : List Pre2), rowTextL (z :: l) = (z.1.data.toList ++ [0]) ++ ((z.2.data.toList ++ [0]) ++ rowTextL l) := by
      intro z l
      simp [rowTextL, wordZ]
    rw [e, e] at h
    obtain ⟨a1, a2⟩ := hr t (List.mem_cons_self ..)
    obtain ⟨b1, b2⟩ := hs u (List.mem_cons_self ..)
    obtain ⟨h1, h⟩ := wordZ_head _ _ _ _ a1 b1 h
    obtain ⟨h2, h⟩ := wordZ_head _ _ _ _ a2 b2 h
    have h3 := rowTextL_inj r s (fun z q => hr z (List.mem_cons_of_mem _ q)) (fun z q => hs z (List.mem_cons_of_mem _ q)) h
    rw [h3, Prod.ext (bytes_eq h1) (bytes_eq h2)]
end Go.Proofs.Ythnpchcfjkepaaa
