/- When a query is right: plain facts. -/
import Derived.Test.YtiajdnhmjdfeeaaGreatG17
import Derived.Test.YtiajdnhmjdfeeaaGreatG11
import Derived.Test.YtiajdnhmjdfeeaaGreatG01
import Derived.Test.YtiajdnhmjdfeeaaGreatG04
import Derived.Lib.Builder
import Derived.Lib.AppendStr
import Derived.Laws.Externs
namespace Go.Proofs.YtiajdnhmjdfeeaaGreat
open Go.RowKit Go.WideShapes Go.Maps
theorem addAllS_nil_nodup (l : List Txt) : (addAllS [] l).Nodup := by
  suffices h : ∀ (us ts : List Txt), ts.Nodup → (addAllS ts us).Nodup from h l [] List.nodup_nil
  intro us
  induction us with
  | nil => intro ts h; exact h
  | cons u us ih =>
    intro ts h
    refine ih _ ?_
    unfold addS
    split
    · exact h
    · rename_i hn
      exact List.nodup_append.2 ⟨h, by simp, fun a ha b hb => by simp at hb; subst hb; exact fun e => hn (e ▸ ha)⟩
theorem addAllS_full : ∀ (us ts : List Txt), (addAllS ts us).length = ts.length + us.length ↔ us.Nodup ∧ ∀ u ∈ us, u ∉ ts
  | [], ts => by simp [addAllS]
  | u :: us, ts => by
    show (addAllS (addS ts u) us).length = _ ↔ _
    have hl := addAllS_len us (addS ts u)
    by_cases hin : u ∈ ts
    · have e : addS ts u = ts := by unfold addS; rw [if_pos hin]
      rw [e] at hl ⊢
      rw [List.length_cons]
      exact ⟨fun h => by omega, fun h => absurd hin (h.2 u (by simp))⟩
    · have e : addS ts u = ts ++ [u] := by unfold addS; rw [if_neg hin]
      have ih := addAllS_full us (ts ++ [u])
      rw [e]
      rw [List.length_append, List.length_singleton] at ih
      rw [List.length_cons, show ts.length + (us.length + 1) = ts.length + 1 + us.length from by omega, ih, List.nodup_cons]
      constructor
      · rintro ⟨h1, h2⟩
        refine ⟨⟨fun hu => h2 u hu (by simp), h1⟩, fun v hv => ?_⟩
        rcases List.mem_cons.1 hv with rfl | hv
        · exact hin
        · exact fun hc => h2 v hv (by simp [hc])
      · rintro ⟨⟨h1, h2⟩, h3⟩
        refine ⟨h2, fun v hv hc => ?_⟩
        rcases List.mem_append.1 hc with hc | hc
        · exact h3 v (by simp [hv]) hc
        · obtain rfl := List.mem_singleton.1 hc
          exact h1 hv
theorem addAllS_same (l : List Txt) : (addAllS [] l).length = l.length ↔ l.Nodup := by
  have := addAllS_full l []
  simpa using this
def distS (l : List Txt) : Bool := decide ((addAllS [] l).length = l.length)
def queryOk (vs : List ByteArray) (t1 t2 : List Tri3) : Bool :=
  decide (0 < t1.length) && (bgpOk t1 && (bgpOk t2 && (decide (1 ≤ vs.length) && (decide (vs.length ≤ 4) && (distS (txts vs) && subS (addAllS [] (allVars t1 ++ allVars t2)) (txts vs))))))
theorem allVars_app {t1 t2 : List Tri3} {u : Txt} : u ∈ allVars (t1 ++ t2) ↔ u ∈ addAllS [] (allVars t1 ++ allVars t2) := by
  have e : varWords (t1 ++ t2) = varWords t1 ++ varWords t2 := by simp [varWords]
  unfold allVars
  rw [e, putAllS_mem, addAllS_mem]
  simp only [List.mem_append, putAllS_mem, List.not_mem_nil, false_or]
theorem queryOk_is {vs : List ByteArray} {t1 t2 : List Tri3} (h1 : 0 < t1.length) (hb1 : bgpOk t1 = true) (hb2 : bgpOk t2 = true) (hl : 1 ≤ vs.length) (hl4 : vs.length ≤ 4) :
    queryOk vs t1 t2 = true ↔ (txts vs).Nodup ∧ ∀ v ∈ txts vs, v ∈ allVars (t1 ++ t2) := by
  unfold queryOk distS subS
  rw [hb1, hb2]
  simp only [h1, hl, hl4, decide_true, Bool.true_and, Bool.and_eq_true, decide_eq_true_eq, List.all_eq_true, addAllS_same, allVars_app]
theorem queryOk_vs {vs : List ByteArray} {t1 t2 : List Tri3} (h : queryOk vs t1 t2 = true) : 0 < t1.length ∧ bgpOk t1 = true ∧ bgpOk t2 = true ∧ 1 ≤ vs.length ∧ vs.length ≤ 4 := by
  unfold queryOk at h
  simp only [Bool.and_eq_true, decide_eq_true_eq] at h
  exact ⟨h.1, h.2.1, h.2.2.1, h.2.2.2.1, h.2.2.2.2.1⟩
theorem txts_bs (l : List Txt) : txts (l.map bs) = l := by
  unfold txts
  rw [List.map_map]
  conv => rhs; rw [← List.map_id l]
  apply List.map_congr_left
  intro t _
  simp [bs]
theorem hasB_mem (vs : List ByteArray) (x : ByteArray) : hasB vs x = decide (x.data.toList ∈ txts vs) := by
  rw [Bool.eq_iff_iff, decide_eq_true_eq]
  unfold hasB txts
  rw [List.any_eq_true, List.mem_map]
  constructor
  · rintro ⟨y, hy, e⟩
    rw [beq_iff_eq, ByteArray.toList_eq, ByteArray.toList_eq] at e
    exact ⟨y, hy, e⟩
  · rintro ⟨y, hy, e⟩
    exact ⟨y, hy, by rw [beq_iff_eq, ByteArray.toList_eq, ByteArray.toList_eq]; exact e⟩
theorem txts_take (vs : List ByteArray) (k : Nat) : txts (vs.take k) = (txts vs).take k := by unfold txts; rw [List.map_take]
end Go.Proofs.YtiajdnhmjdfeeaaGreat
/- Rows merged: plain facts on lists of pairs. -/
namespace Go.Proofs.YtiajdnhmjdfeeaaGreat
open Go.RowKit
/-- How many names are less than x, from the front on. -/
def posP (x : ByteArray) : List Pre2 → Nat
  | [] => 0
  | u :: r => if Op.bytesLess u.1.data.toList x.data.toList = true then posP x r + 1 else 0
theorem posP_le (x : ByteArray) : ∀ g : List Pre2, posP x g ≤ g.length
  | [] => Nat.le_refl _
  | u :: r => by unfold posP; have := posP_le x r; split <;> simp <;> omega
theorem posP_ahead {x : ByteArray} {u : Pre2} : ∀ {g : List Pre2} {i : Nat}, i < posP x g → g[i]? = some u → Op.bytesLess u.1.data.toList x.data.toList = true
  | [], i, h, _ => by simp [posP] at h
  | v :: r, i, h, hu => by
    unfold posP at h
    split at h
    · rename_i hv
      cases i with
      | zero => simp at hu; rw [← hu]; exact hv
      | succ i => exact posP_ahead (g := r) (i := i) (by omega) (by simpa using hu)
    · omega
theorem posP_stop {x : ByteArray} {u : Pre2} : ∀ {g : List Pre2}, g[posP x g]? = some u → Op.bytesLess u.1.data.toList x.data.toList = false
  | [], h => by simp at h
  | v :: r, h => by
    unfold posP at h
    split at h
    · exact posP_stop (g := r) (by simpa using h)
    · rename_i hv
      simp at h
      rw [← h]; simpa using hv
theorem posP_is {x : ByteArray} {g : List Pre2} {k : Nat} (h1 : ∀ (i : Nat) (u : Pre2), i < k → g[i]? = some u → Op.bytesLess u.1.data.toList x.data.toList = true) (hk : k ≤ g.length) (h2 : ∀ u, g[k]? = some u → Op.bytesLess u.1.data.toList x.data.toList = false) : posP x g = k := by
  rcases Nat.lt_trichotomy (posP x g) k with hh | hh | hh
  · have e : g[posP x g]? = some g[posP x g] := List.getElem?_eq_getElem (by omega)
    have := h1 _ _ hh e
    rw [posP_stop e] at this
    cases this
  · exact hh
  · have hl := posP_le x g
    have e : g[k]? = some g[k] := List.getElem?_eq_getElem (by omega)
    have := h2 _ e
    rw [posP_ahead hh e] at this
    cases this
/-- A row with one more; none: it has another one there. -/
def putP (g : List Pre2) (p : Pre2) : Option (List Pre2) :=
  match g[posP p.1 g]? with
  | some q => if q.1 = p.1 then (if q.2 = p.2 then some g else none) else some ((g.take (posP p.1 g) ++ [p]) ++ g.drop (posP p.1 g))
  | none => some ((g.take (posP p.1 g) ++ [p]) ++ g.drop (posP p.1 g))
theorem putP_same {g : List Pre2} {p q : Pre2} {k : Nat} (h : posP p.1 g = k) (hq : g[k]? = some q) (h1 : q.1 = p.1) (h2 : q.2 = p.2) : putP g p = some g := by
  unfold putP; rw [h, hq]; simp [h1, h2]
theorem putP_other {g : List Pre2} {p q : Pre2} {k : Nat} (h : posP p.1 g = k) (hq : g[k]? = some q) (h1 : q.1 = p.1) (h2 : q.2 ≠ p.2) : putP g p = none := by
  unfold putP; rw [h, hq]; simp [h1, h2]
theorem putP_new {g : List Pre2} {p : Pre2} {k : Nat} (h : posP p.1 g = k) (hn : ∀ q, g[k]? = some q → q.1 ≠ p.1) : putP g p = some ((g.take k ++ [p]) ++ g.drop k) := by
  unfold putP; rw [h]
  cases hq : g[k]? with
  | none => rfl
  | some q => simp [hn q hq]
theorem putP_len {g h : List Pre2} {p : Pre2} (e : putP g p = some h) : h.length ≤ g.length + 1 := by
  have hl := posP_le p.1 g
  unfold putP at e
  split at e
  · split at e
    · split at e
      · cases e; omega
      · cases e
    · cases e; simp only [List.length_append, List.length_take, List.length_cons, List.length_nil, List.length_drop]; omega
  · cases e; simp only [List.length_append, List.length_take, List.length_cons, List.length_nil, List.length_drop]; omega
theorem putP_mem {g h : List Pre2} {p u : Pre2} (e : putP g p = some h) (hu : u ∈ h) : u = p ∨ u ∈ g := by
  have hs : ∀ u, u ∈ (g.take (posP p.1 g) ++ [p]) ++ g.drop (posP p.1 g) → u = p ∨ u ∈ g := by
    intro u hu
    rw [List.mem_append, List.mem_append, List.mem_singleton] at hu
    rcases hu with (hu | hu) | hu
    · exact .inr (List.mem_of_mem_take hu)
    · exact .inl hu
    · exact .inr (List.mem_of_mem_drop hu)
  unfold putP at e
  split at e
  · split at e
    · split at e
      · cases e; exact .inr hu
      · cases e
    · cases e; exact hs u hu
  · cases e; exact hs u hu
def LtP (t u : Pre2) : Prop := Op.bytesLess t.1.data.toList u.1.data.toList = true
def AscP (ts : List Pre2) : Prop := ts.Pairwise LtP
theorem lessP_is (t u : Pre2) : lessP t u = Op.bytesLess t.1.data.toList u.1.data.toList := by unfold lessP; rw [ByteArray.toList_eq, ByteArray.toList_eq]
theorem asc_iff {ts : List Pre2} : Asc ts ↔ AscP ts := by
  unfold Asc AscP LtP
  rw [List.pairwise_iff_getElem]
  constructor
  · intro h i j hi hj hij
    rw [← lessP_is]
    exact h i j _ _ hij (List.getElem?_eq_getElem hi) (List.getElem?_eq_getElem hj)
  · intro h i j t u hij ht hu
    obtain ⟨hi, rfl⟩ := List.getElem?_eq_some_iff.1 ht
    obtain ⟨hj, rfl⟩ := List.getElem?_eq_some_iff.1 hu
    rw [lessP_is]
    exact h i j hi hj hij
theorem putP_asc {g h : List Pre2} {p : Pre2} (ha : Asc g) (e : putP g p = some h) : Asc h := by
  rw [asc_iff] at ha ⊢
  have hl := posP_le p.1 g
  have key : (∀ q, g[posP p.1 g]? = some q → q.1 ≠ p.1) → AscP ((g.take (posP p.1 g) ++ [p]) ++ g.drop (posP p.1 g)) := by
    intro hn
    have hsplit : AscP (g.take (posP p.1 g) ++ g.drop (posP p.1 g)) := by rw [List.take_append_drop]; exact ha
    obtain ⟨p1, p2, p3⟩ := List.pairwise_append.1 hsplit
    have q1 : ∀ u ∈ g.take (posP p.1 g), LtP u p := by
      intro u hu
      obtain ⟨i, hi⟩ := List.mem_iff_getElem?.1 hu
      have hil := (List.getElem?_eq_some_iff.1 hi).1
      rw [List.length_take] at hil
      rw [List.getElem?_take_of_lt (by omega)] at hi
      exact posP_ahead (by omega) hi
    have q2 : ∀ u ∈ g.drop (posP p.1 g), LtP p u := by
      intro u hu
      rcases Nat.lt_or_ge (posP p.1 g) g.length with hh | hh
      · have e : g[posP p.1 g]? = some g[posP p.1 g] := List.getElem?_eq_getElem hh
        have hv : LtP p g[posP p.1 g] := by
          have h1 := posP_stop e
          have h2 := hn _ e
          unfold LtP
          rcases cmp_cases p.1.data.toList g[posP p.1 g].1.data.toList with ⟨_, h'⟩ | ⟨_, h'⟩ | ⟨_, h'⟩
          · exact h'
          · exact absurd (data_inj h').symm h2
          · rw [h1] at h'; cases h'
        rw [List.drop_eq_getElem_cons hh] at hu p2
        rcases List.mem_cons.1 hu with rfl | hu
        · exact hv
        · exact ltb_trans _ _ _ hv ((List.pairwise_cons.1 p2).1 u hu)
      · rw [List.drop_eq_nil_of_le hh] at hu
        simp at hu
    rw [List.append_assoc]
    refine List.pairwise_append.2 ⟨p1, List.pairwise_cons.2 ⟨q2, p2⟩, fun a ha b hb => ?_⟩
    rcases List.mem_cons.1 hb with rfl | hb
    · exact q1 a ha
    · exact p3 a ha b hb
  unfold putP at e
  split at e
  · rename_i q hq
    split at e
    · split at e
      · cases e; exact ha
      · cases e
    · rename_i hne
      cases e; exact key (fun q' hq' => by rw [hq] at hq'; cases hq'; exact hne)
  · rename_i hq
    cases e; exact key (fun q' hq' => by rw [hq] at hq'; cases hq')
/-- All pairs of b, put into a one by one. -/
def putAllP : List Pre2 → List Pre2 → Option (List Pre2)
  | a, [] => some a
  | a, p :: r => match putP a p with
    | some h => putAllP h r
    | none => none
theorem putAllP_snoc : ∀ (b a : List Pre2) (p : Pre2), putAllP a (b ++ [p]) = (putAllP a b).bind (fun h => putP h p)
  | [], a, p => by
    show putAllP a [p] = _
    unfold putAllP
    cases h : putP a p <;> simp [putAllP, h]
  | q :: r, a, p => by
    show putAllP a (q :: (r ++ [p])) = _
    unfold putAllP
    cases h : putP a q with
    | none => rfl
    | some h' => exact putAllP_snoc r h' p
theorem putAllP_none : ∀ (b c a : List Pre2), putAllP a b = none → putAllP a (b ++ c) = none
  | [], c, a, h => by simp [putAllP] at h
  | q :: r, c, a, h => by
    show putAllP a (q :: (r ++ c)) = _
    unfold putAllP at h ⊢
    cases hp : putP a q with
    | none => rfl
    | some h' => rw [hp] at h; exact putAllP_none r c h' h
theorem putAllP_len : ∀ {b a h : List Pre2}, putAllP a b = some h → h.length ≤ a.length + b.length
  | [], a, h, e => by simp [putAllP] at e; subst e; simp
  | q :: r, a, h, e => by
    unfold putAllP at e
    cases hp : putP a q with
    | none => rw [hp] at e; cases e
    | some h' =>
      rw [hp] at e
      have h1 := putAllP_len e
      have h2 := putP_len hp
      rw [List.length_cons]; omega
theorem putAllP_asc : ∀ {b a h : List Pre2}, Asc a → putAllP a b = some h → Asc h
  | [], a, h, ha, e => by simp [putAllP] at e; subst e; exact ha
  | q :: r, a, h, ha, e => by
    unfold putAllP at e
    cases hp : putP a q with
    | none => rw [hp] at e; cases e
    | some h' => rw [hp] at e; exact putAllP_asc (putP_asc ha hp) e
theorem putAllP_mem {u : Pre2} : ∀ {b a h : List Pre2}, putAllP a b = some h → u ∈ h → u ∈ a ∨ u ∈ b
  | [], a, h, e, hu => by simp [putAllP] at e; subst e; exact .inl hu
  | q :: r, a, h, e, hu => by
    unfold putAllP at e
    cases hp : putP a q with
    | none => rw [hp] at e; cases e
    | some h' =>
      rw [hp] at e
      rcases putAllP_mem e hu with h1 | h1
      · rcases putP_mem hp h1 with rfl | h1
        · exact .inr (List.mem_cons_self ..)
        · exact .inl h1
      · exact .inr (List.mem_cons_of_mem _ h1)
def mergedP (a b : List Pre2) : Option (List Pre2) := if rowOk a = true ∧ rowOk b = true then (match putAllP a b with
  | some h => if rowOk h = true then some h else none
  | none => none) else none
end Go.Proofs.YtiajdnhmjdfeeaaGreat
/- A strings.Builder of the call's own: what its methods leave. -/
namespace Go.Proofs.YtiajdnhmjdfeeaaGreat
open Go.RowKit
/-- The builder in block b, one of the blocks from B on, holds these bytes. -/
abbrev Bld (B b : Nat) (l : List UInt8) (w : World) : Prop := Lib.IsBuilder 97 5 B b (l.map b8) w
/-- Whatever block is neither a builder nor a row of bytes is as it was. -/
def Keeps (w w' : World) : Prop := ∀ (g : Nat) (c : Array Value) (T : TypeId) (fr : Nat × Nat), w.heap[g]? = some (Obj.cells c T fr) → T ≠ 97 → T ≠ 5 → w'.heap[g]? = some (Obj.cells c T fr)
theorem Keeps.refl (w : World) : Keeps w w := fun _ _ _ _ h _ _ => h
theorem Keeps.trans {a b c : World} (h : Keeps a b) (k : Keeps b c) : Keeps a c := fun g x T fr hg h1 h2 => k g x T fr (h g x T fr hg h1 h2) h1 h2
theorem keeps_set {w : World} {b : Nat} {c : Array Value} {fr : Nat × Nat} (h : w.heap[b]? = some (.cells c 97 fr)) (j : Nat) (u : Value) : Keeps w (w.setCell ⟨b, j, none⟩ u) := by
  intro g c' T' fr' hg hT _
  have hne : g ≠ b := by
    rintro rfl
    rw [hg] at h
    simp only [Option.some.injEq, Obj.cells.injEq] at h
    exact hT h.2.1
  rw [Below.heap_setCell _ _ _ _ hne]
  exact hg
theorem keeps_grown {w w' : World} {v : Value} {B n : Nat} {xs : List Value} (h : w.ownsRow B 5 1 v n xs) (hg : w.grownBy w' v.ownBlock) : Keeps w w' := by
  intro g c' T' fr' hg' _ hT
  rw [hg.block g ?_ ?_]
  · exact hg'
  · rcases Nat.lt_or_ge g w.heap.size with q | q
    · exact q
    · rw [Array.getElem?_eq_none q] at hg'; simp at hg'
  · intro e
    rcases h.2 with ⟨rfl, _⟩ | ⟨g2, cap, cur, rfl, _, hb, _⟩
    · simp [Value.ownBlock] at e
    · simp only [Value.ownBlock, Option.some.injEq] at e
      subst e
      rw [hb] at hg'
      simp only [Option.some.injEq, Obj.cells.injEq] at hg'
      exact hT hg'.2.1.symm
theorem bld_size : (Tryz.prog.info? 97).map (fun i => i.size) = some 2 := by kernel_rfl
theorem bld_lies : liesAt Tryz.prog Tryz.prog.depth 97 (2 / Tryz.prog.cellsOf 97) 0 97 1 = true := by kernel_rfl
set_option maxHeartbeats 1000000 in
set_option maxRecDepth 100000 in
theorem bldCheck (B b : Nat) (l : List UInt8) (w : World) (h : Bld B b l w) :
    Calls Tryz.prog 114 #[.pointer (some ⟨b, 0, none⟩)] w fun e w' =>
      e = .returned (.tuple #[]) ∧ Lib.BuilderAt 97 5 B b (.pointer (some ⟨b, 0, none⟩)) (l.map b8) w' ∧ Below B w w' ∧ Keeps w w' := by
  obtain ⟨j, hj, hs⟩ := Option.map_eq_some_iff.1 bld_size
  rcases h with h | h
  · have K := h.used (.pointer (some ⟨b, 0, none⟩))
    have hB := h.1
    have KE : Keeps w (w.setCell ⟨b, 0, none⟩ (.pointer (some ⟨b, 0, none⟩))) := by
      obtain ⟨_, v, hv, _⟩ := h
      exact keeps_set hv 0 _
    have z0 := h.cell0
    have zs := h.shape
    have zf := h.frozen0
    have r1 := Lib.run_to_unsafe (P := Tryz.prog) w ⟨b, 0, none⟩ Tryz.underlying95 Tryz.underlying183 hj (by rw [hs]; decide) zs (Nat.zero_lt_succ 1)
    have r2 := Lib.run_from_unsafe (P := Tryz.prog) w ⟨b, 0, none⟩ Tryz.underlying183 Tryz.underlying95 hj zs bld_lies
    clear h
    go_enter Tryz.func114, Tryz.ntmps114
    go_wp2_with fail
    rw [run_callFunc_extern Tryz.func155 (by kernel_rfl) (by kernel_rfl) (by kernel_rfl) (e := Extern.AbiNoEscape.same) (by kernel_rfl), Lib.run_noEscape]
    simp only [Result.andThen]
    rw [Oper.upon_value]
    go_wp2_with fail
    go_end0
    exact ⟨rfl, K, (Below.refl B w).setCell (p := ⟨b, 0, none⟩) hB _, KE⟩
  · have z0 := h.cell0
    go_enter Tryz.func114, Tryz.ntmps114
    go_wp2_with fail
    rw [Lib.run_neq_ptr_same w _ Tryz.underlying95 hj]
    go_wp2_with fail
    go_end0
    exact ⟨rfl, h, Below.refl B _, Keeps.refl _⟩
theorem bld_old {w : World} {b : Nat} {c : Array Value} {T : TypeId} (h : w.heap[b]? = some (.cells c T (0, 0))) : b < w.heap.size := by
  rcases Nat.lt_or_ge b w.heap.size with g | g
  · exact g
  · rw [Array.getElem?_eq_none g] at h; simp at h
theorem own_shape {w : World} {B e : Nat} {v : Value} {n : Nat} {xs : List Value} (h : w.ownsRow B e 1 v n xs) : ∃ ao m c, v = .slice ao m c := by
  rcases h.2 with ⟨rfl, _⟩ | ⟨g, c, _, rfl, _⟩
  · exact ⟨_, _, _, rfl⟩
  · exact ⟨_, _, _, rfl⟩
set_option maxHeartbeats 1600000 in
set_option maxRecDepth 100000 in
theorem bldText (B b : Nat) (l : List UInt8) (s : ByteArray) (w : World) (h : Bld B b l w) (hl : l.length + s.size ≤ 140737488355328) (hw : B ≤ w.heap.size) :
    Calls Tryz.prog 67 #[.pointer (some ⟨b, 0, none⟩), .string s] w fun e w' =>
      (∃ n, e = .returned (.tuple #[.int .i64 n, .nilIface])) ∧ Bld B b (l ++ s.data.toList) w' ∧ Below B w w' ∧ Keeps w w' := by
  obtain ⟨i0, hi, j0, j1, j2⟩ := info_parts infoU8
  have hs : s.size ≤ 140737488355328 := by omega
  have C := Lib.hid (bldCheck B b l w h)
  clear h
  go_enter Tryz.func67, Tryz.ntmps67
  go_wp2_with fail
  refine C.out.mono ?_
  rintro e w1 ⟨rfl, ⟨hB, v, hv, hown, hne⟩, hb1, hk1⟩
  clear C
  have k0 := Lib.cell_of_heap hv 1
  change _ = some v at k0
  have kz := hb1.size
  go_wp2_with (at_builtin; refine Lib.wpList_append_own_string _ rfl _ _ 43 9 rfl B 5 i0 Tryz.underlying43 Tryz.underlying9 hi j0 j1 j2 _ _ _ rfl hown s rfl ?d3 ?d4 ?d5 ?_)
  case d3 => unfold maxLen; rw [List.length_map]; omega
  case d4 => rw [List.length_map]; omega
  case d5 => omega
  intro v2 w2 hown2 hg _
  have hv2 := (hg.block b (bld_old hv) (fun x => hne x.symm)).trans hv
  have k1 := Lib.cell_of_heap hv2 1
  change _ = some v at k1
  have f1 := Lib.frozen_of_heap hv2 1
  have hput := Lib.BuilderAt.put (p := .pointer (some ⟨b, 0, none⟩)) (bs' := l.map b8 ++ Lib.strCells s) hB hv2 (by rw [List.length_append, Lib.strCells_length, List.length_map]; exact hown2) (by decide)
  have hbel := (hb1.grown hg (by omega) (fun k hk => (hown.lt k hk).1)).setCell (p := ⟨b, 1, none⟩) hB v2
  have hk2 := hk1.trans ((keeps_grown hown hg).trans (keeps_set hv2 1 v2))
  obtain ⟨ao, m, c, rfl⟩ := own_shape hown2
  clear hown hown2 hv hv2 hg k0
  go_wp2_with fail
  go_ret2
  refine ⟨⟨_, rfl⟩, .inr ?_, hbel, hk2⟩
  rw [List.map_append]
  exact hput
theorem bldString (B b : Nat) (l : List UInt8) (w : World) (h : Bld B b l w) (hw : B ≤ w.heap.size) :
    Calls Tryz.prog 71 #[.pointer (some ⟨b, 0, none⟩)] w fun e w' => e = .returned (.string (bs l)) ∧ Below B w w' :=
  Tryz.Builder_String_any B b l w h hw
theorem bldNew (w : World) : Bld w.heap.size w.heap.size [] (w.alloc (.cells #[.pointer none, .slice none 0 0] 97)) := Lib.fresh_isBuilder _ _ _
theorem bldKeep {B b : Nat} {l : List UInt8} {w w' : World} (h : Bld B b l w) (hg : w.grownBy w' none) : Bld B b l w' := by
  have key : ∀ p, Lib.BuilderAt 97 5 B b p (l.map b8) w → Lib.BuilderAt 97 5 B b p (l.map b8) w' := by
    rintro p ⟨hB, v, hv, hown, hne⟩
    refine ⟨hB, v, (hg.block b (bld_old hv) (by simp)).trans hv, hown.kept hg ?_, hne⟩
    cases v.ownBlock
    · exact .inl rfl
    · exact .inr (by simp)
  rcases h with h | h
  · exact .inl (key _ h)
  · exact .inr (key _ h)
theorem Bld.lt {B b : Nat} {l : List UInt8} {w : World} (h : Bld B b l w) : b < w.heap.size := by
  rcases h with ⟨_, _, hv, _⟩ | ⟨_, _, hv, _⟩ <;> exact bld_old hv
end Go.Proofs.YtiajdnhmjdfeeaaGreat
