/- A map from texts to slices of triples, of the program's own: what it holds; a store and a look. -/
import Derived.Test.YtkcbgppplgkkbaaGreatTxtM
namespace Go.Proofs.YtkcbgppplgkkbaaGreat
open Go.Maps
/-- One more: the value at the text is told anew where the text is there. -/
def addD (kvs : List (Txt × Value)) (t : Txt) (v : Value) : List (Txt × Value) :=
  if t ∈ kvs.map Prod.fst then kvs.map (fun p => if p.1 = t then (t, v) else p) else kvs ++ [(t, v)]
theorem addD_keys (kvs : List (Txt × Value)) (t : Txt) (v : Value) : (addD kvs t v).map Prod.fst = addS (kvs.map Prod.fst) t := by
  unfold addD addS
  split
  · rw [List.map_map]
    apply List.map_congr_left
    intro p _
    by_cases e : p.1 = t
    · simp [e]
    · simp [e]
  · simp
theorem addD_mem {kvs : List (Txt × Value)} {t : Txt} {v : Value} {p : Txt × Value} (h : p ∈ addD kvs t v) : p = (t, v) ∨ (p.1 ≠ t ∧ p ∈ kvs) := by
  unfold addD at h
  split at h
  · obtain ⟨q, hq, rfl⟩ := List.mem_map.1 h
    by_cases e : q.1 = t
    · left; simp [e]
    · right; simp [e, hq]
  · rename_i hn
    rcases List.mem_append.1 h with h | h
    · right
      exact ⟨fun e => hn (List.mem_map.2 ⟨p, h, e⟩), h⟩
    · left; simpa using h
/-- A map's datum is just these texts, each with its value. -/
structure MapOfD (D : DataW Value) (kvs : List (Txt × Value)) : Prop where
  nodup : (kvs.map Prod.fst).Nodup
  has : ∀ kl, Maps.has D kl = true ↔ ∃ t ∈ kvs.map Prod.fst, kl = litS t
  size : Maps.size D = kvs.length
  val : ∀ p ∈ kvs, ∀ z, D.atKey (litS p.1) z = .held p.2
section
variable {D : DataW Value} {kvs : List (Txt × Value)}
theorem MapOfD.empty : MapOfD (.map [] : DataW Value) [] := ⟨List.nodup_nil, fun kl => by simp [has_eq], rfl, by simp⟩
theorem MapOfD.mem (h : MapOfD D kvs) (t : Txt) : Maps.has D (litS t) = decide (t ∈ kvs.map Prod.fst) := by
  rw [Bool.eq_iff_iff, h.has, decide_eq_true_eq]
  exact ⟨fun ⟨u, hu, e⟩ => by rw [litS_inj e]; exact hu, fun g => ⟨t, g, rfl⟩⟩
theorem MapOfD.put (h : MapOfD D kvs) (hT : Tidy D) (t : Txt) (v : Value) : MapOfD (D.put (litS t) (.held v)) (addD kvs t v) := by
  have hm := h.mem t
  have hkk := addD_keys kvs t v
  have hhas : ∀ kl, Maps.has (D.put (litS t) (.held v)) kl = true ↔ ∃ u ∈ (addD kvs t v).map Prod.fst, kl = litS u := by
    intro kl
    rw [hkk]
    by_cases e : kl = litS t
    · subst e
      exact ⟨fun _ => ⟨t, addS_mem.2 (.inr rfl), rfl⟩, fun _ => has_put_same hT.isMap (litS_key t) _⟩
    · rw [has_put_other e, h.has]
      exact ⟨fun ⟨u, hu, hk⟩ => ⟨u, addS_mem.2 (.inl hu), hk⟩, fun ⟨u, hu, hk⟩ => by
        rcases addS_mem.1 hu with hu | rfl
        · exact ⟨u, hu, hk⟩
        · exact absurd hk e⟩
  have hval : ∀ p ∈ addD kvs t v, ∀ z, (D.put (litS t) (.held v)).atKey (litS p.1) z = .held p.2 := by
    intro p hp z
    rcases addD_mem hp with rfl | ⟨hne, hp⟩
    · exact atKey_put_same hT.isMap (litS_key t) _ _
    · rw [atKey_put_other (fun e => hne (litS_inj e))]
      exact h.val p hp z
  refine ⟨?_, hhas, ?_, hval⟩
  · rw [hkk]
    unfold addS
    split
    · exact h.nodup
    · rename_i hn
      exact List.nodup_append.2 ⟨h.nodup, by simp, fun a ha b hb => by simp at hb; subst hb; exact fun e => hn (e ▸ ha)⟩
  · rw [size_put hT, hm]
    unfold addD
    by_cases g : t ∈ kvs.map Prod.fst
    · rw [if_pos g, List.length_map, h.size]; simp [g]
    · rw [if_neg g, List.length_append, h.size]; simp [g]
end
open Go.RowKit Go.Maps
/-- Each value told by itself. -/
def valD (v : Value) : Option (DataW Value × List MemPlace) := some (.held v, [])
/-- Block b is a map of at most n entries that has just these texts, each with its value. -/
def OwnMapD (w : World) (b n : Nat) (kvs : List (Txt × Value)) : Prop := ∃ D : DataW Value, w.ownsMap Tryz.prog 9 valD b n D ∧ MapOfD D kvs
theorem OwnMapD.lt {w : World} {b n : Nat} {kvs : List (Txt × Value)} (h : OwnMapD w b n kvs) : b < w.heap.size := by obtain ⟨D, h, _⟩ := h; exact h.lt
theorem OwnMapD.kept {w w' : World} {b n : Nat} {kvs : List (Txt × Value)} {row : Option Nat} (h : OwnMapD w b n kvs) (hg : w.grownBy w' row) (hne : some b ≠ row) : OwnMapD w' b n kvs := by
  obtain ⟨D, h, hD⟩ := h
  exact ⟨D, h.kept hg hne, hD⟩
theorem OwnMapD.next {w w' : World} {b n : Nat} {kvs : List (Txt × Value)} (h : OwnMapD w b n kvs) (hb : Below w.heap.size w w') : OwnMapD w' b n kvs := h.kept (grown_of_below hb) (by simp)
theorem OwnMapD.alloc {w : World} {b n : Nat} {kvs : List (Txt × Value)} (h : OwnMapD w b n kvs) (o : Obj) : OwnMapD (w.alloc o) b n kvs := h.kept (World.grownBy_alloc w o none) (by simp)
theorem OwnMapD.drew {w : World} {b n : Nat} {kvs : List (Txt × Value)} (h : OwnMapD w b n kvs) : OwnMapD w.drew b n kvs := h
theorem OwnMapD.nodup {w : World} {b n : Nat} {kvs : List (Txt × Value)} (h : OwnMapD w b n kvs) : (kvs.map Prod.fst).Nodup := by obtain ⟨D, _, h⟩ := h; exact h.nodup
theorem OwnMapD.made (w : World) : OwnMapD (w.alloc (.map #[] 0)) w.heap.size 0 [] := ⟨_, World.ownsMap_made _ _ _ _, MapOfD.empty⟩
theorem OwnMapD.mono {w : World} {b n n' : Nat} {kvs : List (Txt × Value)} (h : OwnMapD w b n kvs) (hn : n ≤ n') : OwnMapD w b n' kvs := by
  obtain ⟨D, h, hD⟩ := h
  exact ⟨D, h.mono hn, hD⟩
section
variable (w : World) {ops : Array Oper} {rest : List Oper} {o : Oper} {a : Act} {Q : Exit → Act → World → Prop}
/-- A store of a row at a text. -/
theorem wpList_putD (hg : o.guard = none) (m x v : Operand) (hop : o.op = Op.mapUpdate 51 m x v) (b n : Nat) (kvs : List (Txt × Value)) (hm : a.eval m = .map (some b)) (h : OwnMapD w b n kvs) (hn : n < maxLen) (t : ByteArray) (ht : t.size ≤ maxLen)
    (hx : a.eval x = .string t) (u : Value) (hv : a.eval v = u) (hK : ∀ w', OwnMapD w' b (n + 1) (addD kvs t.data.toList u) → w.grownBy w' (some b) → wpList Tryz.prog ops Q rest (a.put o.dst undef) w') : wpList Tryz.prog ops Q (o :: rest) a w := by
  obtain ⟨D, hown, hD⟩ := h
  exact wpList_mapUpdate_own w hg m x v _ hop _ 42 lawTxt Tryz.underlying51 valD b n D hm hown hn _ u (litS t.data.toList) hx hv (Go.WideMaps.keyOf_string_mk Tryz.underlying9 ht) _ [] rfl (fun w' h1 h2 => hK w' ⟨_, h1, hD.put (hown.tidy lawTxt) _ u⟩ h2)
/-- What stands at a text that is there. -/
theorem wpList_lookD (hg : o.guard = none) (m x : Operand) (hop : o.op = Op.lookup 51 m x false) (b n : Nat) (kvs : List (Txt × Value)) (hm : a.eval m = .map (some b)) (h : OwnMapD w b n kvs) (t : ByteArray) (ht : t.size ≤ maxLen)
    (u : Value) (hu : (t.data.toList, u) ∈ kvs) (hx : a.eval x = .string t) (hz : (zeroValue 42).run Tryz.prog w = .ok (.slice none 0 0) w) (hK : wpList Tryz.prog ops Q rest (a.put o.dst u) w) : wpList Tryz.prog ops Q (o :: rest) a w := by
  obtain ⟨D, hown, hD⟩ := h
  refine wpList_plain hg fun K' hK' => ?_
  obtain ⟨v, ps, hrun, hv⟩ := hown.lookup lawTxt Tryz.underlying51 hz (rfl : valD (.slice none 0 0) = some (.held (.slice none 0 0), [])) (Go.WideMaps.keyOf_string_mk Tryz.underlying9 ht)
  have hl := hD.val _ hu (.held (.slice none 0 0))
  unfold litS at hl
  rw [hl] at hv
  unfold valD at hv
  simp only [Option.some.injEq, Prod.mk.injEq, DataW.held.injEq] at hv
  obtain ⟨rfl, _⟩ := hv
  unfold Oper.wp
  simp [execOp, hop, hm, hx, hrun, Result.andThen]
  exact hK' _ _ hK
/-- .. at a step of a region that draws its order. -/
theorem upon_putD {K : Act → World → Prop} (m x v : Operand) (hop : o.op = Op.mapUpdate 51 m x v) (b n : Nat) (kvs : List (Txt × Value)) (hm : a.eval m = .map (some b)) (h : OwnMapD w b n kvs) (hn : n < maxLen) (t : ByteArray) (ht : t.size ≤ maxLen)
    (hx : a.eval x = .string t) (u : Value) (hv : a.eval v = u) (hK : ∀ w', OwnMapD w' b (n + 1) (addD kvs t.data.toList u) → w.grownBy w' (some b) → K (a.put o.dst undef) w') : Oper.wp Tryz.prog o a w K Q := by
  obtain ⟨D, hown, hD⟩ := h
  obtain ⟨w', hrun, r1, r2⟩ := hown.update lawTxt Tryz.underlying51 hn (Go.WideMaps.keyOf_string_mk Tryz.underlying9 ht) (rfl : valD u = some (.held u, []))
  unfold Oper.wp
  simp [execOp, hop, hm, hx, hv, hrun, Result.andThen]
  exact hK w' ⟨_, r1, hD.put (hown.tidy lawTxt) _ u⟩ r2
/-- What stands at a text that is not there. -/
theorem wpList_missD (hg : o.guard = none) (m x : Operand) (hop : o.op = Op.lookup 51 m x false) (b n : Nat) (kvs : List (Txt × Value)) (hm : a.eval m = .map (some b)) (h : OwnMapD w b n kvs) (t : ByteArray) (ht : t.size ≤ maxLen)
    (hu : t.data.toList ∉ kvs.map Prod.fst) (hx : a.eval x = .string t) (hz : (zeroValue 42).run Tryz.prog w = .ok (.slice none 0 0) w) (hK : wpList Tryz.prog ops Q rest (a.put o.dst (.slice none 0 0)) w) : wpList Tryz.prog ops Q (o :: rest) a w := by
  obtain ⟨D, hown, hD⟩ := h
  refine wpList_plain hg fun K' hK' => ?_
  obtain ⟨v, ps, hrun, hv⟩ := hown.lookup lawTxt Tryz.underlying51 hz (rfl : valD (.slice none 0 0) = some (.held (.slice none 0 0), [])) (Go.WideMaps.keyOf_string_mk Tryz.underlying9 ht)
  have hn : Maps.has D (litS t.data.toList) = false := by rw [hD.mem, decide_eq_false hu]
  have hl := atKey_of_not_has hn (.held (.slice none 0 0))
  unfold litS at hl
  rw [hl] at hv
  unfold valD at hv
  simp only [Option.some.injEq, Prod.mk.injEq, DataW.held.injEq] at hv
  obtain ⟨rfl, _⟩ := hv
  unfold Oper.wp
  simp [execOp, hop, hm, hx, hrun, Result.andThen]
  exact hK' _ _ hK
end
theorem cell_mapD {w : World} {b : Nat} {es : Array MapEntry} {c : Nat} (hb : w.heap[b]? = some (.map es c)) {a : Addr} {v : Value} (h : w.cell? a = some v) : some a.block ≠ some b := by
  intro e
  simp only [Option.some.injEq] at e
  simp [World.cell?, e, hb] at h
theorem OwnMapD.isMap {w : World} {b n : Nat} {kvs : List (Txt × Value)} (h : OwnMapD w b n kvs) : ∃ es c, w.heap[b]? = some (.map es c) := by
  obtain ⟨D, ⟨es, c, hb, _⟩, _⟩ := h
  exact ⟨es, c, hb⟩
end Go.Proofs.YtkcbgppplgkkbaaGreat
