/- A map of triples that the call holds: what it does at the operations. -/
import Derived.Test.YteejpceliodcfaaSetM
import Derived.Test.YteejpceliodcfaaOwnG
namespace Go.Proofs.Yteejpceliodcfaa
open Go.RowKit Go.Maps
theorem lawTri : Keyed Try.prog 46 :=
  Keyed.of_law (deep_law_laid Frame.laidOut (m := 2) (by omega) (of_decide_eq_true (by kernel_rfl)) (by kernel_rfl) (by rw [Try.underlying46]))
theorem keyTri : ∃ f0 f1 f2, TriKey Try.prog 46 f0 f1 f2 := by
  refine ⟨_, _, _, ⟨Try.underlying46, by kernel_rfl, by kernel_rfl, ⟨Try.prog.types.size - 1, by kernel_rfl⟩, by kernel_rfl, ?_, ?_, ?_, rfl, rfl, rfl, by kernel_rfl, by kernel_rfl, by kernel_rfl⟩⟩ <;> kernel_rfl
/-- Block b is a map of at most n entries that has just these triples, each true. -/
def OwnSet (w : World) (b n : Nat) (ts : List Tri3) : Prop := ∃ D : DataW Unit, w.ownsMap Try.prog 46 (plainElem (H := Unit) Try.prog 4) b n D ∧ SetOf D ts
theorem OwnSet.lt {w : World} {b n : Nat} {ts : List Tri3} (h : OwnSet w b n ts) : b < w.heap.size := by obtain ⟨D, h, _⟩ := h; exact h.lt
theorem OwnSet.kept {w w' : World} {b n : Nat} {ts : List Tri3} {row : Option Nat} (h : OwnSet w b n ts) (hg : w.grownBy w' row) (hne : some b ≠ row) : OwnSet w' b n ts := by
  obtain ⟨D, h, hD⟩ := h
  exact ⟨D, h.kept hg hne, hD⟩
theorem OwnSet.next {w w' : World} {b n : Nat} {ts : List Tri3} (h : OwnSet w b n ts) (hb : Below w.heap.size w w') : OwnSet w' b n ts := h.kept (grown_of_below hb) (by simp)
theorem OwnSet.alloc {w : World} {b n : Nat} {ts : List Tri3} (h : OwnSet w b n ts) (o : Obj) : OwnSet (w.alloc o) b n ts := h.kept (World.grownBy_alloc w o none) (by simp)
theorem OwnSet.drew {w : World} {b n : Nat} {ts : List Tri3} (h : OwnSet w b n ts) : OwnSet w.drew b n ts := h
theorem OwnSet.nodup {w : World} {b n : Nat} {ts : List Tri3} (h : OwnSet w b n ts) : ts.Nodup := by obtain ⟨D, _, h⟩ := h; exact h.nodup
theorem OwnSet.small {w : World} {b n : Nat} {ts : List Tri3} (h : OwnSet w b n ts) : ∀ t ∈ ts, SmK t := by obtain ⟨D, _, h⟩ := h; exact h.small
theorem OwnSet.made (w : World) : OwnSet (w.alloc (.map #[] 0)) w.heap.size 0 [] := ⟨_, World.ownsMap_made _ _ _ _, SetOf.empty⟩
theorem OwnSet.size_le {w : World} {b n : Nat} {ts : List Tri3} (h : OwnSet w b n ts) : ts.length ≤ n := by
  obtain ⟨D, h, hD⟩ := h
  rw [← hD.size]; exact h.size_le
theorem true_elem : (plainElem (H := Unit) Try.prog 4) (.bool true) = some (.lit (.bool true), []) := plainElem_bool Try.underlying4 true
theorem bool_elem_inv {H : Type} {P : Program} {e : TypeId} (he : P.underlying e = some .bool) {v : Value} {d : DataW H} {ps : List MemPlace} (h : plainElem P e v = some (d, ps)) : ∃ x, v = .bool x ∧ d = .lit (.bool x) := by
  unfold plainElem at h
  rw [he] at h
  cases v <;> simp at h
  rename_i x
  exact ⟨x, rfl, h.1.symm⟩
section
variable (w : World) {ops : Array Oper} {rest : List Oper} {o : Oper} {a : Act} {Q : Exit → Act → World → Prop}
/-- A store of true at a triple. -/
theorem wpList_put (hg : o.guard = none) (m x v : Operand) (hop : o.op = Op.mapUpdate 74 m x v) (b n : Nat) (ts : List Tri3) (hm : a.eval m = .map (some b)) (h : OwnSet w b n ts) (hn : n < maxLen) (t : Tri3) (ht : SmK t)
    (hx : a.eval x = strT t) (hv : a.eval v = .bool true) (hK : ∀ w', OwnSet w' b (n + 1) (addT ts t) → w.grownBy w' (some b) → wpList Try.prog ops Q rest (a.put o.dst undef) w') : wpList Try.prog ops Q (o :: rest) a w := by
  obtain ⟨D, hown, hD⟩ := h
  obtain ⟨f0, f1, f2, S⟩ := keyTri
  exact wpList_mapUpdate_own w hg m x v _ hop _ 4 lawTri Try.underlying74 (plainElem (H := Unit) Try.prog 4) b n D hm hown hn _ _ (litT t) hx hv (S.of ht) _ [] true_elem (fun w' h1 h2 => hK w' ⟨_, h1, hD.put S lawTri (hown.tidy lawTri) ht⟩ h2)
/-- How many there are. -/
theorem wpList_count (hg : o.guard = none) (m : Operand) (hop : o.op = Op.call { callee := Callee.builtin Builtin.len, args := #[m], argTypes := #[74] }) (b n : Nat) (ts : List Tri3) (hm : a.eval m = .map (some b)) (h : OwnSet w b n ts)
    (hK : wpList Try.prog ops Q rest (a.put o.dst (.int .i64 ts.length)) w) : wpList Try.prog ops Q (o :: rest) a w := by
  obtain ⟨D, hown, hD⟩ := h
  refine wpList_len_own w hg m _ hop _ 4 Try.underlying74 (plainElem (H := Unit) Try.prog 4) b n D hm hown ?_
  rw [hD.size]; exact hK
theorem SetOf.look {H : Type} {D : DataW H} {ts : List Tri3} {f0 f1 f2 : Field} {P : Program} {k : TypeId} (S : TriKey P k f0 f1 f2) (K : Keyed P k) (h : SetOf D ts) {t : Tri3} (ht : SmK t) : D.atKey (litT t) (.lit (.bool false)) = .lit (.bool (decide (t ∈ ts))) := by
  by_cases g : t ∈ ts
  · rw [h.val t g, decide_eq_true g]
  · rw [atKey_of_not_has (by rw [h.mem S K ht, decide_eq_false g]), decide_eq_false g]
/-- Whether a triple is there. -/
theorem wpList_look (hg : o.guard = none) (m x : Operand) (hop : o.op = Op.lookup 74 m x false) (b n : Nat) (ts : List Tri3) (hm : a.eval m = .map (some b)) (h : OwnSet w b n ts) (t : Tri3) (ht : SmK t)
    (hx : a.eval x = strT t) (hz : (zeroValue 4).run Try.prog w = .ok (.bool false) w) (hK : wpList Try.prog ops Q rest (a.put o.dst (.bool (decide (t ∈ ts)))) w) : wpList Try.prog ops Q (o :: rest) a w := by
  obtain ⟨D, hown, hD⟩ := h
  obtain ⟨f0, f1, f2, S⟩ := keyTri
  refine wpList_plain hg fun K' hK' => ?_
  obtain ⟨v, ps, hrun, hv⟩ := hown.lookup lawTri Try.underlying74 hz (plainElem_bool Try.underlying4 false) (S.of ht)
  rw [hD.look S lawTri ht] at hv
  obtain ⟨y, rfl, e⟩ := bool_elem_inv Try.underlying4 hv
  simp only [DataW.lit.injEq, Lit.bool.injEq] at e
  subst e
  unfold Oper.wp
  simp [execOp, hop, hm, hx, hrun, Result.andThen]
  exact hK' _ _ hK
/-- A triple is taken out. -/
theorem wpList_drop (hg : o.guard = none) (m x : Operand) (hop : o.op = Op.call { callee := Callee.builtin Builtin.delete, args := #[m, x], argTypes := #[74, 46] }) (b n : Nat) (ts : List Tri3) (hm : a.eval m = .map (some b)) (h : OwnSet w b n ts)
    (t : Tri3) (ht : SmK t) (hx : a.eval x = strT t) (hK : ∀ w', OwnSet w' b n (lessT ts t) → w.grownBy w' (some b) → wpList Try.prog ops Q rest (a.put o.dst (.tuple #[])) w') : wpList Try.prog ops Q (o :: rest) a w := by
  obtain ⟨D, hown, hD⟩ := h
  obtain ⟨f0, f1, f2, S⟩ := keyTri
  exact wpList_delete_own w hg m x _ _ hop 4 lawTri Try.underlying74 (plainElem (H := Unit) Try.prog 4) b n D hm hown _ (litT t) hx (S.of ht) (fun w' h1 h2 => hK w' ⟨_, h1, hD.del S lawTri (hown.tidy lawTri) ht⟩ h2.grown)
end
end Go.Proofs.Yteejpceliodcfaa
