/- A map of texts that the call holds: what it does at the operations; its keys in order. -/
import Derived.Test.YtapcbhpkbdlinabTxtM
import Derived.Test.YtapcbhpkbdlinabOwn
import Derived.Test.YtapcbhpkbdlinabBase
import Derived.Maps.OwnSet
import Derived.StringKeys
namespace Go.Proofs.Ytapcbhpkbdlinab
open Go.RowKit Go.Maps
theorem lawTxt : Keyed Try.prog 9 := string_keyed Try.underlying9
theorem str_enc (s : ByteArray) : Value.string s = encStr s.data.toList := by simp [encStr]
/-- Block b is a map of at most n entries that has just these texts, each true. -/
def OwnSetS (w : World) (b n : Nat) (ts : List Txt) : Prop := ∃ D : DataW Unit, w.ownsMap Try.prog 9 (plainElem (H := Unit) Try.prog 4) b n D ∧ SetOfS D ts
theorem OwnSetS.lt {w : World} {b n : Nat} {ts : List Txt} (h : OwnSetS w b n ts) : b < w.heap.size := by obtain ⟨D, h, _⟩ := h; exact h.lt
theorem OwnSetS.kept {w w' : World} {b n : Nat} {ts : List Txt} {row : Option Nat} (h : OwnSetS w b n ts) (hg : w.grownBy w' row) (hne : some b ≠ row) : OwnSetS w' b n ts := by
  obtain ⟨D, h, hD⟩ := h
  exact ⟨D, h.kept hg hne, hD⟩
theorem OwnSetS.next {w w' : World} {b n : Nat} {ts : List Txt} (h : OwnSetS w b n ts) (hb : Below w.heap.size w w') : OwnSetS w' b n ts := h.kept (grown_of_below hb) (by simp)
theorem OwnSetS.alloc {w : World} {b n : Nat} {ts : List Txt} (h : OwnSetS w b n ts) (o : Obj) : OwnSetS (w.alloc o) b n ts := h.kept (World.grownBy_alloc w o none) (by simp)
theorem OwnSetS.drew {w : World} {b n : Nat} {ts : List Txt} (h : OwnSetS w b n ts) : OwnSetS w.drew b n ts := h
theorem OwnSetS.nodup {w : World} {b n : Nat} {ts : List Txt} (h : OwnSetS w b n ts) : ts.Nodup := by obtain ⟨D, _, h⟩ := h; exact h.nodup
theorem OwnSetS.made (w : World) : OwnSetS (w.alloc (.map #[] 0)) w.heap.size 0 [] := ⟨_, World.ownsMap_made _ _ _ _, SetOfS.empty⟩
theorem OwnSetS.mono {w : World} {b n n' : Nat} {ts : List Txt} (h : OwnSetS w b n ts) (hn : n ≤ n') : OwnSetS w b n' ts := by
  obtain ⟨D, h, hD⟩ := h
  exact ⟨D, h.mono hn, hD⟩
theorem true_elemS : (plainElem (H := Unit) Try.prog 4) (.bool true) = some (.lit (.bool true), []) := plainElem_bool Try.underlying4 true
theorem bool_elem_invS {H : Type} {P : Program} {e : TypeId} (he : P.underlying e = some .bool) {v : Value} {d : DataW H} {ps : List MemPlace} (h : plainElem P e v = some (d, ps)) : ∃ x, v = .bool x ∧ d = .lit (.bool x) := by
  unfold plainElem at h
  rw [he] at h
  cases v <;> simp at h
  rename_i x
  exact ⟨x, rfl, h.1.symm⟩
section
variable (w : World) {ops : Array Oper} {rest : List Oper} {o : Oper} {a : Act} {Q : Exit → Act → World → Prop}
/-- A store of true at a text. -/
theorem wpList_putS (hg : o.guard = none) (m x v : Operand) (hop : o.op = Op.mapUpdate 76 m x v) (b n : Nat) (ts : List Txt) (hm : a.eval m = .map (some b)) (h : OwnSetS w b n ts) (hn : n < maxLen) (t : ByteArray) (ht : t.size ≤ maxLen)
    (hx : a.eval x = .string t) (hv : a.eval v = .bool true) (hK : ∀ w', OwnSetS w' b (n + 1) (addS ts t.data.toList) → w.grownBy w' (some b) → wpList Try.prog ops Q rest (a.put o.dst undef) w') : wpList Try.prog ops Q (o :: rest) a w := by
  obtain ⟨D, hown, hD⟩ := h
  exact wpList_mapUpdate_own w hg m x v _ hop _ 4 lawTxt Try.underlying76 (plainElem (H := Unit) Try.prog 4) b n D hm hown hn _ _ (litS t.data.toList) hx hv (Go.WideMaps.keyOf_string_mk Try.underlying9 ht) _ [] true_elemS (fun w' h1 h2 => hK w' ⟨_, h1, hD.put (hown.tidy lawTxt) _⟩ h2)
/-- Whether a text is there. -/
theorem wpList_lookS (hg : o.guard = none) (m x : Operand) (hop : o.op = Op.lookup 76 m x false) (b n : Nat) (ts : List Txt) (hm : a.eval m = .map (some b)) (h : OwnSetS w b n ts) (t : ByteArray) (ht : t.size ≤ maxLen)
    (hx : a.eval x = .string t) (hz : (zeroValue 4).run Try.prog w = .ok (.bool false) w) (hK : wpList Try.prog ops Q rest (a.put o.dst (.bool (decide (t.data.toList ∈ ts)))) w) : wpList Try.prog ops Q (o :: rest) a w := by
  obtain ⟨D, hown, hD⟩ := h
  refine wpList_plain hg fun K' hK' => ?_
  obtain ⟨v, ps, hrun, hv⟩ := hown.lookup lawTxt Try.underlying76 hz (plainElem_bool Try.underlying4 false) (Go.WideMaps.keyOf_string_mk Try.underlying9 ht)
  have hl := hD.look t.data.toList
  unfold litS at hl
  rw [hl] at hv
  obtain ⟨y, rfl, e⟩ := bool_elem_invS Try.underlying4 hv
  simp only [DataW.lit.injEq, Lit.bool.injEq] at e
  subst e
  unfold Oper.wp
  simp [execOp, hop, hm, hx, hrun, Result.andThen]
  exact hK' _ _ hK
end
end Go.Proofs.Ytapcbhpkbdlinab
