/- Texts that rise, and a map keyed by texts: plain facts. -/
import Derived.Test.YthnpchcfjkepaaaG14
import Derived.Sort.MapsRangeIn
import Derived.Sort.KeysCollected
import Derived.Test.YthnpchcfjkepaaaG01
import Derived.Maps.OwnSet
import Derived.StringKeys
import Derived.Test.YthnpchcfjkepaaaG09
import Derived.Deep.RegionHeld3
namespace Go.Proofs.Ythnpchcfjkepaaa
open Go.Maps
abbrev Txt := List UInt8
def txts (l : List ByteArray) : List Txt := l.map fun s => s.data.toList
theorem txts_snoc (l : List ByteArray) (x : ByteArray) : txts (l ++ [x]) = txts l ++ [x.data.toList] := by simp [txts]
theorem txts_len (l : List ByteArray) : (txts l).length = l.length := by simp [txts]
def lessS (a b : Txt) : Bool := Op.bytesLess a b
theorem lessS_one : ∀ {a b : Txt}, lessS a b = false → lessS b a = false → a = b := by
  intro a b h g
  rcases cmp_cases a b with ⟨_, h'⟩ | ⟨_, h'⟩ | ⟨_, h'⟩
  · unfold lessS at h; rw [h] at h'; cases h'
  · exact h'
  · unfold lessS at g; rw [g] at h'; cases h'
theorem lessS_irrefl (a : Txt) : lessS a a = false := ltb_irrefl a
theorem lessS_trans {a b c : Txt} (h : lessS a b = true) (g : lessS b c = true) : lessS a c = true := ltb_trans a b c h g
theorem lessS_asymm {a b : Txt} (h : lessS a b = true) : lessS b a = false := ltb_asymm a b h
theorem lessS_ne {a b : Txt} (h : lessS a b = true) : a ≠ b := ltb_ne h
theorem bytesLess_lt : ∀ a b : Txt, Op.bytesLess a b = decide (a < b)
  | [], [] => by simp [Op.bytesLess]
  | [], _ :: _ => by simp [Op.bytesLess]
  | _ :: _, [] => by simp [Op.bytesLess]
  | x :: r, y :: q => by
    rw [Bool.eq_iff_iff]
    simp only [Op.bytesLess, bytesLess_lt r q, Bool.or_eq_true, Bool.and_eq_true, decide_eq_true_eq, beq_iff_eq, List.cons_lt_cons_iff]
theorem leB_less (a b : Txt) : leB a b = !lessS b a := by
  unfold lessS
  rw [bytesLess_lt, Bool.eq_iff_iff]
  simp only [leB, decide_eq_true_eq, Bool.not_eq_true', decide_eq_false_iff_not]
  exact List.not_lt.symm
def RisingS (l : List Txt) : Prop := l.Pairwise (fun a b => lessS a b = true)
theorem RisingS.nodup {l : List Txt} (h : RisingS l) : l.Nodup := List.Pairwise.imp (fun h => lessS_ne h) h
theorem eq_of_risingS {a b : List Txt} (ha : RisingS a) (hb : RisingS b) (hm : ∀ t, t ∈ a ↔ t ∈ b) : a = b :=
  List.Perm.eq_of_pairwise (le := fun x y => lessS x y = true) (fun x y _ _ h1 h2 => by rw [lessS_asymm h1] at h2; cases h2) ha hb ((List.perm_ext_iff_of_nodup ha.nodup hb.nodup).2 hm)
theorem mergeSort_rising {l : List Txt} (hn : l.Nodup) : RisingS (l.mergeSort leB) := by
  have tr : ∀ a b c : List UInt8, leB a b = true → leB b c = true → leB a c = true := fun a b c h1 h2 => by simp only [leB, decide_eq_true_eq] at *; exact List.le_trans h1 h2
  have to : ∀ a b : List UInt8, (leB a b || leB b a) = true := fun a b => by simp only [leB, Bool.or_eq_true, decide_eq_true_eq]; exact List.le_total a b
  have hs := List.pairwise_mergeSort tr to l
  have hn' : (l.mergeSort leB).Nodup := (List.mergeSort_perm l leB).nodup_iff.2 hn
  refine List.Pairwise.imp₂ (fun a b h1 h2 => ?_) hs hn'
  rw [leB_less, Bool.not_eq_true'] at h1
  cases g : lessS a b
  · exact absurd (lessS_one g h1) h2
  · rfl
theorem mergeSort_is {l g : List Txt} (hn : l.Nodup) (hg : RisingS g) (hm : ∀ u, u ∈ l ↔ u ∈ g) : l.mergeSort leB = g :=
  eq_of_risingS (mergeSort_rising hn) hg (fun u => by rw [(List.mergeSort_perm l leB).mem_iff]; exact hm u)
/-- How many are less than t, from the front on. -/
def atS (t : Txt) : List Txt → Nat
  | [] => 0
  | u :: r => if lessS u t = true then atS t r + 1 else 0
theorem atS_le (t : Txt) : ∀ g : List Txt, atS t g ≤ g.length
  | [] => Nat.le_refl _
  | u :: r => by unfold atS; have := atS_le t r; split <;> simp <;> omega
theorem atS_ahead {t u : Txt} : ∀ {g : List Txt} {i : Nat}, i < atS t g → g[i]? = some u → lessS u t = true
  | [], i, h, _ => by simp [atS] at h
  | v :: r, i, h, hu => by
    unfold atS at h
    split at h
    · rename_i hv
      cases i with
      | zero => simp at hu; rw [← hu]; exact hv
      | succ i => exact atS_ahead (g := r) (i := i) (by omega) (by simpa using hu)
    · omega
theorem atS_stop {t u : Txt} : ∀ {g : List Txt}, g[atS t g]? = some u → lessS u t = false
  | [], h => by simp at h
  | v :: r, h => by
    unfold atS at h
    split at h
    · exact atS_stop (g := r) (by simpa using h)
    · rename_i hv
      simp at h
      rw [← h]; simpa using hv
theorem atS_is {t : Txt} {g : List Txt} {k : Nat} (h1 : ∀ i u, i < k → g[i]? = some u → lessS u t = true) (hk : k ≤ g.length) (h2 : ∀ u, g[k]? = some u → lessS u t = false) : atS t g = k := by
  rcases Nat.lt_trichotomy (atS t g) k with hh | hh | hh
  · have e : g[atS t g]? = some g[atS t g] := List.getElem?_eq_getElem (by omega)
    have := h1 _ _ hh e
    rw [atS_stop e] at this
    cases this
  · exact hh
  · have hl := atS_le t g
    have e : g[k]? = some g[k] := List.getElem?_eq_getElem (by omega)
    have := h2 _ e
    rw [atS_ahead hh e] at this
    cases this
/-- Texts that rise, with one more. -/
def putS (g : List Txt) (t : Txt) : List Txt := if g[atS t g]? = some t then g else (g.take (atS t g) ++ [t]) ++ g.drop (atS t g)
theorem putS_same {g : List Txt} {t : Txt} {k : Nat} (h : atS t g = k) (hk : g[k]? = some t) : putS g t = g := by unfold putS; rw [if_pos (by rw [h]; exact hk)]
theorem putS_more {g : List Txt} {t : Txt} {k : Nat} (h : atS t g = k) (hk : g[k]? ≠ some t) : putS g t = (g.take k ++ [t]) ++ g.drop k := by unfold putS; rw [if_neg (by rw [h]; exact hk), h]
theorem putS_len (g : List Txt) (t : Txt) : (putS g t).length ≤ g.length + 1 := by
  unfold putS
  split
  · omega
  · have := atS_le t g
    simp only [List.length_append, List.length_take, List.length_cons, List.length_nil, List.length_drop]
    omega
theorem putS_mem {g : List Txt} {t u : Txt} : u ∈ putS g t ↔ u = t ∨ u ∈ g := by
  unfold putS
  split
  · rename_i h
    refine ⟨.inr, fun h' => ?_⟩
    rcases h' with rfl | h'
    · exact List.mem_of_getElem? h
    · exact h'
  · rw [List.mem_append, List.mem_append, List.mem_singleton]
    constructor
    · rintro ((h | h) | h)
      · exact .inr (List.mem_of_mem_take h)
      · exact .inl h
      · exact .inr (List.mem_of_mem_drop h)
    · rintro (h | h)
      · exact .inl (.inr h)
      · have := List.take_append_drop (atS t g) g
        rw [← this] at h
        rcases List.mem_append.1 h with h | h
        · exact .inl (.inl h)
        · exact .inr h
theorem putS_rising {g : List Txt} {t : Txt} (hr : RisingS g) : RisingS (putS g t) := by
  unfold putS
  split
  · exact hr
  · rename_i hn
    have hl := atS_le t g
    have hsplit : RisingS (g.take (atS t g) ++ g.drop (atS t g)) := by rw [List.take_append_drop]; exact hr
    obtain ⟨p1, p2, p3⟩ := List.pairwise_append.1 hsplit
    have q1 : ∀ u ∈ g.take (atS t g), lessS u t = true := by
      intro u hu
      obtain ⟨i, hi⟩ := List.mem_iff_getElem?.1 hu
      have hil := (List.getElem?_eq_some_iff.1 hi).1
      rw [List.length_take] at hil
      rw [List.getElem?_take_of_lt (by omega)] at hi
      exact atS_ahead (by omega) hi
    have q2 : ∀ u ∈ g.drop (atS t g), lessS t u = true := by
      intro u hu
      rcases Nat.lt_or_ge (atS t g) g.length with h | h
      · have e : g[atS t g]? = some g[atS t g] := List.getElem?_eq_getElem h
        have hv : lessS t g[atS t g] = true := by
          cases hq : lessS t g[atS t g]
          · exact absurd (by rw [e, lessS_one (atS_stop e) hq]) hn
          · rfl
        rw [List.drop_eq_getElem_cons h] at hu p2
        rcases List.mem_cons.1 hu with rfl | hu
        · exact hv
        · exact lessS_trans hv ((List.pairwise_cons.1 p2).1 u hu)
      · rw [List.drop_eq_nil_of_le h] at hu
        simp at hu
    rw [List.append_assoc]
    refine List.pairwise_append.2 ⟨p1, List.pairwise_cons.2 ⟨q2, p2⟩, fun a ha b hb => ?_⟩
    rcases List.mem_cons.1 hb with rfl | hb
    · exact q1 a ha
    · exact p3 a ha b hb
def putAllS (g l : List Txt) : List Txt := l.foldl putS g
theorem putAllS_snoc (g l : List Txt) (t : Txt) : putAllS g (l ++ [t]) = putS (putAllS g l) t := by unfold putAllS; rw [List.foldl_append]; rfl
theorem putAllS_mem {u : Txt} : ∀ {b a : List Txt}, u ∈ putAllS a b ↔ u ∈ a ∨ u ∈ b
  | [], a => by simp [putAllS]
  | t :: r, a => by
    show u ∈ putAllS (putS a t) r ↔ _
    rw [putAllS_mem, putS_mem, List.mem_cons]
    constructor
    · rintro ((h | h) | h)
      · exact .inr (.inl h)
      · exact .inl h
      · exact .inr (.inr h)
    · rintro (h | h | h)
      · exact .inl (.inr h)
      · exact .inl (.inl h)
      · exact .inr h
theorem putAllS_rising : ∀ {b a : List Txt}, RisingS a → RisingS (putAllS a b)
  | [], _, h => h
  | t :: r, a, h => putAllS_rising (b := r) (a := putS a t) (putS_rising h)
theorem putAllS_len : ∀ (b a : List Txt), (putAllS a b).length ≤ a.length + b.length
  | [], a => Nat.le_refl _
  | t :: r, a => by
    have h1 := putAllS_len r (putS a t)
    have h2 := putS_len a t
    show (putAllS (putS a t) r).length ≤ _
    rw [List.length_cons]; omega
def litS (t : Txt) : Lit := .string t
theorem litS_key (t : Txt) : WideAt.IsKeyLit (litS t) := trivial
theorem litS_inj {t u : Txt} (h : litS t = litS u) : t = u := by simpa [litS] using h
instance memS (t : Txt) (ts : List Txt) : Decidable (t ∈ ts) := decidable_of_iff (∃ u, u ∈ ts ∧ u = t) ⟨fun ⟨_, h, e⟩ => e ▸ h, fun h => ⟨t, h, rfl⟩⟩
/-- A map's datum is just this list of texts, each true. -/
structure SetOfS {H : Type} (D : DataW H) (ts : List Txt) : Prop where
  nodup : ts.Nodup
  has : ∀ kl, Maps.has D kl = true ↔ ∃ t ∈ ts, kl = litS t
  size : Maps.size D = ts.length
  val : ∀ t ∈ ts, ∀ z, D.atKey (litS t) z = .lit (.bool true)
def addS (ts : List Txt) (t : Txt) : List Txt := if t ∈ ts then ts else ts ++ [t]
theorem addS_mem {ts : List Txt} {t u : Txt} : u ∈ addS ts t ↔ u ∈ ts ∨ u = t := by
  unfold addS
  split
  · exact ⟨.inl, fun h => by rcases h with h | rfl <;> assumption⟩
  · simp
theorem addS_len (ts : List Txt) (t : Txt) : (addS ts t).length ≤ ts.length + 1 := by unfold addS; split <;> simp
def addAllS (ts us : List Txt) : List Txt := us.foldl addS ts
theorem addAllS_snoc (ts us : List Txt) (t : Txt) : addAllS ts (us ++ [t]) = addS (addAllS ts us) t := by unfold addAllS; rw [List.foldl_append]; rfl
theorem addAllS_mem {u : Txt} : ∀ {us ts : List Txt}, u ∈ addAllS ts us ↔ u ∈ ts ∨ u ∈ us
  | [], ts => by simp [addAllS]
  | t :: r, ts => by
    show u ∈ addAllS (addS ts t) r ↔ _
    rw [addAllS_mem, addS_mem, List.mem_cons]
    constructor
    · rintro ((h | h) | h)
      · exact .inl h
      · exact .inr (.inl h)
      · exact .inr (.inr h)
    · rintro (h | h | h)
      · exact .inl (.inl h)
      · exact .inl (.inr h)
      · exact .inr h
theorem addAllS_len : ∀ (us ts : List Txt), (addAllS ts us).length ≤ ts.length + us.length
  | [], ts => Nat.le_refl _
  | t :: r, ts => by
    have h1 := addAllS_len r (addS ts t)
    have h2 := addS_len ts t
    show (addAllS (addS ts t) r).length ≤ _
    rw [List.length_cons]; omega
section
variable {H : Type} {D : DataW H} {ts : List Txt}
theorem SetOfS.empty : SetOfS (.map [] : DataW H) [] := ⟨List.nodup_nil, fun kl => by simp [has_eq], rfl, by simp⟩
theorem SetOfS.mem (h : SetOfS D ts) (t : Txt) : Maps.has D (litS t) = decide (t ∈ ts) := by
  rw [Bool.eq_iff_iff, h.has, decide_eq_true_eq]
  exact ⟨fun ⟨u, hu, e⟩ => by rw [litS_inj e]; exact hu, fun g => ⟨t, g, rfl⟩⟩
theorem SetOfS.put (h : SetOfS D ts) (hT : Tidy D) (t : Txt) : SetOfS (D.put (litS t) (.lit (.bool true))) (addS ts t) := by
  have hm := h.mem t
  have hhas : ∀ kl, Maps.has (D.put (litS t) (.lit (.bool true))) kl = true ↔ ∃ u ∈ addS ts t, kl = litS u := by
    intro kl
    by_cases e : kl = litS t
    · subst e
      exact ⟨fun _ => ⟨t, addS_mem.2 (.inr rfl), rfl⟩, fun _ => has_put_same hT.isMap (litS_key t) _⟩
    · rw [has_put_other e, h.has]
      exact ⟨fun ⟨u, hu, hk⟩ => ⟨u, addS_mem.2 (.inl hu), hk⟩, fun ⟨u, hu, hk⟩ => by
        rcases addS_mem.1 hu with hu | rfl
        · exact ⟨u, hu, hk⟩
        · exact absurd hk e⟩
  have hval : ∀ u ∈ addS ts t, ∀ z, (D.put (litS t) (.lit (.bool true))).atKey (litS u) z = .lit (.bool true) := by
    intro u hu z
    by_cases e : litS u = litS t
    · rw [e]; exact atKey_put_same hT.isMap (litS_key t) _ _
    · rw [atKey_put_other e]
      rcases addS_mem.1 hu with hu | rfl
      · exact h.val u hu z
      · exact absurd rfl e
  refine ⟨?_, hhas, ?_, hval⟩
  · unfold addS
    split
    · exact h.nodup
    · rename_i hn
      exact List.nodup_append.2 ⟨h.nodup, by simp, fun a ha b hb => by simp at hb; subst hb; exact fun e => hn (e ▸ ha)⟩
  · rw [size_put hT, hm]
    unfold addS
    by_cases g : t ∈ ts
    · simp [g, h.size]
    · simp [g, h.size]
theorem SetOfS.look (h : SetOfS D ts) (t : Txt) : D.atKey (litS t) (.lit (.bool false)) = .lit (.bool (decide (t ∈ ts))) := by
  by_cases g : t ∈ ts
  · rw [h.val t g, decide_eq_true g]
  · rw [atKey_of_not_has (by rw [h.mem t, decide_eq_false g]), decide_eq_false g]
end
open Go.RowKit Go.Maps
theorem lawTxt : Keyed Try.prog 9 := string_keyed Try.underlying9
theorem str_enc (s : ByteArray) : Value.string s = encStr s.data.toList := by simp [encStr]
/-- Block b is a map of at most n entries that has just these texts, each true. -/
def OwnSetS (w : World) (b n : Nat) (ts : List Txt) : Prop := ∃ D : DataW Unit, w.ownsMap Try.prog 9 (plainElem (H := Unit) Try.prog 4) b n D ∧ SetOfS D ts
theorem OwnSetS.lt {w : World} {b n : Nat} {ts : List Txt} (h : OwnSetS w b n ts) : b < w.heap.size := by obtain ⟨D, h, _⟩ := h; exact h.lt
theorem OwnSetS.kept {w w' : World} {b n : Nat} {ts : List Txt} {row : Option Nat} (h : OwnSetS w b n ts) (hg : w.grownBy w' row) (hne : some b ≠ row) : OwnSetS w' b n ts := by
  obtain ⟨D, h, hD⟩ := h
  exact ⟨D, h.kept hg hne, hD⟩
theorem OwnSetS.next {w w' : World} {b n : Nat} {ts : List Txt} (h : OwnSetS w b n ts) (hb : Below w.heap.size w w') : OwnSetS w' b n ts := h.kept (grown_of_below hb) (by simp)
theorem OwnSetS.alloc {w : World} {b n : Nat} {ts : List Txt} (h : OwnSetS w b n ts) (o : Obj) : OwnSetS (w.alloc o) b n ts := h.kept (World.grownBy_alloc w o none) (by simp)
theorem OwnSetS.drew {w : World} {b n : Nat} {ts : List Txt} (h : OwnSetS w b n ts) : OwnSetS w.drew b n ts := h
theorem OwnSetS.nodup {w : World} {b n : Nat} {ts : List Txt} (h : OwnSetS w b n ts) : ts.Nodup := by obtain ⟨D, _, h⟩ := h; exact h.nodup
theorem OwnSetS.made (w : World) : OwnSetS (w.alloc (.map #[] 0)) w.heap.size 0 [] := ⟨_, World.ownsMap_made _ _ _ _, SetOfS.empty⟩
theorem OwnSetS.mono {w : World} {b n n' : Nat} {ts : List Txt} (h : OwnSetS w b n ts) (hn : n ≤ n') : OwnSetS w b n' ts := by
  obtain ⟨D, h, hD⟩ := h
  exact ⟨D, h.mono hn, hD⟩
theorem true_elemS : (plainElem (H := Unit) Try.prog 4) (.bool true) = some (.lit (.bool true), []) := plainElem_bool Try.underlying4 true
theorem bool_elem_invS {H : Type} {P : Program} {e : TypeId} (he : P.underlying e = some .bool) {v : Value} {d : DataW H} {ps : List MemPlace} (h : plainElem P e v = some (d, ps)) : ∃ x, v = .bool x ∧ d = .lit (.bool x) := by
  unfold plainElem at h
  rw [he] at h
  cases v <;> simp at h
  rename_i x
  exact ⟨x, rfl, h.1.symm⟩
section
variable (w : World) {ops : Array Oper} {rest : List Oper} {o : Oper} {a : Act} {Q : Exit → Act → World → Prop}
/-- A store of true at a text. -/
theorem wpList_putS (hg : o.guard = none) (m x v : Operand) (hop : o.op = Op.mapUpdate 71 m x v) (b n : Nat) (ts : List Txt) (hm : a.eval m = .map (some b)) (h : OwnSetS w b n ts) (hn : n < maxLen) (t : ByteArray) (ht : t.size ≤ maxLen)
    (hx : a.eval x = .string t) (hv : a.eval v = .bool true) (hK : ∀ w', OwnSetS w' b (n + 1) (addS ts t.data.toList) → w.grownBy w' (some b) → wpList Try.prog ops Q rest (a.put o.dst undef) w') : wpList Try.prog ops Q (o :: rest) a w := by
  obtain ⟨D, hown, hD⟩ := h
  exact wpList_mapUpdate_own w hg m x v _ hop _ 4 lawTxt Try.underlying71 (plainElem (H := Unit) Try.prog 4) b n D hm hown hn _ _ (litS t.data.toList) hx hv (Go.WideMaps.keyOf_string_mk Try.underlying9 ht) _ [] true_elemS (fun w' h1 h2 => hK w' ⟨_, h1, hD.put (hown.tidy lawTxt) _⟩ h2)
/-- Whether a text is there. -/
theorem wpList_lookS (hg : o.guard = none) (m x : Operand) (hop : o.op = Op.lookup 71 m x false) (b n : Nat) (ts : List Txt) (hm : a.eval m = .map (some b)) (h : OwnSetS w b n ts) (t : ByteArray) (ht : t.size ≤ maxLen)
    (hx : a.eval x = .string t) (hz : (zeroValue 4).run Try.prog w = .ok (.bool false) w) (hK : wpList Try.prog ops Q rest (a.put o.dst (.bool (decide (t.data.toList ∈ ts)))) w) : wpList Try.prog ops Q (o :: rest) a w := by
  obtain ⟨D, hown, hD⟩ := h
  refine wpList_plain hg fun K' hK' => ?_
  obtain ⟨v, ps, hrun, hv⟩ := hown.lookup lawTxt Try.underlying71 hz (plainElem_bool Try.underlying4 false) (Go.WideMaps.keyOf_string_mk Try.underlying9 ht)
  have hl := hD.look t.data.toList
  unfold litS at hl
  rw [hl] at hv
  obtain ⟨y, rfl, e⟩ := bool_elem_invS Try.underlying4 hv
  simp only [DataW.lit.injEq, Lit.bool.injEq] at e
  subst e
  unfold Oper.wp
  simp [execOp, hop, hm, hx, hrun, Result.andThen]
  exact hK' _ _ hK
end
end Go.Proofs.Ythnpchcfjkepaaa
/- A slice of texts: what its cells hold; one of the call's own; the exact laws' comparison, marks and second look. -/
namespace Go.Proofs.Ythnpchcfjkepaaa
open Go.RowKit Go.WideShapes
/-- The slice is nil, or its cells hold the texts ts. -/
def IsStrs (w : World) (a : Option Addr) (len cap : Nat) (ts : List ByteArray) : Prop :=
  (a = none ∧ len = 0 ∧ cap = 0 ∧ ts = []) ∨
  ∃ x, a = some x ∧ len ≤ cap ∧ cap ≤ maxLen ∧ ts.length = len ∧ ∀ (i : Nat) (t : ByteArray), ts[i]? = some t → w.cell? (x.add i) = some (.string t)
theorem IsStrs.cells {w : World} {a : Option Addr} {len cap : Nat} {ts : List ByteArray} (h : IsStrs w a len cap ts) (h0 : 0 < len) : ∃ b off, a = some ⟨b, off, none⟩ ∧ b < w.heap.size ∧ len ≤ cap ∧ cap ≤ maxLen ∧ ts.length = len ∧
    ∀ (i : Nat) (t : ByteArray), ts[i]? = some t → w.cell? ⟨b, off + i, none⟩ = some (.string t) := by
  rcases h with ⟨_, rfl, _⟩ | ⟨x, rfl, h1, h2, h3, h4⟩
  · omega
  · obtain ⟨b, off, spot⟩ := x
    have ht : ts[0]? = some ts[0] := List.getElem?_eq_getElem (by omega)
    have hc := h4 0 _ ht
    obtain rfl : spot = none := by simpa [Addr.add] using World.cell?_spot hc
    refine ⟨b, off, rfl, by have := World.block_lt_of_cell? _ _ hc; simpa [Addr.add] using this, h1, h2, h3, fun i t hi => ?_⟩
    have c0 := h4 i t hi
    rw [add_plain] at c0
    exact c0
theorem IsStrs.len {w : World} {a : Option Addr} {len cap : Nat} {ts : List ByteArray} (h : IsStrs w a len cap ts) : ts.length = len := by
  rcases h with ⟨_, rfl, _, rfl⟩ | ⟨_, _, _, _, h, _⟩
  · rfl
  · exact h
theorem IsStrs.maxl {w : World} {a : Option Addr} {len cap : Nat} {ts : List ByteArray} (h : IsStrs w a len cap ts) : len ≤ 9223372036854775807 := by
  rcases h with ⟨_, rfl, _, _⟩ | ⟨_, _, h1, h2, _⟩
  · omega
  · unfold maxLen at h2; omega
theorem IsStrs.next {w w' : World} {a : Option Addr} {len cap : Nat} {ts : List ByteArray} (h : IsStrs w a len cap ts) (hb : Below w.heap.size w w') : IsStrs w' a len cap ts := by
  rcases h with h | ⟨x, rfl, h2, h3, h4, h5⟩
  · exact .inl h
  · exact .inr ⟨x, rfl, h2, h3, h4, fun i t hi => by
      have c0 := h5 i t hi
      rw [hb.cell (World.block_lt_of_cell? _ _ c0)]; exact c0⟩
abbrev strV (t : ByteArray) : Value := .string t
/-- The call owns a slice of these texts. -/
def OwnS (B : Nat) (w : World) (v : Value) (ts : List ByteArray) : Prop := w.ownsRow B 9 1 v ts.length (ts.map strV)
theorem infoStr : (Try.prog.info? 9).map (fun i => (i.zero, i.size, i.bytes)) = some (some (.string ⟨#[]⟩), 1, 16) := by kernel_rfl
theorem OwnS.is {B : Nat} {w : World} {v : Value} {ts : List ByteArray} (h : OwnS B w v ts) : ∃ a cap, v = .slice a ts.length cap ∧ IsStrs w a ts.length cap ts := by
  have h0 := h
  obtain ⟨_, hc⟩ := h
  rcases hc with ⟨rfl, hl⟩ | ⟨g, cap, cur, rfl, _, hb, h1, h2, _⟩
  · exact ⟨none, 0, by rw [hl], .inl ⟨rfl, hl, rfl, List.length_eq_zero_iff.1 hl⟩⟩
  · refine ⟨_, cap, rfl, .inr ⟨⟨g, 0, none⟩, rfl, h1, h2, rfl, fun i t hi => ?_⟩⟩
    have hl : i < ts.length := (List.getElem?_eq_some_iff.1 hi).1
    have k0 := h0.cellAt i (by omega)
    have e : (⟨g, 0, none⟩ : Addr).add i = ⟨g, i, none⟩ := by rw [add_plain, Nat.zero_add]
    rw [e, k0, List.getElem?_map, hi]; rfl
theorem OwnS.kept {B : Nat} {w w' : World} {v : Value} {ts : List ByteArray} (h : OwnS B w v ts) (hb : Below w.heap.size w w') : OwnS B w' v ts := World.ownsRow.kept h (grown_of_below hb) (by
  rcases hv : v.ownBlock with _ | i
  · exact .inl rfl
  · exact .inr (by simp))
theorem ownS_snoc {B : Nat} {w : World} {v : Value} {ts : List ByteArray} {t : ByteArray} (h : w.ownsRow B 9 1 v (ts.length + 1) (ts.map strV ++ [.string t])) : OwnS B w v (ts ++ [t]) := by
  unfold OwnS; simpa using h
theorem ownS_base {B C : Nat} {w : World} {v : Value} {ts : List ByteArray} (h : OwnS B w v ts) (hc : C ≤ B) : OwnS C w v ts := by
  obtain ⟨h1, h2⟩ := h
  refine ⟨h1, ?_⟩
  rcases h2 with h2 | ⟨g, cap, cur, e, hB, r⟩
  · exact .inl h2
  · exact .inr ⟨g, cap, cur, e, Nat.le_trans hc hB, r⟩
set_option maxRecDepth 100000 in
set_option maxHeartbeats 1600000 in
theorem eqStrS (a b : Option Addr) (la ca lb cb : Nat) (ts : List ByteArray) (w : World) (ha : IsStrs w a la ca ts) (hb : IsStrs w b lb cb ts) (hs : la ≤ 1048576) :
    Calls Try.prog 48 #[.slice a la ca, .slice b lb cb] w fun e w' => e = .returned (.bool true) ∧ Below w.heap.size w w' := by
  have hlb : lb = la := by rw [← ha.len, ← hb.len]
  subst hlb
  have HA := Lib.hid ha
  have HB := Lib.hid hb
  have HT := Lib.hid ha.len
  clear ha hb
  go_enter Try.func48, Try.ntmps48
  go_wp2_with fail
  go_loopw [5] (fun i wr => ∃ k : Nat, k ≤ lb ∧ i = .int .i64 k ∧ Below w.heap.size w wr) (fun i _ => lb - (intOf i).toNat)
  case atStart => exact ⟨0, Nat.zero_le _, rfl, Below.refl _ _⟩
  case round =>
    obtain ⟨k, hk, rfl, hnx⟩ := hrel
    by_cases hlt : k < lb
    · obtain ⟨x, off, rfl, hx, _, _, hts, hc⟩ := HA.out.cells (by omega)
      obtain ⟨y, off', rfl, hy, _, _, _, hd⟩ := HB.out.cells (by omega)
      have ht : ts[k]? = some ts[k] := List.getElem?_eq_getElem (by omega)
      have c0 := hc k _ ht
      have d0 := hd k _ ht
      rw [← hnx.cell (p := ⟨x, _, none⟩) hx] at c0
      rw [← hnx.cell (p := ⟨y, _, none⟩) hy] at d0
      generalize ts[k] = t at c0 d0
      have hk6 : (0 : Int) ≤ (k : Int) := by omega
      have hk7 : (k : Int) < (lb : Int) := by omega
      clear ht hts hc hd
      go_wp2_with fail
      go_quiet (fail)
      have B : Below w.heap.size w (wr.drewN nq) := below_drewN hnx nq
      clear hnx c0 d0
      generalize wr.drewN nq = wd at B ⊢
      go_wp2_with fail
      go_roundw
      case rel => exact ⟨k + 1, by omega, by go_num, B⟩
      case measure => simp [intOf]; omega
    · go_wp2_with fail
      go_ret
      exact ⟨rfl, hnx⟩
def marksS (k n : Nat) : List ByteArray := (List.range n).map fun i => mark (k + i)
theorem marksS_succ (k n : Nat) : marksS k (n + 1) = marksS k n ++ [mark (k + n)] := by unfold marksS; rw [List.range_succ, List.map_append]; rfl
theorem marksS_len (k n : Nat) : (marksS k n).length = n := by simp [marksS]
theorem marksS_at {k n i : Nat} (h : i < n) : (marksS k n)[i]? = some (mark (k + i)) := by unfold marksS; rw [List.getElem?_map, List.getElem?_range h]; rfl
theorem set1 {xs l : List Value} {k : Nat} (a : Value) (h : xs.take k = l) (hl : k < xs.length) : (xs.set k a).take (k + 1) = l ++ [a] := by
  subst h
  rw [List.take_succ_eq_append_getElem (by simpa using hl), List.take_set_of_le (Nat.le_refl _)]
  simp
theorem own_keep1 {B e g n c : Nat} {w w' : World} {xs : List Value} (h : w.ownsRow B e 1 (.slice (some ⟨g, 0, none⟩) n c) n xs) (hb : Below w.heap.size w w') : w'.ownsRow B e 1 (.slice (some ⟨g, 0, none⟩) n c) n xs := h.kept (grown_of_below hb) (.inr (by simp [Value.ownBlock]))
end Go.Proofs.Ythnpchcfjkepaaa
/- Whether a text is in a list of texts: the specification's own. -/
namespace Go.Proofs.Ythnpchcfjkepaaa
open Go.RowKit Go.WideShapes
def hasB (ts : List ByteArray) (x : ByteArray) : Bool := ts.any fun y => y.toList == x.toList
theorem hasB_yes {ts : List ByteArray} {x u : ByteArray} {k : Nat} (h : ts[k]? = some u) (he : (u.toList == x.toList) = true) : hasB ts x = true := List.any_eq_true.2 ⟨u, List.mem_of_getElem? h, he⟩
theorem hasB_no {ts : List ByteArray} {x : ByteArray} (h : ∀ (i : Nat) (u : ByteArray), i < ts.length → ts[i]? = some u → (u.toList == x.toList) = false) : hasB ts x = false := by
  unfold hasB
  rw [List.any_eq_false]
  intro u hu
  obtain ⟨i, hi⟩ := List.mem_iff_getElem?.1 hu
  rw [h i u (List.getElem?_eq_some_iff.1 hi).1 hi]; simp
set_option maxRecDepth 100000 in
theorem specHas (a : Option Addr) (n c : Nat) (ts : List ByteArray) (x : ByteArray) (w : World) (h : IsStrs w a n c ts) (hn : n ≤ 1048576) :
    Calls Try.prog 41 #[.slice a n c, .string x] w fun e w' => e = .returned (.bool (hasB ts x)) ∧ w' = w := by
  have H := Lib.hid h
  have HL := Lib.hid h.len
  clear h
  go_enter Try.func41, Try.ntmps41
  go_wp2_with fail
  go_loop [5] (fun i => ∃ k : Nat, k ≤ n ∧ i = .int .i64 k ∧ Hid (∀ (i : Nat) (u : ByteArray), i < k → ts[i]? = some u → (u.toList == x.toList) = false)) (fun i => n - (intOf i).toNat)
  case atStart => exact ⟨0, Nat.zero_le _, rfl, Lib.hid (fun i u hi => by omega)⟩
  case round =>
    obtain ⟨k, hk, rfl, hno⟩ := hrel
    by_cases hlt : k < n
    · obtain ⟨b, off, rfl, hb, _, _, hts, hcs⟩ := H.out.cells (by omega)
      have hu : ts[k]? = some (ts[k]'(by omega)) := List.getElem?_eq_getElem (by omega)
      have hc := hcs k _ hu
      generalize ts[k]'(by omega) = u at hu hc
      have hk6 : (0 : Int) ≤ (k : Int) := by omega
      have hk7 : (k : Int) < (n : Int) := by omega
      have HU := Lib.hid hu
      clear hts hcs hu
      cases he : (u.toList == x.toList)
      · have HN : Hid (∀ (i : Nat) (u : ByteArray), i < k + 1 → ts[i]? = some u → (u.toList == x.toList) = false) := Lib.hid (fun i v hi hv => by
          rcases Nat.lt_or_ge i k with g | g
          · exact hno.out i v g hv
          · obtain rfl : i = k := by omega
            rw [HU.out] at hv; obtain rfl := Option.some.inj hv; exact he)
        clear hno HU
        go_wp2_with fail
        go_round
        case rel => exact ⟨k + 1, by omega, by go_num, HN⟩
        case measure => simp [intOf]; omega
      · have HR : Hid (hasB ts x = true) := Lib.hid (hasB_yes HU.out he)
        clear hno HU
        go_wp2_with fail
        go_ret
        exact ⟨by rw [HR.out]; rfl, rfl⟩
    · have HR : Hid (hasB ts x = false) := Lib.hid (hasB_no (fun i u hi hu => hno.out i u (by have := HL.out; omega) hu))
      clear hno
      go_wp2_with fail
      go_ret
      exact ⟨by rw [HR.out]; rfl, rfl⟩
end Go.Proofs.Ythnpchcfjkepaaa
