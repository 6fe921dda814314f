/- A map keyed by triples: what its keys read as; the map as a list of triples. -/
import Derived.Test.YtiajdnhmjdfeeaaGreatG31
import Derived.Sort.MapsRangeIn
import Derived.DeepKeys4
import Derived.Test.YtiajdnhmjdfeeaaGreatG38
import Derived.Test.YtiajdnhmjdfeeaaGreatG08
import Derived.Test.YtiajdnhmjdfeeaaGreatG01
import Derived.Laws.StructEq
import Derived.Test.YtiajdnhmjdfeeaaGreatG07
import Derived.Test.YtiajdnhmjdfeeaaGreatG00
namespace Go.Proofs.YtiajdnhmjdfeeaaGreat
open Go.Maps
def strT (t : Tri3) : Value := .agg #[.string t.1, .string t.2.1, .string t.2.2]
def litT (t : Tri3) : Lit := .string (keyBytes [.string t.1.data.toList, .string t.2.1.data.toList, .string t.2.2.data.toList])
def SmK (t : Tri3) : Prop := t.1.size ≤ maxLen ∧ t.2.1.size ≤ maxLen ∧ t.2.2.size ≤ maxLen
instance memT (t : Tri3) (ts : List Tri3) : Decidable (t ∈ ts) := decidable_of_iff (∃ u, u ∈ ts ∧ u = t) ⟨fun ⟨_, h, e⟩ => e ▸ h, fun h => ⟨t, h, rfl⟩⟩
theorem strT_inj {t u : Tri3} (h : strT t = strT u) : t = u := by
  obtain ⟨a, b, c⟩ := t
  obtain ⟨x, y, z⟩ := u
  simp only [strT, Value.agg.injEq, Array.mk.injEq, List.cons.injEq, Value.string.injEq, and_true] at h
  obtain ⟨h1, h2, h3⟩ := h
  rw [h1, h2, h3]
theorem lessT_len_mem {t : Tri3} : ∀ {g : List Tri3}, g.Nodup → t ∈ g → (lessT g t).length + 1 = g.length := by
  intro g
  induction g with
  | nil => intro _ h; simp at h
  | cons x r ih =>
    intro hn h
    obtain ⟨h1, h2⟩ := List.nodup_cons.1 hn
    unfold lessT at ih ⊢
    by_cases e : x = t
    · subst e
      have : r.filter (fun u => decide (u ≠ x)) = r := List.filter_eq_self.2 fun u hu => decide_eq_true (fun g => h1 (g ▸ hu))
      simp only [List.filter_cons, ne_eq, not_true_eq_false, decide_false, Bool.false_eq_true, if_false, List.length_cons]
      exact congrArg (fun l => List.length l + 1) this
    · have hr : t ∈ r := by
        rcases List.mem_cons.1 h with h | h
        · exact absurd h.symm e
        · exact h
      have := ih h2 hr
      simp only [List.filter_cons, ne_eq, e, not_false_eq_true, decide_true, if_true, List.length_cons]
      simp only [ne_eq] at this
      omega
theorem lessT_none {t : Tri3} {g : List Tri3} (h : t ∉ g) : lessT g t = g := List.filter_eq_self.2 fun _ hu => decide_eq_true (fun e => h (e ▸ hu))
section
variable {P : Program}
theorem keyLits_str {e : TypeId} (he : P.underlying e = some .string) (d : Nat) {s : ByteArray} (hs : s.size ≤ maxLen) : P.keyLits (d + 1) e [.string s] = some [.string s.data.toList] := by
  simp [Program.keyLits, he, hs]
theorem keyLits_str_inv {e : TypeId} (he : P.underlying e = some .string) (d : Nat) {x : Value} {ls : List Lit} (h : P.keyLits (d + 1) e [x] = some ls) : ∃ s : ByteArray, x = .string s ∧ s.size ≤ maxLen ∧ ls = [.string s.data.toList] := by
  cases x <;> simp [Program.keyLits, he] at h
  rename_i s
  exact ⟨s, rfl, h.1, h.2.symm⟩
/-- Three fields, a text each. -/
structure TriKey (P : Program) (k : TypeId) (f0 f1 f2 : Field) : Prop where
  row : P.underlying k = some (.struct #[f0, f1, f2])
  key : P.keyType k = true
  cells : P.cellsOf k = 3
  types : ∃ n, P.types.size = n + 1
  names : (#[f0, f1, f2] : Array Field).all (·.name != "_") = true
  u0 : P.underlying f0.type = some .string
  u1 : P.underlying f1.type = some .string
  u2 : P.underlying f2.type = some .string
  o0 : f0.offset = 0
  o1 : f1.offset = 1
  o2 : f2.offset = 2
  c0 : P.cellsOf f0.type = 1
  c1 : P.cellsOf f1.type = 1
  c2 : P.cellsOf f2.type = 1
variable {k : TypeId} {f0 f1 f2 : Field}
theorem TriKey.lits (S : TriKey P k f0 f1 f2) (x y z : Value) : P.keyLits (P.types.size + 1) k [x, y, z] =
    ((P.keyLits P.types.size f0.type [x]).bind fun a => (P.keyLits P.types.size f1.type [y]).bind fun b => (P.keyLits P.types.size f2.type [z]).bind fun c => some [a, b, c]).map List.flatten := by
  have hn := S.names
  conv => lhs; unfold Program.keyLits
  rw [S.row]
  simp only
  rw [if_pos ⟨by rw [S.cells]; rfl, hn⟩]
  congr 1
  simp only [List.mapM_cons, List.mapM_nil, S.o0, S.o1, S.o2, S.c0, S.c1, S.c2, List.drop_zero, List.drop_succ_cons, List.take_succ_cons, List.take_zero, Option.bind_eq_bind, Option.pure_def, Option.bind_assoc, Option.bind_some]
theorem TriKey.of (S : TriKey P k f0 f1 f2) {t : Tri3} (h : SmK t) : keyOf P k (strT t) = some (litT t) := by
  obtain ⟨n, hn⟩ := S.types
  have L := S.lits (.string t.1) (.string t.2.1) (.string t.2.2)
  rw [hn, keyLits_str S.u0 n h.1, keyLits_str S.u1 n h.2.1, keyLits_str S.u2 n h.2.2] at L
  unfold keyOf strT
  rw [S.row]
  simp only
  rw [S.key, if_pos (by simp [Value.formed, S.row, S.cells])]
  rw [hn]
  show Option.map _ (P.keyLits (n + 1 + 1) k [Value.string t.1, .string t.2.1, .string t.2.2]) = _
  rw [L]
  rfl
theorem TriKey.inv (S : TriKey P k f0 f1 f2) {v : Value} {kl : Lit} (h : keyOf P k v = some kl) : ∃ t, v = strT t ∧ SmK t ∧ kl = litT t := by
  obtain ⟨n, hn⟩ := S.types
  have h0 := h
  unfold keyOf at h
  rw [S.row] at h
  simp only at h
  split at h
  · rename_i hf
    rw [S.key, Bool.true_and] at hf
    cases v <;> simp [Value.formed, S.row] at hf
    rename_i cs
    rw [S.cells] at hf
    obtain ⟨l⟩ := cs
    match l, hf with
    | [x, y, z], _ =>
      have L := S.lits x y z
      rw [hn] at L h
      change Option.map _ (P.keyLits (n + 1 + 1) k [x, y, z]) = _ at h
      rw [L] at h
      cases e0 : P.keyLits (n + 1) f0.type [x] with
      | none => rw [e0] at h; simp at h
      | some a =>
        cases e1 : P.keyLits (n + 1) f1.type [y] with
        | none => rw [e0, e1] at h; simp at h
        | some b =>
          cases e2 : P.keyLits (n + 1) f2.type [z] with
          | none => rw [e0, e1, e2] at h; simp at h
          | some c =>
            obtain ⟨s, rfl, hs, _⟩ := keyLits_str_inv S.u0 n e0
            obtain ⟨p, rfl, hp, _⟩ := keyLits_str_inv S.u1 n e1
            obtain ⟨o, rfl, ho, _⟩ := keyLits_str_inv S.u2 n e2
            have hk := S.of (t := (s, p, o)) ⟨hs, hp, ho⟩
            refine ⟨(s, p, o), rfl, ⟨hs, hp, ho⟩, ?_⟩
            rw [show strT (s, p, o) = Value.agg { toList := [.string s, .string p, .string o] } from rfl, h0] at hk
            exact Option.some.inj hk
  · cases h
theorem TriKey.inj (S : TriKey P k f0 f1 f2) (K : Keyed P k) {t u : Tri3} (ht : SmK t) (hu : SmK u) (h : litT t = litT u) : t = u :=
  strT_inj (K.inj (S.of ht) (by rw [h]; exact S.of hu))
end
theorem litT_key (t : Tri3) : WideAt.IsKeyLit (litT t) := trivial
/-- A map's datum is just this list of triples, each true. -/
structure SetOf {H : Type} (D : DataW H) (ts : List Tri3) : Prop where
  nodup : ts.Nodup
  small : ∀ t ∈ ts, SmK t
  has : ∀ kl, Maps.has D kl = true ↔ ∃ t ∈ ts, kl = litT t
  size : Maps.size D = ts.length
  val : ∀ t ∈ ts, ∀ z, D.atKey (litT t) z = .lit (.bool true)
/-- One more, where it is not there. -/
def addT (ts : List Tri3) (t : Tri3) : List Tri3 := if t ∈ ts then ts else ts ++ [t]
theorem addT_mem {ts : List Tri3} {t u : Tri3} : u ∈ addT ts t ↔ u ∈ ts ∨ u = t := by
  unfold addT
  split
  · exact ⟨.inl, fun h => by rcases h with h | rfl <;> assumption⟩
  · simp
theorem addT_len (ts : List Tri3) (t : Tri3) : (addT ts t).length ≤ ts.length + 1 := by unfold addT; split <;> simp
/-- All of them, one by one. -/
def addAll (ts us : List Tri3) : List Tri3 := us.foldl addT ts
theorem addAll_snoc (ts us : List Tri3) (t : Tri3) : addAll ts (us ++ [t]) = addT (addAll ts us) t := by unfold addAll; rw [List.foldl_append]; rfl
theorem addAll_mem {u : Tri3} : ∀ {us ts : List Tri3}, u ∈ addAll ts us ↔ u ∈ ts ∨ u ∈ us
  | [], ts => by simp [addAll]
  | t :: r, ts => by
    show u ∈ addAll (addT ts t) r ↔ _
    rw [addAll_mem, addT_mem, List.mem_cons]
    constructor
    · rintro ((h | h) | h)
      · exact .inl h
      · exact .inr (.inl h)
      · exact .inr (.inr h)
    · rintro (h | h | h)
      · exact .inl (.inl h)
      · exact .inl (.inr h)
      · exact .inr h
section
variable {H : Type} {P : Program} {k : TypeId} {f0 f1 f2 : Field} {D : DataW H} {ts : List Tri3}
theorem SetOf.empty : SetOf (.map [] : DataW H) [] := ⟨List.nodup_nil, by simp, fun kl => by simp [has_eq], rfl, by simp⟩
theorem SetOf.mem (S : TriKey P k f0 f1 f2) (K : Keyed P k) (h : SetOf D ts) {t : Tri3} (ht : SmK t) : Maps.has D (litT t) = decide (t ∈ ts) := by
  rw [Bool.eq_iff_iff, h.has, decide_eq_true_eq]
  exact ⟨fun ⟨u, hu, e⟩ => by rw [S.inj K ht (h.small u hu) e]; exact hu, fun g => ⟨t, g, rfl⟩⟩
theorem SetOf.put (S : TriKey P k f0 f1 f2) (K : Keyed P k) (h : SetOf D ts) (hT : Tidy D) {t : Tri3} (ht : SmK t) : SetOf (D.put (litT t) (.lit (.bool true))) (addT ts t) := by
  have hm := h.mem S K ht
  have hhas : ∀ kl, Maps.has (D.put (litT t) (.lit (.bool true))) kl = true ↔ ∃ u ∈ addT ts t, kl = litT u := by
    intro kl
    by_cases e : kl = litT t
    · subst e
      exact ⟨fun _ => ⟨t, addT_mem.2 (.inr rfl), rfl⟩, fun _ => has_put_same hT.isMap (litT_key t) _⟩
    · rw [has_put_other e, h.has]
      exact ⟨fun ⟨u, hu, hk⟩ => ⟨u, addT_mem.2 (.inl hu), hk⟩, fun ⟨u, hu, hk⟩ => by
        rcases addT_mem.1 hu with hu | rfl
        · exact ⟨u, hu, hk⟩
        · exact absurd hk e⟩
  have hval : ∀ u ∈ addT ts t, ∀ z, (D.put (litT t) (.lit (.bool true))).atKey (litT u) z = .lit (.bool true) := by
    intro u hu z
    by_cases e : litT u = litT t
    · rw [e]; exact atKey_put_same hT.isMap (litT_key t) _ _
    · rw [atKey_put_other e]
      rcases addT_mem.1 hu with hu | rfl
      · exact h.val u hu z
      · exact absurd rfl e
  have hsm : ∀ u ∈ addT ts t, SmK u := by
    intro u hu
    rcases addT_mem.1 hu with hu | rfl
    · exact h.small u hu
    · exact ht
  refine ⟨?_, hsm, hhas, ?_, hval⟩
  · unfold addT
    split
    · exact h.nodup
    · rename_i hn
      exact List.nodup_append.2 ⟨h.nodup, by simp, fun a ha b hb => by simp at hb; subst hb; exact fun e => hn (e ▸ ha)⟩
  · rw [size_put hT, hm]
    unfold addT
    by_cases g : t ∈ ts
    · simp [g, h.size]
    · simp [g, h.size]
theorem SetOf.del (S : TriKey P k f0 f1 f2) (K : Keyed P k) (h : SetOf D ts) (hT : Tidy D) {t : Tri3} (ht : SmK t) : SetOf (D.del (litT t)) (lessT ts t) := by
  have hm := h.mem S K ht
  refine ⟨h.nodup.filter _, fun u hu => h.small u (lessT_mem.1 hu).2, fun kl => ?_, ?_, fun u hu z => ?_⟩
  · by_cases e : kl = litT t
    · subst e
      rw [has_del_same]
      exact ⟨(fun h => by cases h), fun ⟨u, hu, hk⟩ => absurd (S.inj K ht (h.small u (lessT_mem.1 hu).2) hk).symm (lessT_mem.1 hu).1⟩
    · rw [has_del_other e, h.has]
      exact ⟨fun ⟨u, hu, hk⟩ => ⟨u, lessT_mem.2 ⟨fun g => e (by rw [hk, g]), hu⟩, hk⟩, fun ⟨u, hu, hk⟩ => ⟨u, (lessT_mem.1 hu).2, hk⟩⟩
  · have := size_del (k := litT t) hT
    rw [hm, h.size] at this
    by_cases g : t ∈ ts
    · have := lessT_len_mem h.nodup g
      simp only [g, decide_true, if_true] at *; omega
    · rw [lessT_none g]
      simp only [g, decide_false, Bool.false_eq_true, if_false] at *; omega
  · have hne : litT u ≠ litT t := fun e => (lessT_mem.1 hu).1 (S.inj K (h.small u (lessT_mem.1 hu).2) ht e)
    rw [atKey_del_other hne]
    exact h.val u (lessT_mem.1 hu).2 z
/-- What a range over the map has met so far. -/
def CollT (D0 : DataW H) (left : Lit → Bool) (ss : List Tri3) : Prop := ss.Nodup ∧ (∀ t ∈ ss, SmK t) ∧ ∀ t, SmK t → (t ∈ ss ↔ (Maps.has D0 (litT t) = true ∧ left (litT t) = false))
theorem CollT.start (D0 : DataW H) : CollT D0 (Maps.has D0) [] := ⟨List.nodup_nil, by simp, fun t _ => by cases Maps.has D0 (litT t) <;> simp⟩
theorem CollT.step (S : TriKey P k f0 f1 f2) (K : Keyed P k) {left : Lit → Bool} {ss : List Tri3} {D0 : DataW H} (h : CollT D0 left ss) {x : Tri3} {y : DataW H} (hx : SmK x) (hlk : left (litT x) = true) (hat : ∀ zd, D0.atKey (litT x) zd = y) :
    CollT D0 (fun z => left z && !z.sameKey (litT x)) (ss ++ [x]) := by
  have hhas : Maps.has D0 (litT x) = true := has_true_of_atKey hat
  have hnew : x ∉ ss := fun g => by have := ((h.2.2 x hx).1 g).2; rw [hlk] at this; cases this
  refine ⟨List.nodup_append.2 ⟨h.1, by simp, fun a ha b hb => by simp at hb; subst hb; exact fun e => hnew (e ▸ ha)⟩, fun t ht => ?_, fun t ht => ?_⟩
  · rcases List.mem_append.1 ht with ht | ht
    · exact h.2.1 t ht
    · obtain rfl : t = x := by simpa using ht
      exact hx
  · by_cases e : t = x
    · subst e
      simp [hhas, WideAt.sameKey_self (litT_key t)]
    · have hne : litT t ≠ litT x := fun g => e (S.inj K ht hx g)
      simp [h.2.2 t ht, e, sameKey_ne hne]
theorem CollT.perm (S : TriKey P k f0 f1 f2) (K : Keyed P k) {left : Lit → Bool} {ss : List Tri3} (hD : SetOf D ts) (h : CollT D left ss) (hl : ∀ kl, left kl = false) : ss.Perm ts :=
  (List.perm_ext_iff_of_nodup h.1 hD.nodup).2 fun t => by
    constructor
    · intro g
      have hs := h.2.1 t g
      have := ((h.2.2 t hs).1 g).1
      rw [hD.mem S K hs, decide_eq_true_eq] at this
      exact this
    · intro g
      have hs := hD.small t g
      refine (h.2.2 t hs).2 ⟨?_, hl _⟩
      rw [hD.mem S K hs, decide_eq_true_eq]
      exact g
end
def withT (g : List Tri3) (t : Tri3) : Option (List Tri3) := if graphOk g = true ∧ okT t = true ∧ (putT g t).length ≤ 80 then some (putT g t) else none
def withoutT (g : List Tri3) (t : Tri3) : Option (List Tri3) := if graphOk g = true ∧ t ∈ g then some (lessT g t) else none
def unionO (a b : List Tri3) : Option (List Tri3) := if graphOk a = true ∧ graphOk b = true ∧ (unionT a b).length ≤ 80 then some (unionT a b) else none
theorem graphOk_len {g : List Tri3} (h : graphOk g = true) : g.length ≤ 80 := (graphOk_iff.1 h).1
theorem graphOk_okT {g : List Tri3} (h : graphOk g = true) : ∀ t ∈ g, okT t = true := (graphOk_iff.1 h).2.1
theorem graphOk_rising {g : List Tri3} (h : graphOk g = true) : Rising g := (graphOk_iff.1 h).2.2
theorem lessT_len (g : List Tri3) (t : Tri3) : (lessT g t).length ≤ g.length := List.length_filter_le _ _
theorem lessT_ok {g : List Tri3} {t : Tri3} (h : graphOk g = true) : graphOk (lessT g t) = true :=
  graphOk_iff.2 ⟨Nat.le_trans (lessT_len g t) (graphOk_len h), fun u hu => graphOk_okT h u (lessT_mem.1 hu).2, lessT_rising (graphOk_rising h)⟩
theorem putT_graphOk {g : List Tri3} {t : Tri3} (h : graphOk g = true) (ht : okT t = true) (hl : (putT g t).length ≤ 80) : graphOk (putT g t) = true :=
  graphOk_iff.2 ⟨hl, putT_ok (graphOk_okT h) ht, putT_rising (graphOk_rising h)⟩
theorem unionT_graphOk {a b : List Tri3} (ha : graphOk a = true) (hb : graphOk b = true) (hl : (unionT a b).length ≤ 80) : graphOk (unionT a b) = true :=
  graphOk_iff.2 ⟨hl, fun t ht => by
    rcases unionT_mem.1 ht with h | h
    · exact graphOk_okT ha t h
    · exact graphOk_okT hb t h, unionT_rising (graphOk_rising ha)⟩
theorem withT_some {g h : List Tri3} {t : Tri3} (e : withT g t = some h) : graphOk g = true ∧ okT t = true ∧ h = putT g t ∧ graphOk h = true := by
  unfold withT at e
  split at e
  · rename_i c
    obtain rfl := Option.some.inj e
    exact ⟨c.1, c.2.1, rfl, putT_graphOk c.1 c.2.1 c.2.2⟩
  · cases e
theorem withoutT_some {g h : List Tri3} {t : Tri3} (e : withoutT g t = some h) : graphOk g = true ∧ t ∈ g ∧ h = lessT g t ∧ graphOk h = true := by
  unfold withoutT at e
  split at e
  · rename_i c
    obtain rfl := Option.some.inj e
    exact ⟨c.1, c.2, rfl, lessT_ok c.1⟩
  · cases e
theorem unionO_some {a b u : List Tri3} (e : unionO a b = some u) : graphOk a = true ∧ graphOk b = true ∧ u = unionT a b ∧ graphOk u = true := by
  unfold unionO at e
  split at e
  · rename_i c
    obtain rfl := Option.some.inj e
    exact ⟨c.1, c.2.1, rfl, unionT_graphOk c.1 c.2.1 c.2.2⟩
  · cases e
theorem eq_of_graphs {a b : List Tri3} (ha : graphOk a = true) (hb : graphOk b = true) (h : ∀ t, t ∈ a ↔ t ∈ b) : a = b := eq_of_rising (graphOk_rising ha) (graphOk_rising hb) h
/-- The set of a graph and one more, in order. -/
theorem sort_with {g ts : List Tri3} {t : Tri3} (h : graphOk g = true) (hn : ts.Nodup) (hm : ∀ u, u ∈ ts ↔ u ∈ g ∨ u = t) : sortT ts = putT g t :=
  sortT_is hn (putT_rising (graphOk_rising h)) (fun u => by rw [hm, putT_mem]; exact or_comm)
theorem sort_without {g ts : List Tri3} {t : Tri3} (h : graphOk g = true) (hn : ts.Nodup) (hm : ∀ u, u ∈ ts ↔ u ≠ t ∧ u ∈ g) : sortT ts = lessT g t :=
  sortT_is hn (lessT_rising (graphOk_rising h)) (fun u => by rw [hm, lessT_mem])
theorem sort_union {a b ts : List Tri3} (h : graphOk a = true) (hn : ts.Nodup) (hm : ∀ u, u ∈ ts ↔ u ∈ a ∨ u ∈ b) : sortT ts = unionT a b :=
  sortT_is hn (unionT_rising (graphOk_rising h)) (fun u => by rw [hm, unionT_mem])
end Go.Proofs.YtiajdnhmjdfeeaaGreat
/- What a rule makes of rows: plain facts. -/
namespace Go.Proofs.YtiajdnhmjdfeeaaGreat
open Go.RowKit Go.WideShapes Go.Maps
/-- It is a triple, and the graph has it not. -/
def takes (gs : List Tri3) (t : Tri3) : Bool := okT t && !decide (t ∈ gs)
/-- What a head is by these rows, in order. -/
def headsL (gs : List Tri3) (h : Tri3) (rs : List RowV) : List Tri3 := ((rs.map fun r => seenT r h).filter (takes gs)).foldl putT []
theorem headsL_snoc (gs : List Tri3) (h : Tri3) (rs : List RowV) (r : RowV) : headsL gs h (rs ++ [r]) = if takes gs (seenT r h) = true then putT (headsL gs h rs) (seenT r h) else headsL gs h rs := by
  unfold headsL
  rw [List.map_append, List.filter_append, List.foldl_append]
  simp only [List.map_cons, List.map_nil]
  by_cases hc : takes gs (seenT r h) = true
  · simp [hc]
  · simp [hc]
theorem foldPut_mem : ∀ (us acc : List Tri3) (u : Tri3), u ∈ us.foldl putT acc ↔ u ∈ acc ∨ u ∈ us
  | [], acc, u => by simp
  | x :: r, acc, u => by rw [List.foldl_cons, foldPut_mem r, putT_mem, List.mem_cons]; simp only [or_assoc, or_comm, or_left_comm]
theorem foldPut_len : ∀ (us acc : List Tri3), (us.foldl putT acc).length ≤ acc.length + us.length
  | [], acc => by simp
  | x :: r, acc => by
    have h1 := foldPut_len r (putT acc x)
    have h2 := putT_len acc x
    simp only [List.foldl_cons, List.length_cons]
    omega
theorem foldPut_rising : ∀ (us acc : List Tri3), Rising acc → Rising (us.foldl putT acc)
  | [], _, h => h
  | x :: r, acc, h => foldPut_rising r (putT acc x) (putT_rising h)
theorem headsL_mem {gs : List Tri3} {h : Tri3} {rs : List RowV} {u : Tri3} : u ∈ headsL gs h rs ↔ takes gs u = true ∧ ∃ r ∈ rs, seenT r h = u := by
  unfold headsL
  rw [foldPut_mem, List.mem_filter, List.mem_map]
  simp only [List.not_mem_nil, false_or]
  exact And.comm
theorem headsL_len (gs : List Tri3) (h : Tri3) (rs : List RowV) : (headsL gs h rs).length ≤ rs.length := by
  have h1 := foldPut_len ((rs.map fun r => seenT r h).filter (takes gs)) []
  have h2 := List.length_filter_le (takes gs) (rs.map fun r => seenT r h)
  rw [List.length_map] at h2
  unfold headsL
  simp only [List.length_nil] at h1
  omega
theorem headsL_rising (gs : List Tri3) (h : Tri3) (rs : List RowV) : Rising (headsL gs h rs) := foldPut_rising _ _ (by unfold Rising; simp)
/-- The same, each once, as they come. -/
def freshL (gs : List Tri3) (h : Tri3) (rs : List RowV) : List Tri3 := addAll [] ((rs.map fun r => seenT r h).filter (takes gs))
theorem freshL_snoc (gs : List Tri3) (h : Tri3) (rs : List RowV) (r : RowV) : freshL gs h (rs ++ [r]) = if takes gs (seenT r h) = true then addT (freshL gs h rs) (seenT r h) else freshL gs h rs := by
  unfold freshL addAll
  rw [List.map_append, List.filter_append, List.foldl_append]
  simp only [List.map_cons, List.map_nil]
  by_cases hc : takes gs (seenT r h) = true
  · simp [hc]
  · simp [hc]
theorem addAll_once : ∀ (us ts : List Tri3), ts.Nodup → (addAll ts us).Nodup
  | [], _, h => h
  | u :: us, ts, h => by
    show (addAll (addT ts u) us).Nodup
    refine addAll_once us _ ?_
    unfold addT
    split
    · exact h
    · rename_i hn
      exact List.nodup_append.2 ⟨h, by simp, fun a ha b hb => by simp at hb; subst hb; exact fun e => hn (e ▸ ha)⟩
theorem freshL_len (gs : List Tri3) (h : Tri3) : ∀ rs : List RowV, (freshL gs h rs).length ≤ rs.length := by
  intro rs
  have h1 : ∀ (us ts : List Tri3), (addAll ts us).length ≤ ts.length + us.length := by
    intro us
    induction us with
    | nil => intro ts; exact Nat.le_refl _
    | cons u us ih =>
      intro ts
      have h2 := ih (addT ts u)
      have h3 := addT_len ts u
      simp only [List.length_cons]
      show (addAll (addT ts u) us).length ≤ _
      omega
  have h2 := h1 ((rs.map fun r => seenT r h).filter (takes gs)) []
  have h3 := List.length_filter_le (takes gs) (rs.map fun r => seenT r h)
  rw [List.length_map] at h3
  simp only [List.length_nil] at h2
  unfold freshL
  omega
theorem sort_fresh (gs : List Tri3) (h : Tri3) (rs : List RowV) : sortT (freshL gs h rs) = headsL gs h rs :=
  sortT_is (addAll_once _ _ List.nodup_nil) (headsL_rising gs h rs) fun u => by
    unfold freshL
    rw [addAll_mem, headsL_mem, List.mem_filter, List.mem_map]
    simp only [List.not_mem_nil, false_or]
    exact And.comm
theorem seen_sz (n : Nat) : ∀ (l : List Pre2) (x : ByteArray), x.size ≤ n → (∀ t ∈ l, t.2.size ≤ n) → (seen l x).size ≤ n := by
  intro l
  induction l with
  | nil => intro x h _; exact h
  | cons t r ih =>
    intro x h k
    unfold seen
    split
    · exact k t (List.mem_cons_self ..)
    · exact ih x h fun u hu => k u (List.mem_cons_of_mem _ hu)
theorem seenT_sz {r : RowV} {h : Tri3} (hr : SmP r) (hh : h.1.size ≤ 1048576 ∧ h.2.1.size ≤ 1048576 ∧ h.2.2.size ≤ 1048576) : (seenT r h).1.size ≤ 1048576 ∧ (seenT r h).2.1.size ≤ 1048576 ∧ (seenT r h).2.2.size ≤ 1048576 :=
  ⟨seen_sz _ _ _ hh.1 (fun t ht => (hr t ht).2), seen_sz _ _ _ hh.2.1 (fun t ht => (hr t ht).2), seen_sz _ _ _ hh.2.2 (fun t ht => (hr t ht).2)⟩
theorem headsL_sz {gs : List Tri3} {h : Tri3} {rs : List RowV} (hr : SmR rs) (hh : h.1.size ≤ 1048576 ∧ h.2.1.size ≤ 1048576 ∧ h.2.2.size ≤ 1048576) : ∀ t ∈ headsL gs h rs, t.1.size ≤ maxLen ∧ t.2.1.size ≤ maxLen ∧ t.2.2.size ≤ maxLen := by
  intro t ht
  obtain ⟨_, r, hm, rfl⟩ := headsL_mem.1 ht
  have := seenT_sz (hr r hm) hh
  unfold maxLen
  omega
/-- What a rule tells of a graph; none: it is not asked. -/
def firedO (gs b : List Tri3) (h : Tri3) : Option (List Tri3) := if ruleOk b h = true ∧ solOk gs b = true then some (headsL gs h (solR gs b)) else none
theorem firedO_r {gs b : List Tri3} {h : Tri3} (e : ruleOk b h = false) : firedO gs b h = none := by unfold firedO; rw [if_neg (by rw [e]; simp)]
theorem firedO_s {gs b : List Tri3} {h : Tri3} (e : solOk gs b = false) : firedO gs b h = none := by unfold firedO; rw [if_neg (by rw [e]; simp)]
theorem firedO_y {gs b : List Tri3} {h : Tri3} (e : ruleOk b h = true) (k : solOk gs b = true) : firedO gs b h = some (headsL gs h (solR gs b)) := by unfold firedO; rw [if_pos ⟨e, k⟩]
theorem ruleOk_bgp {b : List Tri3} {h : Tri3} (e : ruleOk b h = true) : bgpOk b = true := by
  unfold ruleOk at e
  simp only [Bool.and_eq_true] at e
  exact e.2.1
theorem firedO_most {gs b : List Tri3} {h : Tri3} (hga : SmT gs) (hgb : SmT b) (hh : h.1.size ≤ 1048576 ∧ h.2.1.size ≤ 1048576 ∧ h.2.2.size ≤ 1048576) : ((firedO gs b h).getD []).length ≤ 300 ∧ ∀ t ∈ (firedO gs b h).getD [], t.1.size ≤ maxLen ∧ t.2.1.size ≤ maxLen ∧ t.2.2.size ≤ maxLen := by
  unfold firedO
  split
  · simp only [Option.getD_some]
    refine ⟨?_, headsL_sz (solR_sm hga hgb) hh⟩
    have h1 := headsL_len gs h (solR gs b)
    have h2 : (solR gs b).length ≤ 300 := solR_len
    omega
  · simp
theorem OwnT.next {B : Nat} {w w' : World} {v : Value} {ts : List Tri3} (h : OwnT B w v ts) (hb : Below w.heap.size w w') : OwnT B w' v ts := own_next h (grown_of_below hb)
end Go.Proofs.YtiajdnhmjdfeeaaGreat
/- '==' and '!=' on triples. -/
namespace Go.Proofs.YtiajdnhmjdfeeaaGreat
open Go.RowKit
theorem tri_under : Tryz.prog.underlying 65 = some (.struct (Tryz.prog.fieldsOf 65)) := by kernel_rfl
theorem tri_stood : Tryz.prog.stoodInHeld 65 = false := by kernel_rfl
theorem tri_guard : Tryz.prog.eqGuardType Tryz.prog.depth 65 = false := by kernel_rfl
theorem tri_list : ((Tryz.prog.fieldsOf 65).toList.map fun f => (f.name, f.type, f.offset)) = [("S", 9, 0), ("P", 9, 1), ("O", 9, 2)] := by kernel_rfl
theorem part0 (a b c : ByteArray) (w : World) : (part 9 #[.string a, .string b, .string c] 0).run Tryz.prog w = .ok (.string a) w := by kernel_rfl
theorem part1 (a b c : ByteArray) (w : World) : (part 9 #[.string a, .string b, .string c] 1).run Tryz.prog w = .ok (.string b) w := by kernel_rfl
theorem part2 (a b c : ByteArray) (w : World) : (part 9 #[.string a, .string b, .string c] 2).run Tryz.prog w = .ok (.string c) w := by kernel_rfl
theorem str_eq (a b : ByteArray) (w : World) : (Op.equalIn 9999 9 (.string a) (.string b)).run Tryz.prog w = .ok (a.toList == b.toList) w := run_equalIn_string w 9998 9 a b Tryz.underlying9
theorem tri_eq (s p o s' p' o' : ByteArray) (w : World) : (Op.equalIn 10000 65 (.agg #[.string s, .string p, .string o]) (.agg #[.string s', .string p', .string o'])).run Tryz.prog w =
    .ok (s.toList == s'.toList && (p.toList == p'.toList && o.toList == o'.toList)) w := by
  rw [run_equalIn_agg w 9999 65 _ _ tri_under tri_stood]
  have h := tri_list
  generalize (Tryz.prog.fieldsOf 65).toList = fs at h ⊢
  rcases fs with _ | ⟨f0, _ | ⟨f1, _ | ⟨f2, _ | ⟨f3, r⟩⟩⟩⟩
  · simp at h
  · simp at h
  · simp at h
  · simp only [List.map_cons, List.map_nil, List.cons.injEq, Prod.mk.injEq, and_true] at h
    obtain ⟨⟨n0, t0, o0⟩, ⟨n1, t1, o1⟩, ⟨n2, t2, o2⟩⟩ := h
    simp only [Op.eqFields, n0, n1, n2, t0, t1, t2, o0, o1, o2]
    cases h1 : (s.toList == s'.toList) <;> cases h2 : (p.toList == p'.toList) <;> cases h3 : (o.toList == o'.toList) <;> simp [part0, part1, part2, str_eq, h1, h2, h3]
  · simp at h
theorem tri_ne (s p o s' p' o' : ByteArray) (w : World) : (binOp .neq 65 (.agg #[.string s, .string p, .string o]) (.agg #[.string s', .string p', .string o'])).run Tryz.prog w =
    .ok (.bool !(s.toList == s'.toList && (p.toList == p'.toList && o.toList == o'.toList))) w := by
  rw [run_neq_struct, tri_eq]; rfl
theorem tri_same (s p o : ByteArray) (w : World) : (binOp .neq 65 (.agg #[.string s, .string p, .string o]) (.agg #[.string s, .string p, .string o])).run Tryz.prog w = .ok (.bool false) w := by
  rw [tri_ne]; simp
open Go.RowKit Go.WideShapes
theorem tri_eql (s p o s' p' o' : ByteArray) (w : World) : (binOp .eql 65 (.agg #[.string s, .string p, .string o]) (.agg #[.string s', .string p', .string o'])).run Tryz.prog w =
    .ok (.bool (s.toList == s'.toList && (p.toList == p'.toList && o.toList == o'.toList))) w := by
  rw [run_eql_struct, tri_eq]; rfl
theorem tri_is (s p o : ByteArray) (w : World) : (binOp .eql 65 (.agg #[.string s, .string p, .string o]) (.agg #[.string s, .string p, .string o])).run Tryz.prog w = .ok (.bool true) w := by
  rw [tri_eql]; simp
theorem tri_not {t u : Tri3} (h : t ≠ u) : (t.1.toList == u.1.toList && (t.2.1.toList == u.2.1.toList && t.2.2.toList == u.2.2.toList)) = false := by
  cases e : (t.1.toList == u.1.toList && (t.2.1.toList == u.2.1.toList && t.2.2.toList == u.2.2.toList))
  · rfl
  · exfalso
    simp only [Bool.and_eq_true, beq_iff_eq, ByteArray.toList_eq] at e
    obtain ⟨t1, t2, t3⟩ := t
    obtain ⟨u1, u2, u3⟩ := u
    have e1 := data_inj e.1
    have e2 := data_inj e.2.1
    have e3 := data_inj e.2.2
    simp only at e1 e2 e3
    exact h (by rw [e1, e2, e3])
theorem tri_isnt {t u : Tri3} (h : t ≠ u) (w : World) : (binOp .eql 65 (.agg #[.string t.1, .string t.2.1, .string t.2.2]) (.agg #[.string u.1, .string u.2.1, .string u.2.2])).run Tryz.prog w = .ok (.bool false) w := by
  rw [tri_eql, tri_not h]
end Go.Proofs.YtiajdnhmjdfeeaaGreat
