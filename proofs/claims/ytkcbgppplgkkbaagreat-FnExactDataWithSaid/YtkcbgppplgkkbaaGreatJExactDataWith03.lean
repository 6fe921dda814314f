/- A map keyed by triples: what its keys read as; the map as a list of triples. -/
import Derived.Test.YtkcbgppplgkkbaaGreatJExactDataWith02
import Derived.Sort.MapsRangeIn
import Derived.DeepKeys4
import Derived.Test.YtkcbgppplgkkbaaGreatBox
import Derived.Sort.Grow
import Derived.Sort.WalkA
import Derived.Test.YtkcbgppplgkkbaaGreatOwnG
import Derived.Shelf.SlSortCmp.NoneTotal
import Derived.Sort.OwnSorted
import Derived.Test.YtkcbgppplgkkbaaGreatSortL
import Derived.Shelf.SlIter.Collect
import Derived.RangeFuncBound
namespace Go.Proofs.YtkcbgppplgkkbaaGreat
open Go.Maps
def strT (t : Tri3) : Value := .agg #[.string t.1, .string t.2.1, .string t.2.2]
def litT (t : Tri3) : Lit := .string (keyBytes [.string t.1.data.toList, .string t.2.1.data.toList, .string t.2.2.data.toList])
def SmK (t : Tri3) : Prop := t.1.size ≤ maxLen ∧ t.2.1.size ≤ maxLen ∧ t.2.2.size ≤ maxLen
instance memT (t : Tri3) (ts : List Tri3) : Decidable (t ∈ ts) := decidable_of_iff (∃ u, u ∈ ts ∧ u = t) ⟨fun ⟨_, h, e⟩ => e ▸ h, fun h => ⟨t, h, rfl⟩⟩
theorem strT_inj {t u : Tri3} (h : strT t = strT u) : t = u := by
  obtain ⟨a, b, c⟩ := t
  obtain ⟨x, y, z⟩ := u
  simp only [strT, Value.agg.injEq, Array.mk.injEq, List.cons.injEq, Value.string.injEq, and_true] at h
  obtain ⟨h1, h2, h3⟩ := h
  rw [h1, h2, h3]
theorem lessT_len_mem {t : Tri3} : ∀ {g : List Tri3}, g.Nodup → t ∈ g → (lessT g t).length + 1 = g.length := by
  intro g
  induction g with
  | nil => intro _ h; simp at h
  | cons x r ih =>
    intro hn h
    obtain ⟨h1, h2⟩ := List.nodup_cons.1 hn
    unfold lessT at ih ⊢
    by_cases e : x = t
    · subst e
      have : r.filter (fun u => decide (u ≠ x)) = r := List.filter_eq_self.2 fun u hu => decide_eq_true (fun g => h1 (g ▸ hu))
      simp only [List.filter_cons, ne_eq, not_true_eq_false, decide_false, Bool.false_eq_true, if_false, List.length_cons]
      exact congrArg (fun l => List.length l + 1) this
    · have hr : t ∈ r := by
        rcases List.mem_cons.1 h with h | h
        · exact absurd h.symm e
        · exact h
      have := ih h2 hr
      simp only [List.filter_cons, ne_eq, e, not_false_eq_true, decide_true, if_true, List.length_cons]
      simp only [ne_eq] at this
      omega
theorem lessT_none {t : Tri3} {g : List Tri3} (h : t ∉ g) : lessT g t = g := List.filter_eq_self.2 fun _ hu => decide_eq_true (fun e => h (e ▸ hu))
section
variable {P : Program}
theorem keyLits_str {e : TypeId} (he : P.underlying e = some .string) (d : Nat) {s : ByteArray} (hs : s.size ≤ maxLen) : P.keyLits (d + 1) e [.string s] = some [.string s.data.toList] := by
  simp [Program.keyLits, he, hs]
theorem keyLits_str_inv {e : TypeId} (he : P.underlying e = some .string) (d : Nat) {x : Value} {ls : List Lit} (h : P.keyLits (d + 1) e [x] = some ls) : ∃ s : ByteArray, x = .string s ∧ s.size ≤ maxLen ∧ ls = [.string s.data.toList] := by
  cases x <;> simp [Program.keyLits, he] at h
  rename_i s
  exact ⟨s, rfl, h.1, h.2.symm⟩
/-- Three fields, a text each. -/
structure TriKey (P : Program) (k : TypeId) (f0 f1 f2 : Field) : Prop where
  row : P.underlying k = some (.struct #[f0, f1, f2])
  key : P.keyType k = true
  cells : P.cellsOf k = 3
  types : ∃ n, P.types.size = n + 1
  names : (#[f0, f1, f2] : Array Field).all (·.name != "_") = true
  u0 : P.underlying f0.type = some .string
  u1 : P.underlying f1.type = some .string
  u2 : P.underlying f2.type = some .string
  o0 : f0.offset = 0
  o1 : f1.offset = 1
  o2 : f2.offset = 2
  c0 : P.cellsOf f0.type = 1
  c1 : P.cellsOf f1.type = 1
  c2 : P.cellsOf f2.type = 1
variable {k : TypeId} {f0 f1 f2 : Field}
theorem TriKey.lits (S : TriKey P k f0 f1 f2) (x y z : Value) : P.keyLits (P.types.size + 1) k [x, y, z] =
    ((P.keyLits P.types.size f0.type [x]).bind fun a => (P.keyLits P.types.size f1.type [y]).bind fun b => (P.keyLits P.types.size f2.type [z]).bind fun c => some [a, b, c]).map List.flatten := by
  have hn := S.names
  conv => lhs; unfold Program.keyLits
  rw [S.row]
  simp only
  rw [if_pos ⟨by rw [S.cells]; rfl, hn⟩]
  congr 1
  simp only [List.mapM_cons, List.mapM_nil, S.o0, S.o1, S.o2, S.c0, S.c1, S.c2, List.drop_zero, List.drop_succ_cons, List.take_succ_cons, List.take_zero, Option.bind_eq_bind, Option.pure_def, Option.bind_assoc, Option.bind_some]
theorem TriKey.of (S : TriKey P k f0 f1 f2) {t : Tri3} (h : SmK t) : keyOf P k (strT t) = some (litT t) := by
  obtain ⟨n, hn⟩ := S.types
  have L := S.lits (.string t.1) (.string t.2.1) (.string t.2.2)
  rw [hn, keyLits_str S.u0 n h.1, keyLits_str S.u1 n h.2.1, keyLits_str S.u2 n h.2.2] at L
  unfold keyOf strT
  rw [S.row]
  simp only
  rw [S.key, if_pos (by simp [Value.formed, S.row, S.cells])]
  rw [hn]
  show Option.map _ (P.keyLits (n + 1 + 1) k [Value.string t.1, .string t.2.1, .string t.2.2]) = _
  rw [L]
  rfl
theorem TriKey.inv (S : TriKey P k f0 f1 f2) {v : Value} {kl : Lit} (h : keyOf P k v = some kl) : ∃ t, v = strT t ∧ SmK t ∧ kl = litT t := by
  obtain ⟨n, hn⟩ := S.types
  have h0 := h
  unfold keyOf at h
  rw [S.row] at h
  simp only at h
  split at h
  · rename_i hf
    rw [S.key, Bool.true_and] at hf
    cases v <;> simp [Value.formed, S.row] at hf
    rename_i cs
    rw [S.cells] at hf
    obtain ⟨l⟩ := cs
    match l, hf with
    | [x, y, z], _ =>
      have L := S.lits x y z
      rw [hn] at L h
      change Option.map _ (P.keyLits (n + 1 + 1) k [x, y, z]) = _ at h
      rw [L] at h
      cases e0 : P.keyLits (n + 1) f0.type [x] with
      | none => rw [e0] at h; simp at h
      | some a =>
        cases e1 : P.keyLits (n + 1) f1.type [y] with
        | none => rw [e0, e1] at h; simp at h
        | some b =>
          cases e2 : P.keyLits (n + 1) f2.type [z] with
          | none => rw [e0, e1, e2] at h; simp at h
          | some c =>
            obtain ⟨s, rfl, hs, _⟩ := keyLits_str_inv S.u0 n e0
            obtain ⟨p, rfl, hp, _⟩ := keyLits_str_inv S.u1 n e1
            obtain ⟨o, rfl, ho, _⟩ := keyLits_str_inv S.u2 n e2
            have hk := S.of (t := (s, p, o)) ⟨hs, hp, ho⟩
            refine ⟨(s, p, o), rfl, ⟨hs, hp, ho⟩, ?_⟩
            rw [show strT (s, p, o) = Value.agg { toList := [.string s, .string p, .string o] } from rfl, h0] at hk
            exact Option.some.inj hk
  · cases h
theorem TriKey.inj (S : TriKey P k f0 f1 f2) (K : Keyed P k) {t u : Tri3} (ht : SmK t) (hu : SmK u) (h : litT t = litT u) : t = u :=
  strT_inj (K.inj (S.of ht) (by rw [h]; exact S.of hu))
end
theorem litT_key (t : Tri3) : WideAt.IsKeyLit (litT t) := trivial
/-- A map's datum is just this list of triples, each true. -/
structure SetOf {H : Type} (D : DataW H) (ts : List Tri3) : Prop where
  nodup : ts.Nodup
  small : ∀ t ∈ ts, SmK t
  has : ∀ kl, Maps.has D kl = true ↔ ∃ t ∈ ts, kl = litT t
  size : Maps.size D = ts.length
  val : ∀ t ∈ ts, ∀ z, D.atKey (litT t) z = .lit (.bool true)
/-- One more, where it is not there. -/
def addT (ts : List Tri3) (t : Tri3) : List Tri3 := if t ∈ ts then ts else ts ++ [t]
theorem addT_mem {ts : List Tri3} {t u : Tri3} : u ∈ addT ts t ↔ u ∈ ts ∨ u = t := by
  unfold addT
  split
  · exact ⟨.inl, fun h => by rcases h with h | rfl <;> assumption⟩
  · simp
theorem addT_len (ts : List Tri3) (t : Tri3) : (addT ts t).length ≤ ts.length + 1 := by unfold addT; split <;> simp
/-- All of them, one by one. -/
def addAll (ts us : List Tri3) : List Tri3 := us.foldl addT ts
theorem addAll_snoc (ts us : List Tri3) (t : Tri3) : addAll ts (us ++ [t]) = addT (addAll ts us) t := by unfold addAll; rw [List.foldl_append]; rfl
theorem addAll_mem {u : Tri3} : ∀ {us ts : List Tri3}, u ∈ addAll ts us ↔ u ∈ ts ∨ u ∈ us
  | [], ts => by simp [addAll]
  | t :: r, ts => by
    show u ∈ addAll (addT ts t) r ↔ _
    rw [addAll_mem, addT_mem, List.mem_cons]
    constructor
    · rintro ((h | h) | h)
      · exact .inl h
      · exact .inr (.inl h)
      · exact .inr (.inr h)
    · rintro (h | h | h)
      · exact .inl (.inl h)
      · exact .inl (.inr h)
      · exact .inr h
section
variable {H : Type} {P : Program} {k : TypeId} {f0 f1 f2 : Field} {D : DataW H} {ts : List Tri3}
theorem SetOf.empty : SetOf (.map [] : DataW H) [] := ⟨List.nodup_nil, by simp, fun kl => by simp [has_eq], rfl, by simp⟩
theorem SetOf.mem (S : TriKey P k f0 f1 f2) (K : Keyed P k) (h : SetOf D ts) {t : Tri3} (ht : SmK t) : Maps.has D (litT t) = decide (t ∈ ts) := by
  rw [Bool.eq_iff_iff, h.has, decide_eq_true_eq]
  exact ⟨fun ⟨u, hu, e⟩ => by rw [S.inj K ht (h.small u hu) e]; exact hu, fun g => ⟨t, g, rfl⟩⟩
theorem SetOf.put (S : TriKey P k f0 f1 f2) (K : Keyed P k) (h : SetOf D ts) (hT : Tidy D) {t : Tri3} (ht : SmK t) : SetOf (D.put (litT t) (.lit (.bool true))) (addT ts t) := by
  have hm := h.mem S K ht
  have hhas : ∀ kl, Maps.has (D.put (litT t) (.lit (.bool true))) kl = true ↔ ∃ u ∈ addT ts t, kl = litT u := by
    intro kl
    by_cases e : kl = litT t
    · subst e
      exact ⟨fun _ => ⟨t, addT_mem.2 (.inr rfl), rfl⟩, fun _ => has_put_same hT.isMap (litT_key t) _⟩
    · rw [has_put_other e, h.has]
      exact ⟨fun ⟨u, hu, hk⟩ => ⟨u, addT_mem.2 (.inl hu), hk⟩, fun ⟨u, hu, hk⟩ => by
        rcases addT_mem.1 hu with hu | rfl
        · exact ⟨u, hu, hk⟩
        · exact absurd hk e⟩
  have hval : ∀ u ∈ addT ts t, ∀ z, (D.put (litT t) (.lit (.bool true))).atKey (litT u) z = .lit (.bool true) := by
    intro u hu z
    by_cases e : litT u = litT t
    · rw [e]; exact atKey_put_same hT.isMap (litT_key t) _ _
    · rw [atKey_put_other e]
      rcases addT_mem.1 hu with hu | rfl
      · exact h.val u hu z
      · exact absurd rfl e
  have hsm : ∀ u ∈ addT ts t, SmK u := by
    intro u hu
    rcases addT_mem.1 hu with hu | rfl
    · exact h.small u hu
    · exact ht
  refine ⟨?_, hsm, hhas, ?_, hval⟩
  · unfold addT
    split
    · exact h.nodup
    · rename_i hn
      exact List.nodup_append.2 ⟨h.nodup, by simp, fun a ha b hb => by simp at hb; subst hb; exact fun e => hn (e ▸ ha)⟩
  · rw [size_put hT, hm]
    unfold addT
    by_cases g : t ∈ ts
    · simp [g, h.size]
    · simp [g, h.size]
theorem SetOf.del (S : TriKey P k f0 f1 f2) (K : Keyed P k) (h : SetOf D ts) (hT : Tidy D) {t : Tri3} (ht : SmK t) : SetOf (D.del (litT t)) (lessT ts t) := by
  have hm := h.mem S K ht
  refine ⟨h.nodup.filter _, fun u hu => h.small u (lessT_mem.1 hu).2, fun kl => ?_, ?_, fun u hu z => ?_⟩
  · by_cases e : kl = litT t
    · subst e
      rw [has_del_same]
      exact ⟨(fun h => by cases h), fun ⟨u, hu, hk⟩ => absurd (S.inj K ht (h.small u (lessT_mem.1 hu).2) hk).symm (lessT_mem.1 hu).1⟩
    · rw [has_del_other e, h.has]
      exact ⟨fun ⟨u, hu, hk⟩ => ⟨u, lessT_mem.2 ⟨fun g => e (by rw [hk, g]), hu⟩, hk⟩, fun ⟨u, hu, hk⟩ => ⟨u, (lessT_mem.1 hu).2, hk⟩⟩
  · have := size_del (k := litT t) hT
    rw [hm, h.size] at this
    by_cases g : t ∈ ts
    · have := lessT_len_mem h.nodup g
      simp only [g, decide_true, if_true] at *; omega
    · rw [lessT_none g]
      simp only [g, decide_false, Bool.false_eq_true, if_false] at *; omega
  · have hne : litT u ≠ litT t := fun e => (lessT_mem.1 hu).1 (S.inj K (h.small u (lessT_mem.1 hu).2) ht e)
    rw [atKey_del_other hne]
    exact h.val u (lessT_mem.1 hu).2 z
/-- What a range over the map has met so far. -/
def CollT (D0 : DataW H) (left : Lit → Bool) (ss : List Tri3) : Prop := ss.Nodup ∧ (∀ t ∈ ss, SmK t) ∧ ∀ t, SmK t → (t ∈ ss ↔ (Maps.has D0 (litT t) = true ∧ left (litT t) = false))
theorem CollT.start (D0 : DataW H) : CollT D0 (Maps.has D0) [] := ⟨List.nodup_nil, by simp, fun t _ => by cases Maps.has D0 (litT t) <;> simp⟩
theorem CollT.step (S : TriKey P k f0 f1 f2) (K : Keyed P k) {left : Lit → Bool} {ss : List Tri3} {D0 : DataW H} (h : CollT D0 left ss) {x : Tri3} {y : DataW H} (hx : SmK x) (hlk : left (litT x) = true) (hat : ∀ zd, D0.atKey (litT x) zd = y) :
    CollT D0 (fun z => left z && !z.sameKey (litT x)) (ss ++ [x]) := by
  have hhas : Maps.has D0 (litT x) = true := has_true_of_atKey hat
  have hnew : x ∉ ss := fun g => by have := ((h.2.2 x hx).1 g).2; rw [hlk] at this; cases this
  refine ⟨List.nodup_append.2 ⟨h.1, by simp, fun a ha b hb => by simp at hb; subst hb; exact fun e => hnew (e ▸ ha)⟩, fun t ht => ?_, fun t ht => ?_⟩
  · rcases List.mem_append.1 ht with ht | ht
    · exact h.2.1 t ht
    · obtain rfl : t = x := by simpa using ht
      exact hx
  · by_cases e : t = x
    · subst e
      simp [hhas, WideAt.sameKey_self (litT_key t)]
    · have hne : litT t ≠ litT x := fun g => e (S.inj K ht hx g)
      simp [h.2.2 t ht, e, sameKey_ne hne]
theorem CollT.perm (S : TriKey P k f0 f1 f2) (K : Keyed P k) {left : Lit → Bool} {ss : List Tri3} (hD : SetOf D ts) (h : CollT D left ss) (hl : ∀ kl, left kl = false) : ss.Perm ts :=
  (List.perm_ext_iff_of_nodup h.1 hD.nodup).2 fun t => by
    constructor
    · intro g
      have hs := h.2.1 t g
      have := ((h.2.2 t hs).1 g).1
      rw [hD.mem S K hs, decide_eq_true_eq] at this
      exact this
    · intro g
      have hs := hD.small t g
      refine (h.2.2 t hs).2 ⟨?_, hl _⟩
      rw [hD.mem S K hs, decide_eq_true_eq]
      exact g
end
def withT (g : List Tri3) (t : Tri3) : Option (List Tri3) := if graphOk g = true ∧ okT t = true ∧ (putT g t).length ≤ 80 then some (putT g t) else none
def withoutT (g : List Tri3) (t : Tri3) : Option (List Tri3) := if graphOk g = true ∧ t ∈ g then some (lessT g t) else none
def unionO (a b : List Tri3) : Option (List Tri3) := if graphOk a = true ∧ graphOk b = true ∧ (unionT a b).length ≤ 80 then some (unionT a b) else none
theorem graphOk_len {g : List Tri3} (h : graphOk g = true) : g.length ≤ 80 := (graphOk_iff.1 h).1
theorem graphOk_okT {g : List Tri3} (h : graphOk g = true) : ∀ t ∈ g, okT t = true := (graphOk_iff.1 h).2.1
theorem graphOk_rising {g : List Tri3} (h : graphOk g = true) : Rising g := (graphOk_iff.1 h).2.2
theorem lessT_len (g : List Tri3) (t : Tri3) : (lessT g t).length ≤ g.length := List.length_filter_le _ _
theorem lessT_ok {g : List Tri3} {t : Tri3} (h : graphOk g = true) : graphOk (lessT g t) = true :=
  graphOk_iff.2 ⟨Nat.le_trans (lessT_len g t) (graphOk_len h), fun u hu => graphOk_okT h u (lessT_mem.1 hu).2, lessT_rising (graphOk_rising h)⟩
theorem putT_graphOk {g : List Tri3} {t : Tri3} (h : graphOk g = true) (ht : okT t = true) (hl : (putT g t).length ≤ 80) : graphOk (putT g t) = true :=
  graphOk_iff.2 ⟨hl, putT_ok (graphOk_okT h) ht, putT_rising (graphOk_rising h)⟩
theorem unionT_graphOk {a b : List Tri3} (ha : graphOk a = true) (hb : graphOk b = true) (hl : (unionT a b).length ≤ 80) : graphOk (unionT a b) = true :=
  graphOk_iff.2 ⟨hl, fun t ht => by
    rcases unionT_mem.1 ht with h | h
    · exact graphOk_okT ha t h
    · exact graphOk_okT hb t h, unionT_rising (graphOk_rising ha)⟩
theorem withT_some {g h : List Tri3} {t : Tri3} (e : withT g t = some h) : graphOk g = true ∧ okT t = true ∧ h = putT g t ∧ graphOk h = true := by
  unfold withT at e
  split at e
  · rename_i c
    obtain rfl := Option.some.inj e
    exact ⟨c.1, c.2.1, rfl, putT_graphOk c.1 c.2.1 c.2.2⟩
  · cases e
theorem withoutT_some {g h : List Tri3} {t : Tri3} (e : withoutT g t = some h) : graphOk g = true ∧ t ∈ g ∧ h = lessT g t ∧ graphOk h = true := by
  unfold withoutT at e
  split at e
  · rename_i c
    obtain rfl := Option.some.inj e
    exact ⟨c.1, c.2, rfl, lessT_ok c.1⟩
  · cases e
theorem unionO_some {a b u : List Tri3} (e : unionO a b = some u) : graphOk a = true ∧ graphOk b = true ∧ u = unionT a b ∧ graphOk u = true := by
  unfold unionO at e
  split at e
  · rename_i c
    obtain rfl := Option.some.inj e
    exact ⟨c.1, c.2.1, rfl, unionT_graphOk c.1 c.2.1 c.2.2⟩
  · cases e
theorem eq_of_graphs {a b : List Tri3} (ha : graphOk a = true) (hb : graphOk b = true) (h : ∀ t, t ∈ a ↔ t ∈ b) : a = b := eq_of_rising (graphOk_rising ha) (graphOk_rising hb) h
/-- The set of a graph and one more, in order. -/
theorem sort_with {g ts : List Tri3} {t : Tri3} (h : graphOk g = true) (hn : ts.Nodup) (hm : ∀ u, u ∈ ts ↔ u ∈ g ∨ u = t) : sortT ts = putT g t :=
  sortT_is hn (putT_rising (graphOk_rising h)) (fun u => by rw [hm, putT_mem]; exact or_comm)
theorem sort_without {g ts : List Tri3} {t : Tri3} (h : graphOk g = true) (hn : ts.Nodup) (hm : ∀ u, u ∈ ts ↔ u ≠ t ∧ u ∈ g) : sortT ts = lessT g t :=
  sortT_is hn (lessT_rising (graphOk_rising h)) (fun u => by rw [hm, lessT_mem])
theorem sort_union {a b ts : List Tri3} (h : graphOk a = true) (hn : ts.Nodup) (hm : ∀ u, u ∈ ts ↔ u ∈ a ∨ u ∈ b) : sortT ts = unionT a b :=
  sortT_is hn (unionT_rising (graphOk_rising h)) (fun u => by rw [hm, unionT_mem])
end Go.Proofs.YtkcbgppplgkkbaaGreat
/- The program's comparison of triples: the world behind it, written out. -/
namespace Go.Proofs.YtkcbgppplgkkbaaGreat
open Go.RowKit Go.Sort Go.Shelf
/-- Draws and new blocks alone, written out. -/
def GrowsD (w w' : World) : Prop := ∃ q os, w' = grow (w.drewN q) os
theorem GrowsD.refl (w : World) : GrowsD w w := ⟨0, #[], by rw [grow_empty]; rfl⟩
theorem GrowsD.trans {a b c : World} (h : GrowsD a b) (g : GrowsD b c) : GrowsD a c := by
  obtain ⟨q, os, rfl⟩ := h
  obtain ⟨r, os', rfl⟩ := g
  exact ⟨q + r, os ++ os', by rw [← grow_grow]; simp only [World.drewN, grow]; simp [Nat.add_assoc]⟩
theorem GrowsD.drew {a b : World} (h : GrowsD a b) : GrowsD a b.drew := h.trans ⟨1, #[], by rw [grow_empty]; rfl⟩
theorem GrowsD.drewN {a b : World} (h : GrowsD a b) (n : Nat) : GrowsD a (b.drewN n) := h.trans ⟨n, #[], by rw [grow_empty]⟩
theorem GrowsD.alloc {a b : World} (h : GrowsD a b) (o : Obj) : GrowsD a (b.alloc o) := h.trans ⟨0, #[o], by rw [alloc_eq_grow]; rfl⟩
theorem GrowsD.below {w w' : World} (h : GrowsD w w') : Below w.heap.size w w' := by
  obtain ⟨q, os, rfl⟩ := h
  refine ⟨rfl, rfl, rfl, by simp, fun k hk => ?_⟩
  simp [grow, World.drewN, Array.getElem?_append_left hk]
def cmpT (x y : Tri3) : Int := if aheadT x y = true then -1 else if aheadT y x = true then 1 else 0
set_option maxRecDepth 100000 in
theorem implAheadG (x y : Tri3) (w : World) :
    Calls Tryz.prog 57 #[.agg #[.string x.1, .string x.2.1, .string x.2.2], .agg #[.string y.1, .string y.2.1, .string y.2.2]] w fun e w' => e = .returned (.bool (aheadT x y)) ∧ GrowsD w w' := by
  obtain ⟨s, p, o⟩ := x
  obtain ⟨s', p', o'⟩ := y
  by_cases h1 : s = s'
  · by_cases h2 : p = p'
    · have e1 : (s.toList == s'.toList) = true := by rw [h1]; simp
      have e2 : (p.toList == p'.toList) = true := by rw [h2]; simp
      have HR : Hid (aheadT (s, p, o) (s', p', o') = Op.bytesLess o.toList o'.toList) := Lib.hid (by
        unfold aheadT aheadL; rw [if_pos (by rw [h1]), if_pos (by rw [h2]), ByteArray.toList_eq, ByteArray.toList_eq])
      clear h1 h2
      go_enter Tryz.func57, Tryz.ntmps57
      go_wp2_with fail
      go_ret
      exact ⟨by rw [HR.out]; rfl, ((GrowsD.refl _).alloc _).alloc _⟩
    · have e1 : (s.toList == s'.toList) = true := by rw [h1]; simp
      have e2 : (p.toList == p'.toList) = false := by rw [beq_eq_false_iff_ne, ByteArray.toList_eq, ByteArray.toList_eq]; exact fun h => h2 (data_inj h)
      have HR : Hid (aheadT (s, p, o) (s', p', o') = Op.bytesLess p.toList p'.toList) := Lib.hid (by
        unfold aheadT aheadL; rw [if_pos (by rw [h1]), if_neg (fun h => h2 (data_inj h)), ByteArray.toList_eq, ByteArray.toList_eq])
      clear h1 h2
      go_enter Tryz.func57, Tryz.ntmps57
      go_wp2_with fail
      go_ret
      exact ⟨by rw [HR.out]; rfl, ((GrowsD.refl _).alloc _).alloc _⟩
  · have e1 : (s.toList == s'.toList) = false := by rw [beq_eq_false_iff_ne, ByteArray.toList_eq, ByteArray.toList_eq]; exact fun h => h1 (data_inj h)
    have HR : Hid (aheadT (s, p, o) (s', p', o') = Op.bytesLess s.toList s'.toList) := Lib.hid (by
      unfold aheadT aheadL; rw [if_neg (fun h => h1 (data_inj h)), ByteArray.toList_eq, ByteArray.toList_eq])
    clear h1
    go_enter Tryz.func57, Tryz.ntmps57
    go_wp2_with fail
    go_ret
    exact ⟨by rw [HR.out]; rfl, ((GrowsD.refl _).alloc _).alloc _⟩
set_option maxRecDepth 100000 in
theorem implCompare (x y : Tri3) (w : World) :
    Calls Tryz.prog 67 #[.agg #[.string x.1, .string x.2.1, .string x.2.2], .agg #[.string y.1, .string y.2.1, .string y.2.2]] w fun e w' => e = .returned (.int .i64 (cmpT x y)) ∧ GrowsD w w' := by
  have A1 := implAheadG x y
  have A2 := implAheadG y x
  cases h1 : aheadT x y
  · cases h2 : aheadT y x
    · have HR : Hid (cmpT x y = 0) := Lib.hid (by unfold cmpT; rw [h1, h2]; rfl)
      rw [h1] at A1
      rw [h2] at A2
      have C1 := Lib.hid A1
      have C2 := Lib.hid A2
      clear A1 A2 h1 h2
      go_enter Tryz.func67, Tryz.ntmps67
      go_wp2_with fail
      refine (C1.out _).mono ?_
      rintro e w1 ⟨rfl, g1⟩
      have X1 := ((Box.new w (.string x.1) (.string x.2.1) (.string x.2.2) 31).alloc (.cells #[.string y.1, .string y.2.1, .string y.2.2] 31)).next g1.below
      have Y1 := (Box.new (w.alloc (.cells #[.string x.1, .string x.2.1, .string x.2.2] 31)) (.string y.1) (.string y.2.1) (.string y.2.2) 31).next g1.below
      rw [World.size_alloc] at Y1
      obtain ⟨a0, a1, a2⟩ := X1.cells
      obtain ⟨b0, b1, b2⟩ := Y1.cells
      have G1 := ((GrowsD.refl w).alloc (.cells #[.string x.1, .string x.2.1, .string x.2.2] 31)).alloc (.cells #[.string y.1, .string y.2.1, .string y.2.2] 31) |>.trans g1
      clear X1 Y1 g1
      go_wp2_with fail
      refine (C2.out _).mono ?_
      rintro e w2 ⟨rfl, g2⟩
      go_wp2_with fail
      go_ret
      exact ⟨by rw [HR.out]; rfl, G1.trans g2⟩
    · have HR : Hid (cmpT x y = 1) := Lib.hid (by unfold cmpT; rw [h1, h2]; rfl)
      rw [h1] at A1
      rw [h2] at A2
      have C1 := Lib.hid A1
      have C2 := Lib.hid A2
      clear A1 A2 h1 h2
      go_enter Tryz.func67, Tryz.ntmps67
      go_wp2_with fail
      refine (C1.out _).mono ?_
      rintro e w1 ⟨rfl, g1⟩
      have X1 := ((Box.new w (.string x.1) (.string x.2.1) (.string x.2.2) 31).alloc (.cells #[.string y.1, .string y.2.1, .string y.2.2] 31)).next g1.below
      have Y1 := (Box.new (w.alloc (.cells #[.string x.1, .string x.2.1, .string x.2.2] 31)) (.string y.1) (.string y.2.1) (.string y.2.2) 31).next g1.below
      rw [World.size_alloc] at Y1
      obtain ⟨a0, a1, a2⟩ := X1.cells
      obtain ⟨b0, b1, b2⟩ := Y1.cells
      have G1 := ((GrowsD.refl w).alloc (.cells #[.string x.1, .string x.2.1, .string x.2.2] 31)).alloc (.cells #[.string y.1, .string y.2.1, .string y.2.2] 31) |>.trans g1
      clear X1 Y1 g1
      go_wp2_with fail
      refine (C2.out _).mono ?_
      rintro e w2 ⟨rfl, g2⟩
      go_wp2_with fail
      go_ret
      exact ⟨by rw [HR.out]; rfl, G1.trans g2⟩
  · have HR : Hid (cmpT x y = -1) := Lib.hid (by unfold cmpT; rw [h1]; rfl)
    rw [h1] at A1
    have C1 := Lib.hid A1
    clear A1 A2 h1
    go_enter Tryz.func67, Tryz.ntmps67
    go_wp2_with fail
    refine (C1.out _).mono ?_
    rintro e w1 ⟨rfl, g1⟩
    go_wp2_with fail
    go_ret
    exact ⟨by rw [HR.out]; rfl, (((GrowsD.refl w).alloc _).alloc _).trans g1⟩
end Go.Proofs.YtkcbgppplgkkbaaGreat
/- A row of triples that the library sorts: its cells, and what the sort leaves of them. -/
namespace Go.Proofs.YtkcbgppplgkkbaaGreat
open Go.RowKit Go.Sort Go.Shelf
theorem ltT (x y : Tri3) : ltOf cmpT x y = aheadT x y := by
  unfold ltOf cmpT
  cases h : aheadT x y
  · cases g : aheadT y x <;> simp
  · simp
theorem swoT : SWO (ltOf cmpT) where
  irrefl x := by rw [ltT]; simp [aheadT_irrefl]
  trans x y z h1 h2 := by
    rw [ltT] at *
    exact aheadT_trans h1 h2
  ntrans x y z h1 h2 := by
    rw [ltT] at *
    cases g : aheadT x z
    · simp
    · exfalso
      cases g1 : aheadT z y
      · rw [aheadT_one h2 g1] at h1; rw [h1] at g; cases g
      · rw [aheadT_trans g g1] at h1; cases h1
def encL (t : Tri3) : List Value := [.string t.1, .string t.2.1, .string t.2.2]
theorem encL_len (t : Tri3) : (encL t).length = 3 := rfl
theorem encL_one (t : Tri3) : ∀ v ∈ encL t, v.oneCell' = true := by
  intro v hv
  simp only [encL, List.mem_cons, List.not_mem_nil, or_false] at hv
  rcases hv with rfl | rfl | rfl <;> rfl
theorem flatK_flat (ts : List Tri3) : (flatK encL 3 ts.toArray).toList = flat ts := by
  apply List.ext_getElem?
  intro t
  obtain ⟨q, r, hr, rfl⟩ : ∃ q r, r < 3 ∧ t = q * 3 + r := ⟨t / 3, t % 3, by omega, by omega⟩
  rcases Nat.lt_or_ge q ts.length with hq | hq
  · have hf := flat_at ts q ts[q] (List.getElem?_eq_getElem hq)
    have h1 : (q * 3 + r) / 3 = q := by omega
    have h2 : (q * 3 + r) % 3 = r := by omega
    have h3 : q * 3 + r < ts.length * 3 := by omega
    have e1 : (flatK encL 3 ts.toArray).toList[q * 3 + r]? = some (encL ts[q])[r]! := by
      rw [Array.getElem?_toList]
      simp [flatK, h1, h2, h3, hq]
    rw [e1]
    have hm : r = 0 ∨ r = 1 ∨ r = 2 := by omega
    rcases hm with rfl | rfl | rfl
    · rw [Nat.add_zero, hf.1]; rfl
    · rw [hf.2.1]; rfl
    · rw [hf.2.2]; rfl
  · rw [List.getElem?_eq_none (by simp [flatK]; omega), List.getElem?_eq_none (by rw [flat_len]; omega)]
theorem holdsK_of_block {w : World} {g : Nat} {cur : Array Value} {e : TypeId} {ts : List Tri3} (hb : w.heap[g]? = some (.cells cur e (0, 0))) (ht : cur.toList.take (ts.length * 3) = flat ts) : HoldsK encL 3 w g 0 ts.toArray := by
  intro j hj
  have hj' : j < ts.length * 3 := by simpa using hj
  refine ⟨?_, by simp [World.frozen?, hb]⟩
  have h1 : (cur.toList.take (ts.length * 3))[j]? = (flat ts)[j]? := by rw [ht]
  rw [List.getElem?_take_of_lt hj', ← flatK_flat, Array.getElem?_toList, Array.getElem?_toList] at h1
  simp only [World.cell?, hb, Nat.zero_add]
  simp only [Option.isSome_none, Bool.false_eq_true, if_false]
  rw [h1, Array.getElem?_eq_getElem hj, getElem!_pos _ j hj]; rfl
theorem heap_sortedK {w : World} {g n : Nat} {os : Array Obj} {cur : Array Value} {e : TypeId} {fr : Nat × Nat} (F : Array Value) (hb : w.heap[g]? = some (.cells cur e fr)) :
    (grow (putRow id (Sort.ahead w n) g 0 F) os).heap[g]? = some (.cells (putCells id 0 F cur) e fr) := by
  have hg : g < w.heap.size := (Array.getElem?_eq_some_iff.1 hb).1
  rw [heap_grow_old _ _ (by simpa using hg)]
  simp [putRow, mapBlock, Sort.ahead, Array.getElem?_modify, hb, onCells]
theorem grownBy_sortedK {w : World} {g n : Nat} {os : Array Obj} (F : Array Value) : w.grownBy (grow (putRow id (Sort.ahead w n) g 0 F) os) (some g) := by
  refine ⟨rfl, rfl, rfl, by simp, fun k hk hne => ?_⟩
  rw [heap_grow_old _ _ (by simpa using hk)]
  have : g ≠ k := fun e => hne (by rw [e])
  simp [putRow, mapBlock, Sort.ahead, Array.getElem?_modify, this]
theorem take_putCellsK (cur F : Array Value) (h : F.size ≤ cur.size) : (putCells id 0 F cur).toList.take F.size = F.toList := by
  apply List.ext_getElem?
  intro j
  by_cases hj : j < F.size
  · rw [List.getElem?_take_of_lt hj, Array.getElem?_toList, Array.getElem?_toList]
    simp [putCells, hj, show j < cur.size by omega]
  · rw [List.getElem?_take_eq_none (by omega), List.getElem?_eq_none (by simp; omega)]
theorem own_sortedK {w : World} {B g cap n : Nat} {os : Array Obj} {cur : Array Value} {ss ts : List Tri3} (hl : ts.length = ss.length) (hbase : B ≤ g) (hb : w.heap[g]? = some (.cells cur 31 (0, 0)))
    (h1 : ss.length ≤ cap) (h2 : cap ≤ maxLen) (h3 : cur.size = cap * 3) :
    OwnT B (sortWorldK encL 3 w g 0 n ts.toArray os) (.slice (some ⟨g, 0, none⟩) ss.length cap) ts := by
  unfold OwnT sortWorldK putRowK
  rw [hl]
  refine ⟨by rw [flat_len, hl], .inr ⟨g, cap, _, rfl, hbase, heap_sortedK _ hb, h1, h2, by simp [putCells, h3], ?_⟩⟩
  have e : (flatK encL 3 ts.toArray).size = ss.length * 3 := by simp [hl]
  rw [← e, take_putCellsK _ _ (by rw [e, h3]; omega), flatK_flat]
open Go.RowKit Go.Sort Go.Shelf
theorem aggTri (w : World) : (isAgg 31).run Tryz.prog w = .ok true w := by simp [isAgg, run_underlying Tryz.underlying31]
theorem sizeTri (w : World) : (Go.sizeOf 31).run Tryz.prog w = .ok 3 w := by
  obtain ⟨i0, hi, hz0, hz1, hz2⟩ := info_parts infoTri
  rw [run_sizeOf w hi]
  exact congrArg (fun n => Result.ok n w) (by kernel_rfl)
theorem mergeT (ts : List Tri3) : (ts.mergeSort fun x y => !(ltOf cmpT) y x) = sortT ts := by
  unfold sortT
  congr 1
  funext x y
  rw [ltT]
set_option maxRecDepth 100000 in
/-- The sort of a slice of triples that the call owns. -/
theorem sortTris (B : Nat) (v : Value) (ts : List Tri3) (w : World) (h : OwnT B w v ts) (hl : ts.length < 4611686018427387904) :
    Calls Tryz.prog 74 #[v, .func (.func 67) #[] #[]] w fun e w' => e = .returned (.tuple #[]) ∧ OwnT B w' v (sortT ts) ∧ w.grownBy w' v.ownBlock := by
  have h' := h
  rcases h'.2 with ⟨rfl, h0⟩ | ⟨g, cap, cur, rfl, hB, hb, h1, h2, h3, h4⟩
  · obtain rfl : ts = [] := List.length_eq_zero_iff.1 h0
    refine (AnyF.slices_SortFunc_none Tryz.sortTri none 0 _ w).mono ?_
    rintro e w' ⟨rfl, rfl⟩
    exact ⟨rfl, by rw [show sortT [] = [] from by unfold sortT; simp]; exact h, World.grownBy.refl _ _⟩
  · have eg : ∀ args w, (callFunc 67 args).run Tryz.prog w = .ok (.enter 67 args) w := enters_of Tryz.func67 (by kernel_rfl) rfl
    have hcmp : CmpLays Tryz.prog 67 #[] encL 3 cmpT g 0 ts.toArray.size w := fun _ _ _ _ x y => implCompare x y _
    have hS := AnyQ.slices_SortFunc_total Tryz.sortTri 3 aggTri sizeTri encL encL_len encL_one cmpT swoT _ #[] g 0 cap ts.toArray w eg hcmp (holdsK_of_block hb h4) (Array.getElem?_eq_some_iff.1 hb).1 (by simpa using hl) (fun x y a b => by rw [ltT] at a b; exact aheadT_one a b)
    change Calls Tryz.prog 74 _ _ _ at hS
    rw [Array.size_eq_length_toList, List.toList_toArray] at hS
    refine hS.mono ?_
    rintro e w' ⟨rfl, n, os, rfl⟩
    rw [mergeT]
    exact ⟨rfl, own_sortedK (sortT_len ts) hB hb h1 h2 h3, grownBy_sortedK _⟩
end Go.Proofs.YtkcbgppplgkkbaaGreat
/- A map of triples that the call holds: what it does at the operations. -/
namespace Go.Proofs.YtkcbgppplgkkbaaGreat
open Go.RowKit Go.Maps
theorem lawTri : Keyed Tryz.prog 31 :=
  Keyed.of_law (deep_law_laid Frame.laidOut (m := 2) (by omega) (of_decide_eq_true (by kernel_rfl)) (by kernel_rfl) (by rw [Tryz.underlying31]))
theorem keyTri : ∃ f0 f1 f2, TriKey Tryz.prog 31 f0 f1 f2 := by
  refine ⟨_, _, _, ⟨Tryz.underlying31, by kernel_rfl, by kernel_rfl, ⟨Tryz.prog.types.size - 1, by kernel_rfl⟩, by kernel_rfl, ?_, ?_, ?_, rfl, rfl, rfl, by kernel_rfl, by kernel_rfl, by kernel_rfl⟩⟩ <;> kernel_rfl
/-- Block b is a map of at most n entries that has just these triples, each true. -/
def OwnSet (w : World) (b n : Nat) (ts : List Tri3) : Prop := ∃ D : DataW Unit, w.ownsMap Tryz.prog 31 (plainElem (H := Unit) Tryz.prog 4) b n D ∧ SetOf D ts
theorem OwnSet.lt {w : World} {b n : Nat} {ts : List Tri3} (h : OwnSet w b n ts) : b < w.heap.size := by obtain ⟨D, h, _⟩ := h; exact h.lt
theorem OwnSet.kept {w w' : World} {b n : Nat} {ts : List Tri3} {row : Option Nat} (h : OwnSet w b n ts) (hg : w.grownBy w' row) (hne : some b ≠ row) : OwnSet w' b n ts := by
  obtain ⟨D, h, hD⟩ := h
  exact ⟨D, h.kept hg hne, hD⟩
theorem OwnSet.next {w w' : World} {b n : Nat} {ts : List Tri3} (h : OwnSet w b n ts) (hb : Below w.heap.size w w') : OwnSet w' b n ts := h.kept (grown_of_below hb) (by simp)
theorem OwnSet.alloc {w : World} {b n : Nat} {ts : List Tri3} (h : OwnSet w b n ts) (o : Obj) : OwnSet (w.alloc o) b n ts := h.kept (World.grownBy_alloc w o none) (by simp)
theorem OwnSet.drew {w : World} {b n : Nat} {ts : List Tri3} (h : OwnSet w b n ts) : OwnSet w.drew b n ts := h
theorem OwnSet.nodup {w : World} {b n : Nat} {ts : List Tri3} (h : OwnSet w b n ts) : ts.Nodup := by obtain ⟨D, _, h⟩ := h; exact h.nodup
theorem OwnSet.small {w : World} {b n : Nat} {ts : List Tri3} (h : OwnSet w b n ts) : ∀ t ∈ ts, SmK t := by obtain ⟨D, _, h⟩ := h; exact h.small
theorem OwnSet.made (w : World) : OwnSet (w.alloc (.map #[] 0)) w.heap.size 0 [] := ⟨_, World.ownsMap_made _ _ _ _, SetOf.empty⟩
theorem OwnSet.size_le {w : World} {b n : Nat} {ts : List Tri3} (h : OwnSet w b n ts) : ts.length ≤ n := by
  obtain ⟨D, h, hD⟩ := h
  rw [← hD.size]; exact h.size_le
theorem true_elem : (plainElem (H := Unit) Tryz.prog 4) (.bool true) = some (.lit (.bool true), []) := plainElem_bool Tryz.underlying4 true
theorem bool_elem_inv {H : Type} {P : Program} {e : TypeId} (he : P.underlying e = some .bool) {v : Value} {d : DataW H} {ps : List MemPlace} (h : plainElem P e v = some (d, ps)) : ∃ x, v = .bool x ∧ d = .lit (.bool x) := by
  unfold plainElem at h
  rw [he] at h
  cases v <;> simp at h
  rename_i x
  exact ⟨x, rfl, h.1.symm⟩
section
variable (w : World) {ops : Array Oper} {rest : List Oper} {o : Oper} {a : Act} {Q : Exit → Act → World → Prop}
/-- A store of true at a triple. -/
theorem wpList_put (hg : o.guard = none) (m x v : Operand) (hop : o.op = Op.mapUpdate 78 m x v) (b n : Nat) (ts : List Tri3) (hm : a.eval m = .map (some b)) (h : OwnSet w b n ts) (hn : n < maxLen) (t : Tri3) (ht : SmK t)
    (hx : a.eval x = strT t) (hv : a.eval v = .bool true) (hK : ∀ w', OwnSet w' b (n + 1) (addT ts t) → w.grownBy w' (some b) → wpList Tryz.prog ops Q rest (a.put o.dst undef) w') : wpList Tryz.prog ops Q (o :: rest) a w := by
  obtain ⟨D, hown, hD⟩ := h
  obtain ⟨f0, f1, f2, S⟩ := keyTri
  exact wpList_mapUpdate_own w hg m x v _ hop _ 4 lawTri Tryz.underlying78 (plainElem (H := Unit) Tryz.prog 4) b n D hm hown hn _ _ (litT t) hx hv (S.of ht) _ [] true_elem (fun w' h1 h2 => hK w' ⟨_, h1, hD.put S lawTri (hown.tidy lawTri) ht⟩ h2)
/-- How many there are. -/
theorem wpList_count (hg : o.guard = none) (m : Operand) (hop : o.op = Op.call { callee := Callee.builtin Builtin.len, args := #[m], argTypes := #[78] }) (b n : Nat) (ts : List Tri3) (hm : a.eval m = .map (some b)) (h : OwnSet w b n ts)
    (hK : wpList Tryz.prog ops Q rest (a.put o.dst (.int .i64 ts.length)) w) : wpList Tryz.prog ops Q (o :: rest) a w := by
  obtain ⟨D, hown, hD⟩ := h
  refine wpList_len_own w hg m _ hop _ 4 Tryz.underlying78 (plainElem (H := Unit) Tryz.prog 4) b n D hm hown ?_
  rw [hD.size]; exact hK
theorem SetOf.look {H : Type} {D : DataW H} {ts : List Tri3} {f0 f1 f2 : Field} {P : Program} {k : TypeId} (S : TriKey P k f0 f1 f2) (K : Keyed P k) (h : SetOf D ts) {t : Tri3} (ht : SmK t) : D.atKey (litT t) (.lit (.bool false)) = .lit (.bool (decide (t ∈ ts))) := by
  by_cases g : t ∈ ts
  · rw [h.val t g, decide_eq_true g]
  · rw [atKey_of_not_has (by rw [h.mem S K ht, decide_eq_false g]), decide_eq_false g]
/-- Whether a triple is there. -/
theorem wpList_look (hg : o.guard = none) (m x : Operand) (hop : o.op = Op.lookup 78 m x false) (b n : Nat) (ts : List Tri3) (hm : a.eval m = .map (some b)) (h : OwnSet w b n ts) (t : Tri3) (ht : SmK t)
    (hx : a.eval x = strT t) (hz : (zeroValue 4).run Tryz.prog w = .ok (.bool false) w) (hK : wpList Tryz.prog ops Q rest (a.put o.dst (.bool (decide (t ∈ ts)))) w) : wpList Tryz.prog ops Q (o :: rest) a w := by
  obtain ⟨D, hown, hD⟩ := h
  obtain ⟨f0, f1, f2, S⟩ := keyTri
  refine wpList_plain hg fun K' hK' => ?_
  obtain ⟨v, ps, hrun, hv⟩ := hown.lookup lawTri Tryz.underlying78 hz (plainElem_bool Tryz.underlying4 false) (S.of ht)
  rw [hD.look S lawTri ht] at hv
  obtain ⟨y, rfl, e⟩ := bool_elem_inv Tryz.underlying4 hv
  simp only [DataW.lit.injEq, Lit.bool.injEq] at e
  subst e
  unfold Oper.wp
  simp [execOp, hop, hm, hx, hrun, Result.andThen]
  exact hK' _ _ hK
/-- A triple is taken out. -/
theorem wpList_drop (hg : o.guard = none) (m x : Operand) (hop : o.op = Op.call { callee := Callee.builtin Builtin.delete, args := #[m, x], argTypes := #[78, 31] }) (b n : Nat) (ts : List Tri3) (hm : a.eval m = .map (some b)) (h : OwnSet w b n ts)
    (t : Tri3) (ht : SmK t) (hx : a.eval x = strT t) (hK : ∀ w', OwnSet w' b n (lessT ts t) → w.grownBy w' (some b) → wpList Tryz.prog ops Q rest (a.put o.dst (.tuple #[])) w') : wpList Tryz.prog ops Q (o :: rest) a w := by
  obtain ⟨D, hown, hD⟩ := h
  obtain ⟨f0, f1, f2, S⟩ := keyTri
  exact wpList_delete_own w hg m x _ _ hop 4 lawTri Tryz.underlying78 (plainElem (H := Unit) Tryz.prog 4) b n D hm hown _ (litT t) hx (S.of ht) (fun w' h1 h2 => hK w' ⟨_, h1, hD.del S lawTri (hown.tidy lawTri) ht⟩ h2.grown)
/-- A store of true at a triple. -/
theorem wpList_putG (hg : o.guard = none) (m x v : Operand) (hop : o.op = Op.mapUpdate 79 m x v) (b n : Nat) (ts : List Tri3) (hm : a.eval m = .map (some b)) (h : OwnSet w b n ts) (hn : n < maxLen) (t : Tri3) (ht : SmK t)
    (hx : a.eval x = strT t) (hv : a.eval v = .bool true) (hK : ∀ w', OwnSet w' b (n + 1) (addT ts t) → w.grownBy w' (some b) → wpList Tryz.prog ops Q rest (a.put o.dst undef) w') : wpList Tryz.prog ops Q (o :: rest) a w := by
  obtain ⟨D, hown, hD⟩ := h
  obtain ⟨f0, f1, f2, S⟩ := keyTri
  exact wpList_mapUpdate_own w hg m x v _ hop _ 4 lawTri Tryz.underlying79 (plainElem (H := Unit) Tryz.prog 4) b n D hm hown hn _ _ (litT t) hx hv (S.of ht) _ [] true_elem (fun w' h1 h2 => hK w' ⟨_, h1, hD.put S lawTri (hown.tidy lawTri) ht⟩ h2)
/-- Whether a triple is there. -/
theorem wpList_lookG (hg : o.guard = none) (m x : Operand) (hop : o.op = Op.lookup 79 m x false) (b n : Nat) (ts : List Tri3) (hm : a.eval m = .map (some b)) (h : OwnSet w b n ts) (t : Tri3) (ht : SmK t)
    (hx : a.eval x = strT t) (hz : (zeroValue 4).run Tryz.prog w = .ok (.bool false) w) (hK : wpList Tryz.prog ops Q rest (a.put o.dst (.bool (decide (t ∈ ts)))) w) : wpList Tryz.prog ops Q (o :: rest) a w := by
  obtain ⟨D, hown, hD⟩ := h
  obtain ⟨f0, f1, f2, S⟩ := keyTri
  refine wpList_plain hg fun K' hK' => ?_
  obtain ⟨v, ps, hrun, hv⟩ := hown.lookup lawTri Tryz.underlying79 hz (plainElem_bool Tryz.underlying4 false) (S.of ht)
  rw [hD.look S lawTri ht] at hv
  obtain ⟨y, rfl, e⟩ := bool_elem_inv Tryz.underlying4 hv
  simp only [DataW.lit.injEq, Lit.bool.injEq] at e
  subst e
  unfold Oper.wp
  simp [execOp, hop, hm, hx, hrun, Result.andThen]
  exact hK' _ _ hK
/-- A triple is taken out. -/
theorem wpList_dropG (hg : o.guard = none) (m x : Operand) (hop : o.op = Op.call { callee := Callee.builtin Builtin.delete, args := #[m, x], argTypes := #[79, 31] }) (b n : Nat) (ts : List Tri3) (hm : a.eval m = .map (some b)) (h : OwnSet w b n ts)
    (t : Tri3) (ht : SmK t) (hx : a.eval x = strT t) (hK : ∀ w', OwnSet w' b n (lessT ts t) → w.grownBy w' (some b) → wpList Tryz.prog ops Q rest (a.put o.dst (.tuple #[])) w') : wpList Tryz.prog ops Q (o :: rest) a w := by
  obtain ⟨D, hown, hD⟩ := h
  obtain ⟨f0, f1, f2, S⟩ := keyTri
  exact wpList_delete_own w hg m x _ _ hop 4 lawTri Tryz.underlying79 (plainElem (H := Unit) Tryz.prog 4) b n D hm hown _ (litT t) hx (S.of ht) (fun w' h1 h2 => hK w' ⟨_, h1, hD.del S lawTri (hown.tidy lawTri) ht⟩ h2.grown)
end
open Go.RowKit Go.Maps Go.Sort Go.Shelf
set_option maxRecDepth 100000 in
set_option maxHeartbeats 1000000 in
theorem T3.keys1N_in {H : Type} (F : Fence) (n : Nat) (h10 : F.fn 75) (hro : F.round = none) (hn : 1 ≤ n) (l Bm b nn : Nat) (D0 : DataW H) {ts : List Tri3} (hD : SetOf D0 ts) {R : Value → Option (DataW H × List MemPlace)} (J : List Tri3 → World → Prop)
    (hY : ∀ pre x W, J pre W → pre.length < ts.length → YieldAt F (n - 1) Tryz.prog l #[strT x] W fun e W' => e = .returned (.bool true) ∧ J (pre ++ [x]) W' ∧ KeepsWalks W W')
    (W : World) (hJ : AbidesFrom W.heap.size J) (hm : W.cell? ⟨Bm, 0, none⟩ = some (.map (some b))) (hown : W.ownsMap Tryz.prog 31 R b nn D0) (h0 : J [] W) :
    CallsIn F n Tryz.prog 75 #[.func (.yield l) #[] #[], .pointer (some ⟨Bm, 0, none⟩)] W fun e W' => (∃ v, e = .returned v) ∧ ∃ ss : List Tri3, ss.Perm ts ∧ J ss W' := by
  obtain ⟨f0, f1, f2, S⟩ := keyTri
  refine callsIn_of_wp Tryz.func75 rfl h10 ?_ hro
  simp only [Tryz.ntmps75, List.size_toArray, List.length_cons, List.length_nil, Nat.reduceAdd, Nat.reduceSub, Array.replicate_succ, Array.replicate_zero, List.push_toArray, List.append_toArray, List.nil_append, List.cons_append]
  gi_wp2_with (first
    | (gi_at_range; refine wpListIn_range_own _ rfl _ 78 rfl 31 4 lawTri Tryz.underlying78 _ b nn _ rfl hown ?_; intro w0 hrg0 hg0 hs0)
    | gi_in)
  go_frame
  gi_loopw [3] (fun _ wr => ∃ (left : Lit → Bool) (cnt : Nat) (ss : List Tri3), wr.ranges Tryz.prog 31 R b W.heap.size nn D0 left cnt ∧ ss.length + cnt ≤ ts.length ∧ CollT D0 left ss ∧ J ss wr)
    (fun _ wr => wr.rangeLeft b W.heap.size)
  case atStart =>
    exact ⟨_, _, [], hrg0, by rw [hD.size]; simp, CollT.start D0, hJ [] W w0 none h0 hg0 (fun r e => by cases e)⟩
  case round =>
    obtain ⟨left, cnt, ss, hrg, hcs, hC, hJs⟩ := hrel
    gi_wp2_with (first
      | (gi_at_next; refine wpListIn_next_ranges _ rfl _ rfl 31 lawTri R strT id (fun key kl hk => by obtain ⟨x, hx, _⟩ := S.inv hk; exact ⟨x, hx⟩) (fun v _ _ => ⟨v, rfl⟩) b W.heap.size nn _ _ _ rfl hrg ?_ ?_)
      | gi_in)
    · -- NOTHING IS LEFT
      intro hc0 hl0
      gi_wp2
      go_end0
      exact ⟨⟨_, rfl⟩, ss, hC.perm S lawTri hD hl0, hJs⟩
    · -- AN ENTRY HAS COME: yield(k)
      intro x1 x2 x3 c kl yd yp w2 cnt2 hkey hlk hv hat hrg2 hlt hg2 hs2 hen
      obtain ⟨x', ex, hx', rfl⟩ := S.inv hkey
      obtain rfl : (x1, x2, x3) = x' := strT_inj ex
      have hJ2 : J ss w2 := hJ ss wr w2 (some W.heap.size) hJs hg2 (fun r e => by cases e; exact ⟨Nat.le_refl _, hrg.iter_walk⟩)
      have hJ4 : J ss (w2.alloc (.cells #[.string x1, .string x2, .string x3] 31)) := hJ ss w2 _ none hJ2 (World.grownBy_alloc w2 _ none) (fun r e => by cases e)
      have hrg4 := hrg2.alloc (.cells #[.string x1, .string x2, .string x3] 31)
      obtain ⟨fn, tmps, assign, body, hy, hR⟩ := hY ss (x1, x2, x3) _ hJ4 (by omega)
      simp only [strT] at hy hen ⊢
      clear hs2
      gi_wp2
      refine hR.mono ?_
      rintro e W3 ⟨rfl, hJ3, hk3⟩
      gi_wp2
      have hrg3 := hrg4.of_walks hk3
      go_roundw
      case rel => exact ⟨_, cnt2, ss ++ [(x1, x2, x3)], hrg3, by simp; omega, hC.step S lawTri hx' hlk hat, hJ3⟩
      case measure => rw [hrg3.left_eq, hrg.left_eq]; exact hlt
theorem T3.keys_gives {H : Type} (F : Fence) (n : Nat) (h10 : F.fn 75) (hro : F.round = none) (hn : 1 ≤ n) (Bm b nn : Nat) (D0 : DataW H) {ts : List Tri3} (hD : SetOf D0 ts) {R : Value → Option (DataW H × List MemPlace)} (w : World) (hBm : Bm < w.heap.size)
    (hm : w.cell? ⟨Bm, 0, none⟩ = some (.map (some b))) (hown : w.ownsMap Tryz.prog 31 R b nn D0) :
    SeqGives F n Tryz.prog 75 #[.pointer (some ⟨Bm, 0, none⟩)] strT (fun ss => ss.Perm ts) ts.length w := fun l J W hW hJ hY h0 => by
  have hown' : W.ownsMap Tryz.prog 31 R b nn D0 := by
    have hbl := hown.lt
    obtain ⟨es, clock, hb, Ft, hs, hD⟩ := hown
    exact ⟨es, clock, (hW.block b hbl).trans hb, Ft, hs, hD⟩
  exact T3.keys1N_in F n h10 hro hn l Bm b nn D0 hD J hY W hJ ((hW.cell (p := ⟨Bm, 0, none⟩) hBm).trans hm) hown' h0
theorem T3.keys_in (F : Fence) (n : Nat) (h7 : F.fn 66) (hro : F.round = none) (mb : Option Nat) (w : World) :
    CallsIn F n Tryz.prog 66 #[.map mb] w fun e w' => e = .returned (.func (.func 75) #[] #[.pointer (some ⟨w.heap.size, 0, none⟩)]) ∧ w' = w.alloc (.cells #[.map mb] 78) := by
  refine callsIn_of_wp Tryz.func66 rfl h7 ?_ hro
  simp only [Tryz.ntmps66, List.size_toArray, List.length_cons, List.length_nil, Nat.reduceAdd, Nat.reduceSub, Array.replicate_succ, Array.replicate_zero, List.push_toArray, List.append_toArray, List.nil_append, List.cons_append]
  gi_wp2
  go_ret
  exact ⟨rfl, rfl⟩
open Go.RowKit Go.Maps Go.Sort Go.Shelf
theorem ownT_ne {W : World} {B : Nat} {v : Value} {ts : List Tri3} (h : OwnT B W v ts) {j : Nat} {o : Obj} (hj : W.heap[j]? = some o) (hno : ∀ cur, o ≠ .cells cur 31 (0, 0)) : v.ownBlock = none ∨ v.ownBlock ≠ some j := ownsRow_ne_a h hj hno
def T3.apAssign : Code := (Code.region 2 #[{ dst := some 5, op := Op.alloc 31, type := 0, pos := "iter.go:51", after := #[], guard := none }, { dst := none, op := Op.store 31 (Operand.tmp 5) (Operand.tmp 7), type := 0, pos := "iter.go:51", after := #[{ on := 0, ground := Ground.data }, { on := 0, ground := Ground.phase }], guard := none }] false)
def T3.apBody : Code := (Code.block 1 (Code.region 3 #[{ dst := some 8, op := Op.load 42 (Operand.tmp 2), type := 42, pos := "iter.go:52", after := #[], guard := none }, { dst := some 9, op := Op.load 31 (Operand.tmp 5), type := 31, pos := "iter.go:52", after := #[], guard := none }, { dst := some 10, op := Op.buildSlice 42 1 #[(0, Operand.tmp 9)], type := 42, pos := "iter.go:52", after := #[{ on := 1, ground := Ground.data }], guard := none }, { dst := some 11, op := Op.call { callee := Callee.builtin Builtin.append, args := #[Operand.tmp 8, Operand.tmp 10], argTypes := #[42, 42] }, type := 42, pos := "iter.go:52", after := #[{ on := 0, ground := Ground.data }, { on := 2, ground := Ground.data }], guard := none }, { dst := none, op := Op.store 42 (Operand.tmp 2) (Operand.tmp 11), type := 0, pos := "iter.go:52", after := #[{ on := 3, ground := Ground.data }, { on := 3, ground := Ground.chain }, { on := 0, ground := Ground.phase }, { on := 1, ground := Ground.phase }, { on := 2, ground := Ground.phase }, { on := 3, ground := Ground.phase }], guard := none }] false))
def T3.apRec (fn : FuncId) (sv : Value) (Bs D : Nat) (st : LoopState) (pend : Option Code) : Loop :=
  { state := st, pending := pend, fn, tmps := #[.slice none 0 0, sv, .pointer (some ⟨Bs, 0, none⟩), undef, .slice none 0 0, undef, sv, undef, undef, undef, undef, undef, undef], params := #[7], assign := T3.apAssign, body := T3.apBody, defers := D }
structure T3.ApAt (w0 : World) (fn : FuncId) (sv : Value) (Bs l D : Nat) (ss : List Tri3) (W : World) : Prop where
  box : ∃ v, W.heap[Bs]? = some (.cells #[v] 42 (0, 0)) ∧ OwnT w0.heap.size W v ss ∧ (v = .slice none 0 0 ↔ ss = [])
  L : W.heap[l]? = some (.loop (T3.apRec fn sv Bs D .ready none))
  K : W.heap[D]? = some (.deferred (some []))
  below : Below w0.heap.size w0 W
theorem T3.ap_abides (w0 : World) (fn : FuncId) (sv : Value) (Bs l D B : Nat) (hB : w0.heap.size ≤ B) : AbidesFrom B (T3.ApAt w0 fn sv Bs l D) := fun s W W' row h hg hrow => by
  have hrow' : ∀ r, row = some r → ∃ o : Obj, W.heap[r]? = some o ∧ o.isWalk = true := fun r e => (hrow r e).2
  obtain ⟨v, hv, hr, hn⟩ := h.box
  exact ⟨⟨v, (grownBy_keeps hg hrow' hv rfl).trans hv, ownsRow_abides_a hr hg hrow', hn⟩, (grownBy_keeps hg hrow' h.L rfl).trans h.L, (grownBy_keeps hg hrow' h.K rfl).trans h.K,
    h.below.grown hg h.below.size (fun k e => Nat.le_trans hB (hrow k e).1)⟩
set_option maxRecDepth 100000 in
set_option maxHeartbeats 2000000 in
theorem T3.apYield (F : Fence) (m : Nat) (w0 : World) (fn : FuncId) (hfn : F.fn fn) (sv : Value) (Bs l D : Nat) (hBl : Bs ≠ l) (hDl : D ≠ l) (hDB : D ≠ Bs) (h0B : w0.heap.size ≤ Bs) (h0l : w0.heap.size ≤ l)
    (N : Nat) (hN : N ≤ maxLen) (hNb : N * 48 ≤ 140737488355328) (ss : List Tri3) (x : Tri3) (W : World) (h : T3.ApAt w0 fn sv Bs l D ss W) (hlen : ss.length < N) :
    YieldAt F m Tryz.prog l #[strT x] W fun e W' => e = .returned (.bool true) ∧ T3.ApAt w0 fn sv Bs l D (ss ++ [x]) W' ∧ KeepsWalks W W' := by
  have hne : 42 ≠ 31 := by decide
  obtain ⟨i0, hi, hz0, hz1, hz2⟩ := info_parts infoTri
  obtain ⟨v, hv, hrow, _⟩ := h.box
  obtain ⟨xa, xb, xc⟩ := x
  simp only [strT]
  refine ⟨fn, #[.slice none 0 0, sv, .pointer (some ⟨Bs, 0, none⟩), undef, .slice none 0 0, undef, sv, .agg #[.string xa, .string xb, .string xc], undef, undef, undef, undef, undef], T3.apAssign, T3.apBody, by simpa [T3.apRec] using run_yield (P := Tryz.prog) (args := #[.agg #[.string xa, .string xb, .string xc]]) h.L rfl, roundIn_of_wpIn hfn ?_⟩
  have hlW : l < W.heap.size := (Array.getElem?_eq_some_iff.1 h.L).1
  have hBW : Bs < W.heap.size := (Array.getElem?_eq_some_iff.1 hv).1
  have hDW : D < W.heap.size := (Array.getElem?_eq_some_iff.1 h.K).1
  obtain ⟨W5, hW5⟩ : ∃ W5, W.alloc (.cells #[.string xa, .string xb, .string xc] 31) = W5 := ⟨_, rfl⟩
  have X5 : Box W5 W.heap.size (.string xa) (.string xb) (.string xc) 31 := by rw [← hW5]; exact Box.new _ _ _ _ _
  have hv5 : W5.heap[Bs]? = some (.cells #[v] 42 (0, 0)) := by rw [← hW5]; exact (Below.heap_alloc _ _ Bs hBW).trans hv
  have hK5 : W5.heap[D]? = some (.deferred (some [])) := by rw [← hW5]; exact (Below.heap_alloc _ _ D hDW).trans h.K
  have hL5 : W5.heap[l]? = some (.loop (T3.apRec fn sv Bs D .ready none)) := by rw [← hW5]; exact (Below.heap_alloc _ _ l hlW).trans h.L
  have hrow5 : OwnT w0.heap.size W5 v ss := by rw [← hW5]; exact World.ownsRow.alloc hrow _
  have hb5 : Below w0.heap.size w0 W5 := by rw [← hW5]; exact h.below.alloc h.below.size _
  have hk5 : KeepsWalks W W5 := by rw [← hW5]; exact KeepsWalks.alloc _ _
  have hl : l < W5.heap.size := (Array.getElem?_eq_some_iff.1 hL5).1
  have hbr := run_beginRound (P := Tryz.prog) hL5 rfl
  obtain ⟨W2, hW2⟩ : ∃ W2, W5.putObj l (.loop { T3.apRec fn sv Bs D .ready none with state := .busy }) = W2 := ⟨_, rfl⟩
  rw [hW2] at hbr
  have hg2 : W5.grownBy W2 (some l) := by rw [← hW2]; exact grownBy_putObj_a _ _ _
  have hk2 : KeepsWalks W W2 := by rw [← hW2]; exact hk5.trans (KeepsWalks.putObj _ hL5 rfl)
  have hv2 : W2.heap[Bs]? = some (.cells #[v] 42 (0, 0)) := by rw [← hW2]; exact (World.putObj_heap_other hBl).trans hv5
  have hK2 : W2.heap[D]? = some (.deferred (some [])) := by rw [← hW2]; exact (World.putObj_heap_other hDl).trans hK5
  have hL2 : W2.heap[l]? = some (.loop { T3.apRec fn sv Bs D .ready none with state := .busy }) := by rw [← hW2]; exact World.putObj_heap_same hl
  have hrow2 : OwnT w0.heap.size W2 v ss := hrow5.kept hg2 (ownsRow_ne_a hrow5 hL5 (fun cur e => by first | cases e | exact hne (Obj.cells.inj e).2.1))
  have hb2 : Below w0.heap.size w0 W2 := hb5.grown hg2 hb5.size (fun k e => by cases e; exact h0l)
  have X2 : Box W2 W.heap.size (.string xa) (.string xb) (.string xc) 31 := X5.grown hg2 (by simp; omega)
  obtain ⟨hc2, hf2⟩ := cell_of_box_a hv2
  obtain ⟨hx0, hx1, hx2⟩ := X2.cells
  have hBlt : Bs < W2.heap.size := (Array.getElem?_eq_some_iff.1 hv2).1
  have hl2 : l < W2.heap.size := (Array.getElem?_eq_some_iff.1 hL2).1
  have hDlt : D < W2.heap.size := (Array.getElem?_eq_some_iff.1 hK2).1
  have ne_of : ∀ {j : Nat} {o : Obj}, W2.heap[j]? = some o → (∀ cur, o ≠ .cells cur 31 (0, 0)) → some j ≠ v.ownBlock := fun hj hno => by
    rcases ownsRow_ne_a hrow2 hj hno with e | e
    · rw [e]; simp
    · exact fun e' => e e'.symm
  rw [← hW5] at hbr
  clear hW2 hW5 X5 X2 hv5 hK5 hL5 hrow5 hb5 hk5 hl hg2
  unfold T3.apAssign
  gi_wp2_with gi_round_op_a
  unfold T3.apBody
  gi_wp2_with (first
    | (gi_at_builtin; refine wpListIn_append_own _ rfl _ _ 42 rfl w0.heap.size 31 i0 (.agg #[.string ⟨#[]⟩, .string ⟨#[]⟩, .string ⟨#[]⟩]) 3 48 Tryz.underlying42 hi hz0 hz1 hz2 rfl (by decide) _ _ _ rfl (hrow2.alloc _) ⟨W2.heap.size, 0, none⟩ 1 1 [.string xa, .string xb, .string xc] rfl rfl three_cell (by intro u hu; simp at hu; rcases hu with rfl | rfl | rfl <;> rfl) (by omega) (by omega) (by have := hb2.size; simp; omega) ?_; intro v' w3 hown' hg3 hnil3
       have hv3 : w3.heap[Bs]? = some (.cells #[v] 42 (0, 0)) := (hg3.block Bs (by simp; omega) (ne_of hv2 (fun cur e => by first | cases e | exact hne (Obj.cells.inj e).2.1))).trans ((Below.heap_alloc _ _ Bs hBlt).trans hv2)
       obtain ⟨hc3, hf3⟩ := cell_of_box_a hv3
       obtain ⟨g', cap', cur', rfl, hbase', hgb', hr1, hr2, hr3, hr4⟩ : ∃ g' cap' cur', v' = .slice (some ⟨g', 0, none⟩) (ss.length + 1) cap' ∧ w0.heap.size ≤ g' ∧ w3.heap[g']? = some (.cells cur' 31 (0, 0)) ∧ ss.length + 1 ≤ cap' ∧ cap' ≤ maxLen ∧ cur'.size = cap' * 3 ∧ cur'.toList.take ((ss.length + 1) * 3) = flat ss ++ [.string xa, .string xb, .string xc] := by
         rcases hown'.2 with ⟨_, h0⟩ | h'
         · exact absurd h0 (by omega)
         · exact h'
       go_frame)
    | gi_round_op_a)
  have hg3' : (W2.alloc (.cells #[.string xa, .string xb, .string xc] 31)).grownBy w3 v.ownBlock := hg3
  have hL3 : w3.heap[l]? = some (.loop { T3.apRec fn sv Bs D .ready none with state := .busy }) := (hg3'.block l (by simp; omega) (ne_of hL2 (fun cur e => by first | cases e | exact hne (Obj.cells.inj e).2.1))).trans ((Below.heap_alloc _ _ l hl2).trans hL2)
  have hK3 : w3.heap[D]? = some (.deferred (some [])) := (hg3'.block D (by simp; omega) (ne_of hK2 (fun cur e => by first | cases e | exact hne (Obj.cells.inj e).2.1))).trans ((Below.heap_alloc _ _ D hDlt).trans hK2)
  obtain ⟨w4, hw4⟩ : ∃ w4, w3.setCell ⟨Bs, 0, none⟩ (.slice (some ⟨g', 0, none⟩) (ss.length + 1) cap') = w4 := ⟨_, rfl⟩
  rw [hw4]
  have hg4 : w3.grownBy w4 (some Bs) := by rw [← hw4]; exact grownBy_setCell0_a _ _ _
  have hv4 : w4.heap[Bs]? = some (.cells #[.slice (some ⟨g', 0, none⟩) (ss.length + 1) cap'] 42 (0, 0)) := by rw [← hw4]; exact heap_setCell_box_a _ hv3
  have hL4 : w4.heap[l]? = some (.loop { T3.apRec fn sv Bs D .ready none with state := .busy }) := (hg4.block l (Array.getElem?_eq_some_iff.1 hL3).1 (fun e => hBl (by cases e; rfl))).trans hL3
  have hK4 : w4.heap[D]? = some (.deferred (some [])) := (hg4.block D (Array.getElem?_eq_some_iff.1 hK3).1 (fun e => hDB (by cases e; rfl))).trans hK3
  have hrow4 := hown'.kept hg4 (ownsRow_ne_a hown' hv3 (fun cur e => by first | cases e | exact hne (Obj.cells.inj e).2.1))
  have hl4 : l < w4.heap.size := (Array.getElem?_eq_some_iff.1 hL4).1
  have hb3 : Below w0.heap.size w0 w3 := (hb2.alloc hb2.size _).grown hg3' (by have := hb2.size; simp; omega) (fun k e => (hrow2.lt k e).1)
  have hb4 : Below w0.heap.size w0 w4 := hb3.grown hg4 hb3.size (fun k e => by cases e; exact h0B)
  have hk4 : KeepsWalks W w4 := ((hk2.trans (KeepsWalks.alloc _ _)).trans (KeepsWalks.of_grownBy hg3' (ownsRow_not_walk_a (hrow2.alloc _)))).trans (by rw [← hw4]; exact KeepsWalks.setCell _ _ _)
  clear hw4
  refine ⟨_, _, run_endRound none hL4, rfl, ⟨⟨_, (World.putObj_heap_other hBl).trans hv4, ?_, by simp⟩, World.putObj_heap_same hl4, (World.putObj_heap_other hDl).trans hK4, hb4.grown (grownBy_putObj_a _ _ _) hb4.size (fun k e => by cases e; exact h0l)⟩, hk4.trans (KeepsWalks.putObj _ hL4 rfl)⟩
  have := hrow4.kept (grownBy_putObj_a w4 l (.loop { { T3.apRec fn sv Bs D .ready none with state := .busy } with state := if (none : Option Code).isNone then .ready else .done, pending := none })) (ownsRow_ne_a hrow4 hL4 (fun cur e => by first | cases e | exact hne (Obj.cells.inj e).2.1))
  exact own3_snoc (t := (xa, xb, xc)) this
set_option maxRecDepth 100000 in
set_option maxHeartbeats 2000000 in
theorem T3.appendSeq_in (F : Fence) (n : Nat) (h11 : F.fn 89) (hro : F.round = none) (hn : 2 ≤ n) (g : Nat) (lb : Array Value) (hFg : F.fn g) (eg : ∀ args w, (callFunc g args).run Tryz.prog w = .ok (.enter g args) w)
    (S : List Tri3 → Prop) (N : Nat) (hN : N ≤ maxLen) (hNb : N * 48 ≤ 140737488355328) (w : World) (hseq : SeqGives F (n - 1) Tryz.prog g lb strT S N w) :
    CallsIn F n Tryz.prog 89 #[.slice none 0 0, .func (.func g) #[] lb] w fun e w' => ∃ (v : Value) (ss : List Tri3), e = .returned v ∧ S ss ∧ OwnT w.heap.size w' v ss ∧ (v = .slice none 0 0 ↔ ss = []) ∧ Below w.heap.size w w' := by
  have h1 : 1 ≤ n := by omega
  have hne : 42 ≠ 31 := by decide
  refine callsIn_of_wp_marks Tryz.func89 rfl h11 ?_ hro
  simp only [Tryz.ntmps89, List.size_toArray, List.length_cons, List.length_nil, Nat.reduceAdd, Nat.reduceSub, Array.replicate_succ, Array.replicate_zero, List.push_toArray, List.append_toArray, List.nil_append, List.cons_append]
  gi_wp2
  refine wpIn_rangeFunc ?_
  intro fn hfn
  rw [hro]
  obtain ⟨W0, hW0⟩ : ∃ W0, w.alloc (.cells #[.slice none 0 0] 42) = W0 := ⟨_, rfl⟩
  have hs0 : W0.heap.size = w.heap.size + 1 := by rw [← hW0]; simp
  have hv0 : W0.heap[w.heap.size]? = some (.cells #[.slice none 0 0] 42 (0, 0)) := by rw [← hW0]; exact World.alloc_heap_new w _
  have hb0 : Below w.heap.size w W0 := by rw [← hW0]; exact (Below.refl _ w).alloc (Nat.le_refl _) _
  rw [hW0]
  obtain ⟨W1, hW1⟩ : ∃ W1, (W0.alloc (.deferred (some []))).alloc (.loop (T3.apRec fn (.func (.func g) #[] lb) w.heap.size W0.heap.size .ready none)) = W1 := ⟨_, rfl⟩
  have hold : ∀ k, k < W0.heap.size → W1.heap[k]? = W0.heap[k]? := fun k hk => by
    rw [← hW1]; exact (Below.heap_alloc _ _ k (by simp; omega)).trans (Below.heap_alloc _ _ k hk)
  have hb1 : Below w.heap.size w W1 := by rw [← hW1]; exact (hb0.alloc hb0.size _).alloc (by have := hb0.size; simp; omega) _
  have hs1 : W1.heap.size = W0.heap.size + 2 := by rw [← hW1]; simp
  have hM : T3.ApAt w fn (.func (.func g) #[] lb) w.heap.size (W0.heap.size + 1) W0.heap.size [] W1 :=
    ⟨⟨_, (hold w.heap.size (by omega)).trans hv0, ⟨rfl, .inl ⟨rfl, rfl⟩⟩, by simp⟩,
     by rw [← hW1]; have := World.alloc_heap_new (W0.alloc (.deferred (some []))) (.loop (T3.apRec fn (.func (.func g) #[] lb) w.heap.size W0.heap.size .ready none)); rwa [World.size_alloc] at this,
     by rw [← hW1]; exact (Below.heap_alloc _ _ _ (by simp)).trans (World.alloc_heap_new W0 _), hb1⟩
  refine ⟨W0.heap.size + 1, [{ target := .collected W0.heap.size, args := #[] }], W1, { target := .fn (.func g) lb, args := #[.func (.yield (W0.heap.size + 1)) #[] #[]] }, W1, g,
    #[.func (.yield (W0.heap.size + 1)) #[] #[]] ++ lb, W1, ?_, ?_, ?_, ?_, fun _ => h1, ?_⟩
  · rw [← hW1]; exact run_enterLoop_outer _ _ _ _ _
  · simp [resolve, go_sem]
  · intro f' hf'; simp [Target.leads] at hf'; subst hf'; exact hFg
  · simp [invoke, go_sem, eg]
  · refine (hseq (W0.heap.size + 1) (T3.ApAt w fn (.func (.func g) #[] lb) w.heap.size (W0.heap.size + 1) W0.heap.size) W1 hb1 (T3.ap_abides _ _ _ _ _ _ _ hb1.size)
      (fun pre x W hJ hl => T3.apYield F (n - 1 - 1) w fn hfn _ w.heap.size (W0.heap.size + 1) W0.heap.size (by omega) (by omega) (by omega) (Nat.le_refl _) (by omega) N hN hNb pre x W hJ hl) hM).mono ?_
    rintro e W2 ⟨⟨v0, rfl⟩, ss, hS, h2⟩
    obtain ⟨v, hv, hrow, hnil⟩ := h2.box
    have hend := run_endLoop (P := Tryz.prog) h2.L (by simp [T3.apRec])
    obtain ⟨W3, hW3⟩ : ∃ W3, W2.putObj (W0.heap.size + 1) (.loop { T3.apRec fn (.func (.func g) #[] lb) w.heap.size W0.heap.size .ready none with state := .exhausted }) = W3 := ⟨_, rfl⟩
    rw [hW3] at hend
    have hg3 : W2.grownBy W3 (some (W0.heap.size + 1)) := by rw [← hW3]; exact grownBy_putObj_a _ _ _
    have hv3 : W3.heap[w.heap.size]? = some (.cells #[v] 42 (0, 0)) := by rw [← hW3]; exact (World.putObj_heap_other (by omega)).trans hv
    have hK3 : W3.heap[W0.heap.size]? = some (.deferred (some [])) := by rw [← hW3]; exact (World.putObj_heap_other (by omega)).trans h2.K
    have hrow3 := hrow.kept hg3 (ownsRow_ne_a hrow h2.L (fun cur e => by first | cases e | exact hne (Obj.cells.inj e).2.1))
    have hb3 : Below w.heap.size w W3 := h2.below.grown hg3 h2.below.size (fun k e => by cases e; omega)
    obtain ⟨hc3, hf3⟩ := cell_of_box_a hv3
    clear hW3
    refine ⟨none, W3, hend, ?_⟩
    gi_wp2
    rw [← hs0]
    refine ⟨by simp, .inl ⟨_, _, rfl, run_takeDeferred hK3, ?_⟩⟩
    exact ⟨_, results_tmp rfl _ _ _, v, ss, rfl, hS, hrow3.kept (grownBy_putObj_a _ _ _) (ownsRow_ne_a hrow3 hK3 (fun cur e => by first | cases e | exact hne (Obj.cells.inj e).2.1)), hnil, hb3.grown (grownBy_putObj_a _ _ _) hb3.size (fun k e => by cases e; omega)⟩
open Go.RowKit Go.Maps Go.Sort Go.Shelf
set_option maxHeartbeats 1000000 in
theorem T3.collect_in (n : Nat) (hn : 3 ≤ n) (g : Nat) (lb : Array Value) (eg : ∀ args w, (callFunc g args).run Tryz.prog w = .ok (.enter g args) w)
    (S : List Tri3 → Prop) (N : Nat) (hN : N ≤ maxLen) (hNb : N * 48 ≤ 140737488355328) (w : World) (hseq : SeqGives Fence.wide (n - 1 - 1) Tryz.prog g lb strT S N w) :
    CallsIn Fence.wide n Tryz.prog 73 #[.func (.func g) #[] lb] w fun e w' => ∃ (v : Value) (ss : List Tri3), e = .returned v ∧ S ss ∧ OwnT w.heap.size w' v ss ∧ (v = .slice none 0 0 ↔ ss = []) ∧ Below w.heap.size w w' := by
  have h1 : 1 ≤ n := by omega
  have h11 : Fence.wide.fn 89 := trivial
  refine callsIn_of_wp Tryz.func73 rfl trivial ?_ rfl
  simp only [Tryz.ntmps73, List.size_toArray, List.length_cons, List.length_nil, Nat.reduceAdd, Nat.reduceSub, Array.replicate_succ, Array.replicate_zero, List.push_toArray, List.append_toArray, List.nil_append, List.cons_append]
  gi_wp2_with (gi_at_call 89; refine (T3.appendSeq_in Fence.wide (n - 1) h11 rfl (by omega) g lb trivial eg S N hN hNb _ hseq).mono ?_; rintro e w' ⟨v, ss, rfl, hS, hrow, hnil, hb⟩)
  go_ret
  exact ⟨v, ss, rfl, hS, hrow, hnil, hb⟩
set_option maxRecDepth 100000 in
set_option maxHeartbeats 2000000 in
theorem T3.sorted_in (n : Nat) (hn : 4 ≤ n) (g : Nat) (lb : Array Value) (eg : ∀ args w, (callFunc g args).run Tryz.prog w = .ok (.enter g args) w)
    (S : List Tri3 → Prop) (N : Nat) (hN : N ≤ maxLen) (hNb : N * 48 ≤ 140737488355328) (w : World) (hseq : SeqGives Fence.wide (n - 1 - 1 - 1) Tryz.prog g lb strT S N w) :
    CallsIn Fence.wide n Tryz.prog 65 #[.func (.func g) #[] lb, .func (.func 67) #[] #[]] w fun e w' => ∃ (v : Value) (ss : List Tri3), e = .returned v ∧ S ss ∧
      OwnT w.heap.size w' v (sortT ss) ∧ (v = .slice none 0 0 ↔ ss = []) ∧ Below w.heap.size w w' := by
  have h1 : 1 ≤ n := by omega
  have h8 : Fence.wide.fn 73 := trivial
  have h9 : Fence.wide.fn 74 := trivial
  refine callsIn_of_wp Tryz.func65 rfl trivial ?_ rfl
  simp only [Tryz.ntmps65, List.size_toArray, List.length_cons, List.length_nil, Nat.reduceAdd, Nat.reduceSub, Array.replicate_succ, Array.replicate_zero, List.push_toArray, List.append_toArray, List.nil_append, List.cons_append]
  gi_wp2_with (gi_at_call 73; refine (T3.collect_in (n - 1) (by omega) g lb eg _ N hN hNb _ hseq.bounded).mono ?_; rintro e W ⟨v, ss, rfl, ⟨hS, hlen⟩, hrow, hnil, hb⟩)
  have hlt := fun j hj => (World.ownsRow.lt hrow j hj).1
  have cS := (callsIn_wide (n := n - 1)).2 (sortTris w.heap.size v ss W hrow (by unfold maxLen at hN; omega))
  have CS := Lib.hid cS
  have HR := Lib.hid hnil
  clear cS hrow hnil hseq
  gi_wp2_with (gi_at_call 74; refine CS.out.mono ?_; rintro e w' ⟨rfl, hO, hg⟩)
  go_ret
  exact ⟨v, ss, rfl, hS, hO, HR.out, hb.grown hg hb.size hlt⟩
set_option maxHeartbeats 1000000 in
/-- What stands in a map of triples, in order: a slice of the call's own. -/
theorem implInOrder (b n : Nat) (ts : List Tri3) (w : World) (h : OwnSet w b n ts) (hN : ts.length ≤ 2000000) :
    Calls Tryz.prog 58 #[.map (some b)] w fun e w' => ∃ v : Value, e = .returned v ∧ OwnT w.heap.size w' v (sortT ts) ∧ Below w.heap.size w w' := by
  obtain ⟨D, hown, hD⟩ := h
  have hbl := hown.lt
  refine (callsIn_wide (n := 6)).1 ?_
  have hfK : Fence.wide.fn 66 := trivial
  have hfS : Fence.wide.fn 65 := trivial
  have eg : ∀ args w, (callFunc 75 args).run Tryz.prog w = .ok (.enter 75 args) w := enters_of Tryz.func75 (by kernel_rfl) rfl
  have hseq : SeqGives Fence.wide 2 Tryz.prog 75 #[.pointer (some ⟨w.heap.size, 0, none⟩)] strT (fun ss => ss.Perm ts) ts.length (w.alloc (.cells #[.map (some b)] 78)) :=
    T3.keys_gives Fence.wide _ trivial rfl (by omega) w.heap.size b n D hD _ (by simp) (by simp) (hown.alloc _)
  have cS := T3.sorted_in 5 (by omega) _ _ eg _ ts.length (by unfold maxLen; omega) (by omega) _ hseq
  have CS := Lib.hid cS
  clear cS hseq eg hown
  refine callsIn_of_wp Tryz.func58 rfl trivial ?_ rfl
  simp only [Tryz.ntmps58, List.size_toArray, List.length_cons, List.length_nil, Nat.reduceAdd, Nat.reduceSub, Array.replicate_succ, Array.replicate_zero, List.push_toArray, List.append_toArray, List.nil_append, List.cons_append]
  gi_wp2_with (first
    | (gi_at_call 66; refine (T3.keys_in Fence.wide 5 trivial rfl _ _).mono ?_; rintro e w' ⟨rfl, rfl⟩)
    | (gi_at_call 65; refine CS.out.mono ?_; rintro e w' ⟨v, ss, rfl, hS, hrow, hnil, hb⟩))
  go_ret
  have e1 : sortT ss = sortT ts := sortT_is (hS.symm.nodup hD.nodup) (sortT_rising hD.nodup) (fun u => by rw [sortT_mem]; exact hS.mem_iff)
  rw [e1] at hrow
  exact ⟨v, rfl, own_base hrow (by simp), ((Below.refl _ w).alloc (Nat.le_refl _) _).trans (hb.mono (by simp))⟩
end Go.Proofs.YtkcbgppplgkkbaaGreat
