/- Triples put in order: plain facts on lists.; A map keyed by triples: what its keys read as; the map as a list of triples.; The program's comparison of triples: the world behind it, written out. -/
import Derived.Test.YtiajdnhmjdfeeaaGreatK08
import Derived.Test.YtiajdnhmjdfeeaaGreatK20
import Derived.Sort.MapsRangeIn
import Derived.DeepKeys4
import Derived.Test.YtiajdnhmjdfeeaaGreatK01
import Derived.Sort.Grow
import Derived.Sort.WalkA
namespace Go.Proofs.YtiajdnhmjdfeeaaGreat
theorem less_trans : ∀ a b c : List UInt8, Op.bytesLess a b = true → Op.bytesLess b c = true → Op.bytesLess a c = true
  | _, b, [], _, h => by cases b <;> simp [Op.bytesLess] at h
  | a, [], _ :: _, h, _ => by cases a <;> simp [Op.bytesLess] at h
  | [], _ :: _, _ :: _, _, _ => by simp [Op.bytesLess]
  | x :: r, y :: q, z :: s, h1, h2 => by
    simp only [Op.bytesLess, Bool.or_eq_true, Bool.and_eq_true, decide_eq_true_eq, beq_iff_eq] at h1 h2 ⊢
    rcases h1 with h1 | ⟨rfl, h1⟩
    · rcases h2 with h2 | ⟨rfl, h2⟩
      · exact .inl (by rw [UInt8.lt_iff_toNat_lt] at *; omega)
      · exact .inl h1
    · rcases h2 with h2 | ⟨rfl, h2⟩
      · exact .inl h2
      · exact .inr ⟨rfl, less_trans r q s h1 h2⟩
theorem aheadL_iff (s p o s' p' o' : List UInt8) : aheadL s p o s' p' o' = true ↔ Op.bytesLess s s' = true ∨ (s = s' ∧ (Op.bytesLess p p' = true ∨ (p = p' ∧ Op.bytesLess o o' = true))) := by
  unfold aheadL
  by_cases h1 : s = s'
  · subst h1
    by_cases h2 : p = p'
    · subst h2; simp [less_irrefl]
    · simp [h2, less_irrefl]
  · simp [h1]
theorem aheadT_irrefl (t : Tri3) : aheadT t t = false := by
  unfold aheadT aheadL; simp [less_irrefl]
theorem aheadT_trans {a b c : Tri3} (h1 : aheadT a b = true) (h2 : aheadT b c = true) : aheadT a c = true := by
  unfold aheadT at *
  rw [aheadL_iff] at *
  rcases h1 with h1 | ⟨e1, h1⟩
  · rcases h2 with h2 | ⟨e2, h2⟩
    · exact .inl (less_trans _ _ _ h1 h2)
    · exact .inl (by rw [← e2]; exact h1)
  · rcases h2 with h2 | ⟨e2, h2⟩
    · exact .inl (by rw [e1]; exact h2)
    · refine .inr ⟨e1.trans e2, ?_⟩
      rcases h1 with h1 | ⟨f1, h1⟩
      · rcases h2 with h2 | ⟨f2, h2⟩
        · exact .inl (less_trans _ _ _ h1 h2)
        · exact .inl (by rw [← f2]; exact h1)
      · rcases h2 with h2 | ⟨f2, h2⟩
        · exact .inl (by rw [f1]; exact h2)
        · exact .inr ⟨f1.trans f2, less_trans _ _ _ h1 h2⟩
theorem aheadT_one {a b : Tri3} (h : aheadT a b = false) (g : aheadT b a = false) : a = b := by
  have := ahead_one a.1.data.toList a.2.1.data.toList a.2.2.data.toList b.1.data.toList b.2.1.data.toList b.2.2.data.toList
  unfold aheadT at h g
  rw [h, g] at this
  simp only [Bool.or_self, Bool.false_eq, Bool.not_eq_false', Bool.and_eq_true, beq_iff_eq] at this
  obtain ⟨a1, a2, a3⟩ := a
  obtain ⟨b1, b2, b3⟩ := b
  obtain ⟨e1, e2, e3⟩ := this
  have e1 := data_inj e1
  have e2 := data_inj e2
  have e3 := data_inj e3
  simp only at e1 e2 e3
  rw [e1, e2, e3]
theorem aheadT_ne {a b : Tri3} (h : aheadT a b = true) : a ≠ b := by
  rintro rfl
  rw [aheadT_irrefl] at h
  cases h
/-- Each ahead of all that stand behind it. -/
def Rising (ts : List Tri3) : Prop := ts.Pairwise (fun a b => aheadT a b = true)
theorem rising_of_upto {ts : List Tri3} (h : gUpto okT aheadT ts ts.length = true) : Rising ts := by
  have adj : ∀ k, (hk : k + 1 < ts.length) → aheadT ts[k] ts[k + 1] = true := by
    intro k hk
    have := List.all_eq_true.1 h (k + 1) (List.mem_range.2 hk)
    rw [gAt_next (t := ts[k + 1]) (u := ts[k]) (by omega) (List.getElem?_eq_getElem hk) (List.getElem?_eq_getElem (by omega))] at this
    simp only [Bool.and_eq_true] at this
    exact this.2
  unfold Rising
  rw [List.pairwise_iff_getElem]
  intro i j hi hj hij
  induction j with
  | zero => omega
  | succ j ih =>
    rcases Nat.lt_or_ge i j with g | g
    · exact aheadT_trans (ih (by omega) g) (adj j hj)
    · obtain rfl : i = j := by omega
      exact adj i hj
theorem upto_of_rising {ts : List Tri3} (ho : ∀ t ∈ ts, okT t = true) (hr : Rising ts) : gUpto okT aheadT ts ts.length = true := by
  unfold Rising at hr
  rw [List.pairwise_iff_getElem] at hr
  refine List.all_eq_true.2 fun i hi => ?_
  have hi := List.mem_range.1 hi
  have hoi : okT ts[i] = true := ho _ (List.getElem_mem hi)
  rcases Nat.eq_zero_or_pos i with rfl | h0
  · rw [gAt_zero (List.getElem?_eq_getElem hi)]; exact hoi
  · rw [gAt_next (t := ts[i]) (u := ts[i - 1]) h0 (List.getElem?_eq_getElem hi) (List.getElem?_eq_getElem (by omega)), hoi, hr (i - 1) i (by omega) hi (by omega)]; rfl
theorem graphOk_iff {ts : List Tri3} : graphOk ts = true ↔ ts.length ≤ 80 ∧ (∀ t ∈ ts, okT t = true) ∧ Rising ts := by
  unfold graphOk
  rw [Bool.and_eq_true, decide_eq_true_eq]
  exact ⟨fun ⟨h1, h2⟩ => ⟨h1, gUpto_mem h2, rising_of_upto h2⟩, fun ⟨h1, h2, h3⟩ => ⟨h1, upto_of_rising h2 h3⟩⟩
theorem Rising.nodup {ts : List Tri3} (h : Rising ts) : ts.Nodup := List.Pairwise.imp (fun h => aheadT_ne h) h
/-- How many are ahead of t, from the front on. -/
def atT (t : Tri3) : List Tri3 → Nat
  | [] => 0
  | u :: r => if aheadT u t = true then atT t r + 1 else 0
theorem atT_le (t : Tri3) : ∀ g : List Tri3, atT t g ≤ g.length
  | [] => Nat.le_refl _
  | u :: r => by unfold atT; have := atT_le t r; split <;> simp <;> omega
theorem atT_ahead {t u : Tri3} : ∀ {g : List Tri3} {i : Nat}, i < atT t g → g[i]? = some u → aheadT u t = true
  | [], i, h, _ => by simp [atT] at h
  | v :: r, i, h, hu => by
    unfold atT at h
    split at h
    · rename_i hv
      cases i with
      | zero => simp at hu; rw [← hu]; exact hv
      | succ i => exact atT_ahead (g := r) (i := i) (by omega) (by simpa using hu)
    · omega
theorem atT_stop {t u : Tri3} : ∀ {g : List Tri3}, g[atT t g]? = some u → aheadT u t = false
  | [], h => by simp at h
  | v :: r, h => by
    unfold atT at h
    split at h
    · exact atT_stop (g := r) (by simpa using h)
    · rename_i hv
      simp at h
      rw [← h]; simpa using hv
theorem atT_is {t : Tri3} {g : List Tri3} {k : Nat} (h1 : ∀ i u, i < k → g[i]? = some u → aheadT u t = true) (hk : k ≤ g.length) (h2 : ∀ u, g[k]? = some u → aheadT u t = false) : atT t g = k := by
  rcases Nat.lt_trichotomy (atT t g) k with h | h | h
  · have e : g[atT t g]? = some g[atT t g] := List.getElem?_eq_getElem (by omega)
    have := h1 _ _ h e
    rw [atT_stop e] at this
    cases this
  · exact h
  · have hl := atT_le t g
    have e : g[k]? = some g[k] := List.getElem?_eq_getElem (by omega)
    have := h2 _ e
    rw [atT_ahead h e] at this
    cases this
/-- Triples in order, with one more. -/
def putT (g : List Tri3) (t : Tri3) : List Tri3 := if g[atT t g]? = some t then g else g.take (atT t g) ++ t :: g.drop (atT t g)
theorem putT_here {g : List Tri3} {t : Tri3} (h : g[atT t g]? = some t) : putT g t = g := by unfold putT; rw [if_pos h]
theorem putT_new {g : List Tri3} {t : Tri3} (h : g[atT t g]? ≠ some t) : putT g t = g.take (atT t g) ++ t :: g.drop (atT t g) := by unfold putT; rw [if_neg h]
theorem putT_len (g : List Tri3) (t : Tri3) : (putT g t).length ≤ g.length + 1 := by
  unfold putT
  split
  · omega
  · have := atT_le t g
    simp only [List.length_append, List.length_take, List.length_cons, List.length_drop]
    omega
theorem putT_mem {g : List Tri3} {t u : Tri3} : u ∈ putT g t ↔ u = t ∨ u ∈ g := by
  unfold putT
  split
  · rename_i h
    refine ⟨.inr, fun h' => ?_⟩
    rcases h' with rfl | h'
    · exact List.mem_of_getElem? h
    · exact h'
  · rw [List.mem_append, List.mem_cons]
    constructor
    · rintro (h | h | h)
      · exact .inr (List.mem_of_mem_take h)
      · exact .inl h
      · exact .inr (List.mem_of_mem_drop h)
    · rintro (h | h)
      · exact .inr (.inl h)
      · have := List.take_append_drop (atT t g) g
        rw [← this] at h
        rcases List.mem_append.1 h with h | h
        · exact .inl h
        · exact .inr (.inr h)
theorem putT_rising {g : List Tri3} {t : Tri3} (hr : Rising g) : Rising (putT g t) := by
  unfold putT
  split
  · exact hr
  · rename_i hn
    have hl := atT_le t g
    have hsplit : Rising (g.take (atT t g) ++ g.drop (atT t g)) := by rw [List.take_append_drop]; exact hr
    obtain ⟨p1, p2, p3⟩ := List.pairwise_append.1 hsplit
    have q1 : ∀ u ∈ g.take (atT t g), aheadT u t = true := by
      intro u hu
      obtain ⟨i, hi⟩ := List.mem_iff_getElem?.1 hu
      have hil := (List.getElem?_eq_some_iff.1 hi).1
      rw [List.length_take] at hil
      rw [List.getElem?_take_of_lt (by omega)] at hi
      exact atT_ahead (by omega) hi
    have q2 : ∀ u ∈ g.drop (atT t g), aheadT t u = true := by
      intro u hu
      rcases Nat.lt_or_ge (atT t g) g.length with h | h
      · have e : g[atT t g]? = some g[atT t g] := List.getElem?_eq_getElem h
        have hv : aheadT t g[atT t g] = true := by
          cases hq : aheadT t g[atT t g]
          · exact absurd (by rw [e, aheadT_one (atT_stop e) hq]) hn
          · rfl
        rw [List.drop_eq_getElem_cons h] at hu p2
        rcases List.mem_cons.1 hu with rfl | hu
        · exact hv
        · exact aheadT_trans hv ((List.pairwise_cons.1 p2).1 u hu)
      · rw [List.drop_eq_nil_of_le h] at hu
        simp at hu
    refine List.pairwise_append.2 ⟨p1, List.pairwise_cons.2 ⟨q2, p2⟩, fun a ha b hb => ?_⟩
    rcases List.mem_cons.1 hb with rfl | hb
    · exact q1 a ha
    · exact p3 a ha b hb
theorem putT_ok {g : List Tri3} {t : Tri3} (hg : ∀ u ∈ g, okT u = true) (ht : okT t = true) : ∀ u ∈ putT g t, okT u = true := by
  intro u hu
  rcases putT_mem.1 hu with rfl | hu
  · exact ht
  · exact hg u hu
/-- Triples in order, without one. -/
def lessT (g : List Tri3) (t : Tri3) : List Tri3 := g.filter (fun u => decide (u ≠ t))
theorem lessT_mem {g : List Tri3} {t u : Tri3} : u ∈ lessT g t ↔ u ≠ t ∧ u ∈ g := by
  unfold lessT
  rw [List.mem_filter, decide_eq_true_eq]
  exact ⟨fun h => ⟨h.2, h.1⟩, fun h => ⟨h.2, h.1⟩⟩
theorem lessT_rising {g : List Tri3} {t : Tri3} (h : Rising g) : Rising (lessT g t) := List.Pairwise.filter _ h
/-- Both, in order. -/
def unionT (a b : List Tri3) : List Tri3 := b.foldl putT a
/-- In order, as the library's sort leaves them. -/
def sortT (ts : List Tri3) : List Tri3 := ts.mergeSort (fun x y => !aheadT y x)
theorem sortT_perm (ts : List Tri3) : (sortT ts).Perm ts := List.mergeSort_perm _ _
theorem sortT_len (ts : List Tri3) : (sortT ts).length = ts.length := (sortT_perm ts).length_eq
end Go.Proofs.YtiajdnhmjdfeeaaGreat
namespace Go.Proofs.YtiajdnhmjdfeeaaGreat
open Go.Maps
def strT (t : Tri3) : Value := .agg #[.string t.1, .string t.2.1, .string t.2.2]
def litT (t : Tri3) : Lit := .string (keyBytes [.string t.1.data.toList, .string t.2.1.data.toList, .string t.2.2.data.toList])
def SmK (t : Tri3) : Prop := t.1.size ≤ maxLen ∧ t.2.1.size ≤ maxLen ∧ t.2.2.size ≤ maxLen
instance memT (t : Tri3) (ts : List Tri3) : Decidable (t ∈ ts) := decidable_of_iff (∃ u, u ∈ ts ∧ u = t) ⟨fun ⟨_, h, e⟩ => e ▸ h, fun h => ⟨t, h, rfl⟩⟩
theorem strT_inj {t u : Tri3} (h : strT t = strT u) : t = u := by
  obtain ⟨a, b, c⟩ := t
  obtain ⟨x, y, z⟩ := u
  simp only [strT, Value.agg.injEq, Array.mk.injEq, List.cons.injEq, Value.string.injEq, and_true] at h
  obtain ⟨h1, h2, h3⟩ := h
  rw [h1, h2, h3]
section
variable {P : Program}
theorem keyLits_str {e : TypeId} (he : P.underlying e = some .string) (d : Nat) {s : ByteArray} (hs : s.size ≤ maxLen) : P.keyLits (d + 1) e [.string s] = some [.string s.data.toList] := by
  simp [Program.keyLits, he, hs]
theorem keyLits_str_inv {e : TypeId} (he : P.underlying e = some .string) (d : Nat) {x : Value} {ls : List Lit} (h : P.keyLits (d + 1) e [x] = some ls) : ∃ s : ByteArray, x = .string s ∧ s.size ≤ maxLen ∧ ls = [.string s.data.toList] := by
  cases x <;> simp [Program.keyLits, he] at h
  rename_i s
  exact ⟨s, rfl, h.1, h.2.symm⟩
/-- Three fields, a text each. -/
structure TriKey (P : Program) (k : TypeId) (f0 f1 f2 : Field) : Prop where
  row : P.underlying k = some (.struct #[f0, f1, f2])
  key : P.keyType k = true
  cells : P.cellsOf k = 3
  types : ∃ n, P.types.size = n + 1
  names : (#[f0, f1, f2] : Array Field).all (·.name != "_") = true
  u0 : P.underlying f0.type = some .string
  u1 : P.underlying f1.type = some .string
  u2 : P.underlying f2.type = some .string
  o0 : f0.offset = 0
  o1 : f1.offset = 1
  o2 : f2.offset = 2
  c0 : P.cellsOf f0.type = 1
  c1 : P.cellsOf f1.type = 1
  c2 : P.cellsOf f2.type = 1
variable {k : TypeId} {f0 f1 f2 : Field}
theorem TriKey.lits (S : TriKey P k f0 f1 f2) (x y z : Value) : P.keyLits (P.types.size + 1) k [x, y, z] =
    ((P.keyLits P.types.size f0.type [x]).bind fun a => (P.keyLits P.types.size f1.type [y]).bind fun b => (P.keyLits P.types.size f2.type [z]).bind fun c => some [a, b, c]).map List.flatten := by
  have hn := S.names
  conv => lhs; unfold Program.keyLits
  rw [S.row]
  simp only
  rw [if_pos ⟨by rw [S.cells]; rfl, hn⟩]
  congr 1
  simp only [List.mapM_cons, List.mapM_nil, S.o0, S.o1, S.o2, S.c0, S.c1, S.c2, List.drop_zero, List.drop_succ_cons, List.take_succ_cons, List.take_zero, Option.bind_eq_bind, Option.pure_def, Option.bind_assoc, Option.bind_some]
theorem TriKey.of (S : TriKey P k f0 f1 f2) {t : Tri3} (h : SmK t) : keyOf P k (strT t) = some (litT t) := by
  obtain ⟨n, hn⟩ := S.types
  have L := S.lits (.string t.1) (.string t.2.1) (.string t.2.2)
  rw [hn, keyLits_str S.u0 n h.1, keyLits_str S.u1 n h.2.1, keyLits_str S.u2 n h.2.2] at L
  unfold keyOf strT
  rw [S.row]
  simp only
  rw [S.key, if_pos (by simp [Value.formed, S.row, S.cells])]
  rw [hn]
  show Option.map _ (P.keyLits (n + 1 + 1) k [Value.string t.1, .string t.2.1, .string t.2.2]) = _
  rw [L]
  rfl
theorem TriKey.inv (S : TriKey P k f0 f1 f2) {v : Value} {kl : Lit} (h : keyOf P k v = some kl) : ∃ t, v = strT t ∧ SmK t ∧ kl = litT t := by
  obtain ⟨n, hn⟩ := S.types
  have h0 := h
  unfold keyOf at h
  rw [S.row] at h
  simp only at h
  split at h
  · rename_i hf
    rw [S.key, Bool.true_and] at hf
    cases v <;> simp [Value.formed, S.row] at hf
    rename_i cs
    rw [S.cells] at hf
    obtain ⟨l⟩ := cs
    match l, hf with
    | [x, y, z], _ =>
      have L := S.lits x y z
      rw [hn] at L h
      change Option.map _ (P.keyLits (n + 1 + 1) k [x, y, z]) = _ at h
      rw [L] at h
      cases e0 : P.keyLits (n + 1) f0.type [x] with
      | none => rw [e0] at h; simp at h
      | some a =>
        cases e1 : P.keyLits (n + 1) f1.type [y] with
        | none => rw [e0, e1] at h; simp at h
        | some b =>
          cases e2 : P.keyLits (n + 1) f2.type [z] with
          | none => rw [e0, e1, e2] at h; simp at h
          | some c =>
            obtain ⟨s, rfl, hs, _⟩ := keyLits_str_inv S.u0 n e0
            obtain ⟨p, rfl, hp, _⟩ := keyLits_str_inv S.u1 n e1
            obtain ⟨o, rfl, ho, _⟩ := keyLits_str_inv S.u2 n e2
            have hk := S.of (t := (s, p, o)) ⟨hs, hp, ho⟩
            refine ⟨(s, p, o), rfl, ⟨hs, hp, ho⟩, ?_⟩
            rw [show strT (s, p, o) = Value.agg { toList := [.string s, .string p, .string o] } from rfl, h0] at hk
            exact Option.some.inj hk
  · cases h
theorem TriKey.inj (S : TriKey P k f0 f1 f2) (K : Keyed P k) {t u : Tri3} (ht : SmK t) (hu : SmK u) (h : litT t = litT u) : t = u :=
  strT_inj (K.inj (S.of ht) (by rw [h]; exact S.of hu))
end
theorem litT_key (t : Tri3) : WideAt.IsKeyLit (litT t) := trivial
/-- A map's datum is just this list of triples, each true. -/
structure SetOf {H : Type} (D : DataW H) (ts : List Tri3) : Prop where
  nodup : ts.Nodup
  small : ∀ t ∈ ts, SmK t
  has : ∀ kl, Maps.has D kl = true ↔ ∃ t ∈ ts, kl = litT t
  size : Maps.size D = ts.length
  val : ∀ t ∈ ts, ∀ z, D.atKey (litT t) z = .lit (.bool true)
/-- One more, where it is not there. -/
def addT (ts : List Tri3) (t : Tri3) : List Tri3 := if t ∈ ts then ts else ts ++ [t]
theorem addT_mem {ts : List Tri3} {t u : Tri3} : u ∈ addT ts t ↔ u ∈ ts ∨ u = t := by
  unfold addT
  split
  · exact ⟨.inl, fun h => by rcases h with h | rfl <;> assumption⟩
  · simp
/-- All of them, one by one. -/
def addAll (ts us : List Tri3) : List Tri3 := us.foldl addT ts
section
variable {H : Type} {P : Program} {k : TypeId} {f0 f1 f2 : Field} {D : DataW H} {ts : List Tri3}
theorem SetOf.empty : SetOf (.map [] : DataW H) [] := ⟨List.nodup_nil, by simp, fun kl => by simp [has_eq], rfl, by simp⟩
theorem SetOf.mem (S : TriKey P k f0 f1 f2) (K : Keyed P k) (h : SetOf D ts) {t : Tri3} (ht : SmK t) : Maps.has D (litT t) = decide (t ∈ ts) := by
  rw [Bool.eq_iff_iff, h.has, decide_eq_true_eq]
  exact ⟨fun ⟨u, hu, e⟩ => by rw [S.inj K ht (h.small u hu) e]; exact hu, fun g => ⟨t, g, rfl⟩⟩
theorem SetOf.put (S : TriKey P k f0 f1 f2) (K : Keyed P k) (h : SetOf D ts) (hT : Tidy D) {t : Tri3} (ht : SmK t) : SetOf (D.put (litT t) (.lit (.bool true))) (addT ts t) := by
  have hm := h.mem S K ht
  have hhas : ∀ kl, Maps.has (D.put (litT t) (.lit (.bool true))) kl = true ↔ ∃ u ∈ addT ts t, kl = litT u := by
    intro kl
    by_cases e : kl = litT t
    · subst e
      exact ⟨fun _ => ⟨t, addT_mem.2 (.inr rfl), rfl⟩, fun _ => has_put_same hT.isMap (litT_key t) _⟩
    · rw [has_put_other e, h.has]
      exact ⟨fun ⟨u, hu, hk⟩ => ⟨u, addT_mem.2 (.inl hu), hk⟩, fun ⟨u, hu, hk⟩ => by
        rcases addT_mem.1 hu with hu | rfl
        · exact ⟨u, hu, hk⟩
        · exact absurd hk e⟩
  have hval : ∀ u ∈ addT ts t, ∀ z, (D.put (litT t) (.lit (.bool true))).atKey (litT u) z = .lit (.bool true) := by
    intro u hu z
    by_cases e : litT u = litT t
    · rw [e]; exact atKey_put_same hT.isMap (litT_key t) _ _
    · rw [atKey_put_other e]
      rcases addT_mem.1 hu with hu | rfl
      · exact h.val u hu z
      · exact absurd rfl e
  have hsm : ∀ u ∈ addT ts t, SmK u := by
    intro u hu
    rcases addT_mem.1 hu with hu | rfl
    · exact h.small u hu
    · exact ht
  refine ⟨?_, hsm, hhas, ?_, hval⟩
  · unfold addT
    split
    · exact h.nodup
    · rename_i hn
      exact List.nodup_append.2 ⟨h.nodup, by simp, fun a ha b hb => by simp at hb; subst hb; exact fun e => hn (e ▸ ha)⟩
  · rw [size_put hT, hm]
    unfold addT
    by_cases g : t ∈ ts
    · simp [g, h.size]
    · simp [g, h.size]
/-- What a range over the map has met so far. -/
def CollT (D0 : DataW H) (left : Lit → Bool) (ss : List Tri3) : Prop := ss.Nodup ∧ (∀ t ∈ ss, SmK t) ∧ ∀ t, SmK t → (t ∈ ss ↔ (Maps.has D0 (litT t) = true ∧ left (litT t) = false))
theorem CollT.start (D0 : DataW H) : CollT D0 (Maps.has D0) [] := ⟨List.nodup_nil, by simp, fun t _ => by cases Maps.has D0 (litT t) <;> simp⟩
theorem CollT.step (S : TriKey P k f0 f1 f2) (K : Keyed P k) {left : Lit → Bool} {ss : List Tri3} {D0 : DataW H} (h : CollT D0 left ss) {x : Tri3} {y : DataW H} (hx : SmK x) (hlk : left (litT x) = true) (hat : ∀ zd, D0.atKey (litT x) zd = y) :
    CollT D0 (fun z => left z && !z.sameKey (litT x)) (ss ++ [x]) := by
  have hhas : Maps.has D0 (litT x) = true := has_true_of_atKey hat
  have hnew : x ∉ ss := fun g => by have := ((h.2.2 x hx).1 g).2; rw [hlk] at this; cases this
  refine ⟨List.nodup_append.2 ⟨h.1, by simp, fun a ha b hb => by simp at hb; subst hb; exact fun e => hnew (e ▸ ha)⟩, fun t ht => ?_, fun t ht => ?_⟩
  · rcases List.mem_append.1 ht with ht | ht
    · exact h.2.1 t ht
    · obtain rfl : t = x := by simpa using ht
      exact hx
  · by_cases e : t = x
    · subst e
      simp [hhas, WideAt.sameKey_self (litT_key t)]
    · have hne : litT t ≠ litT x := fun g => e (S.inj K ht hx g)
      simp [h.2.2 t ht, e, sameKey_ne hne]
theorem CollT.perm (S : TriKey P k f0 f1 f2) (K : Keyed P k) {left : Lit → Bool} {ss : List Tri3} (hD : SetOf D ts) (h : CollT D left ss) (hl : ∀ kl, left kl = false) : ss.Perm ts :=
  (List.perm_ext_iff_of_nodup h.1 hD.nodup).2 fun t => by
    constructor
    · intro g
      have hs := h.2.1 t g
      have := ((h.2.2 t hs).1 g).1
      rw [hD.mem S K hs, decide_eq_true_eq] at this
      exact this
    · intro g
      have hs := hD.small t g
      refine (h.2.2 t hs).2 ⟨?_, hl _⟩
      rw [hD.mem S K hs, decide_eq_true_eq]
      exact g
end
def withT (g : List Tri3) (t : Tri3) : Option (List Tri3) := if graphOk g = true ∧ okT t = true ∧ (putT g t).length ≤ 80 then some (putT g t) else none
def withoutT (g : List Tri3) (t : Tri3) : Option (List Tri3) := if graphOk g = true ∧ t ∈ g then some (lessT g t) else none
def unionO (a b : List Tri3) : Option (List Tri3) := if graphOk a = true ∧ graphOk b = true ∧ (unionT a b).length ≤ 80 then some (unionT a b) else none
theorem graphOk_len {g : List Tri3} (h : graphOk g = true) : g.length ≤ 80 := (graphOk_iff.1 h).1
theorem graphOk_okT {g : List Tri3} (h : graphOk g = true) : ∀ t ∈ g, okT t = true := (graphOk_iff.1 h).2.1
theorem graphOk_rising {g : List Tri3} (h : graphOk g = true) : Rising g := (graphOk_iff.1 h).2.2
theorem lessT_len (g : List Tri3) (t : Tri3) : (lessT g t).length ≤ g.length := List.length_filter_le _ _
theorem lessT_ok {g : List Tri3} {t : Tri3} (h : graphOk g = true) : graphOk (lessT g t) = true :=
  graphOk_iff.2 ⟨Nat.le_trans (lessT_len g t) (graphOk_len h), fun u hu => graphOk_okT h u (lessT_mem.1 hu).2, lessT_rising (graphOk_rising h)⟩
theorem putT_graphOk {g : List Tri3} {t : Tri3} (h : graphOk g = true) (ht : okT t = true) (hl : (putT g t).length ≤ 80) : graphOk (putT g t) = true :=
  graphOk_iff.2 ⟨hl, putT_ok (graphOk_okT h) ht, putT_rising (graphOk_rising h)⟩
theorem withT_some {g h : List Tri3} {t : Tri3} (e : withT g t = some h) : graphOk g = true ∧ okT t = true ∧ h = putT g t ∧ graphOk h = true := by
  unfold withT at e
  split at e
  · rename_i c
    obtain rfl := Option.some.inj e
    exact ⟨c.1, c.2.1, rfl, putT_graphOk c.1 c.2.1 c.2.2⟩
  · cases e
theorem withoutT_some {g h : List Tri3} {t : Tri3} (e : withoutT g t = some h) : graphOk g = true ∧ t ∈ g ∧ h = lessT g t ∧ graphOk h = true := by
  unfold withoutT at e
  split at e
  · rename_i c
    obtain rfl := Option.some.inj e
    exact ⟨c.1, c.2, rfl, lessT_ok c.1⟩
  · cases e
end Go.Proofs.YtiajdnhmjdfeeaaGreat
namespace Go.Proofs.YtiajdnhmjdfeeaaGreat
open Go.RowKit Go.Sort Go.Shelf
/-- Draws and new blocks alone, written out. -/
def GrowsD (w w' : World) : Prop := ∃ q os, w' = grow (w.drewN q) os
theorem GrowsD.refl (w : World) : GrowsD w w := ⟨0, #[], by rw [grow_empty]; rfl⟩
theorem GrowsD.trans {a b c : World} (h : GrowsD a b) (g : GrowsD b c) : GrowsD a c := by
  obtain ⟨q, os, rfl⟩ := h
  obtain ⟨r, os', rfl⟩ := g
  exact ⟨q + r, os ++ os', by rw [← grow_grow]; simp only [World.drewN, grow]; simp [Nat.add_assoc]⟩
theorem GrowsD.drew {a b : World} (h : GrowsD a b) : GrowsD a b.drew := h.trans ⟨1, #[], by rw [grow_empty]; rfl⟩
theorem GrowsD.drewN {a b : World} (h : GrowsD a b) (n : Nat) : GrowsD a (b.drewN n) := h.trans ⟨n, #[], by rw [grow_empty]⟩
theorem GrowsD.alloc {a b : World} (h : GrowsD a b) (o : Obj) : GrowsD a (b.alloc o) := h.trans ⟨0, #[o], by rw [alloc_eq_grow]; rfl⟩
theorem GrowsD.below {w w' : World} (h : GrowsD w w') : Below w.heap.size w w' := by
  obtain ⟨q, os, rfl⟩ := h
  refine ⟨rfl, rfl, rfl, by simp, fun k hk => ?_⟩
  simp [grow, World.drewN, Array.getElem?_append_left hk]
def cmpT (x y : Tri3) : Int := if aheadT x y = true then -1 else if aheadT y x = true then 1 else 0
set_option maxRecDepth 100000 in
theorem implAheadG (x y : Tri3) (w : World) :
    Calls Tryz.prog 116 #[.agg #[.string x.1, .string x.2.1, .string x.2.2], .agg #[.string y.1, .string y.2.1, .string y.2.2]] w fun e w' => e = .returned (.bool (aheadT x y)) ∧ GrowsD w w' := by
  obtain ⟨s, p, o⟩ := x
  obtain ⟨s', p', o'⟩ := y
  by_cases h1 : s = s'
  · by_cases h2 : p = p'
    · have e1 : (s.toList == s'.toList) = true := by rw [h1]; simp
      have e2 : (p.toList == p'.toList) = true := by rw [h2]; simp
      have HR : Hid (aheadT (s, p, o) (s', p', o') = Op.bytesLess o.toList o'.toList) := Lib.hid (by
        unfold aheadT aheadL; rw [if_pos (by rw [h1]), if_pos (by rw [h2]), ByteArray.toList_eq, ByteArray.toList_eq])
      clear h1 h2
      go_enter Tryz.func116, Tryz.ntmps116
      go_wp2_with fail
      go_ret
      exact ⟨by rw [HR.out]; rfl, ((GrowsD.refl _).alloc _).alloc _⟩
    · have e1 : (s.toList == s'.toList) = true := by rw [h1]; simp
      have e2 : (p.toList == p'.toList) = false := by rw [beq_eq_false_iff_ne, ByteArray.toList_eq, ByteArray.toList_eq]; exact fun h => h2 (data_inj h)
      have HR : Hid (aheadT (s, p, o) (s', p', o') = Op.bytesLess p.toList p'.toList) := Lib.hid (by
        unfold aheadT aheadL; rw [if_pos (by rw [h1]), if_neg (fun h => h2 (data_inj h)), ByteArray.toList_eq, ByteArray.toList_eq])
      clear h1 h2
      go_enter Tryz.func116, Tryz.ntmps116
      go_wp2_with fail
      go_ret
      exact ⟨by rw [HR.out]; rfl, ((GrowsD.refl _).alloc _).alloc _⟩
  · have e1 : (s.toList == s'.toList) = false := by rw [beq_eq_false_iff_ne, ByteArray.toList_eq, ByteArray.toList_eq]; exact fun h => h1 (data_inj h)
    have HR : Hid (aheadT (s, p, o) (s', p', o') = Op.bytesLess s.toList s'.toList) := Lib.hid (by
      unfold aheadT aheadL; rw [if_neg (fun h => h1 (data_inj h)), ByteArray.toList_eq, ByteArray.toList_eq])
    clear h1
    go_enter Tryz.func116, Tryz.ntmps116
    go_wp2_with fail
    go_ret
    exact ⟨by rw [HR.out]; rfl, ((GrowsD.refl _).alloc _).alloc _⟩
set_option maxRecDepth 100000 in
theorem implCompare (x y : Tri3) (w : World) :
    Calls Tryz.prog 172 #[.agg #[.string x.1, .string x.2.1, .string x.2.2], .agg #[.string y.1, .string y.2.1, .string y.2.2]] w fun e w' => e = .returned (.int .i64 (cmpT x y)) ∧ GrowsD w w' := by
  have A1 := implAheadG x y
  have A2 := implAheadG y x
  cases h1 : aheadT x y
  · cases h2 : aheadT y x
    · have HR : Hid (cmpT x y = 0) := Lib.hid (by unfold cmpT; rw [h1, h2]; rfl)
      rw [h1] at A1
      rw [h2] at A2
      have C1 := Lib.hid A1
      have C2 := Lib.hid A2
      clear A1 A2 h1 h2
      go_enter Tryz.func172, Tryz.ntmps172
      go_wp2_with fail
      refine (C1.out _).mono ?_
      rintro e w1 ⟨rfl, g1⟩
      have X1 := ((Box.new w (.string x.1) (.string x.2.1) (.string x.2.2) 65).alloc (.cells #[.string y.1, .string y.2.1, .string y.2.2] 65)).next g1.below
      have Y1 := (Box.new (w.alloc (.cells #[.string x.1, .string x.2.1, .string x.2.2] 65)) (.string y.1) (.string y.2.1) (.string y.2.2) 65).next g1.below
      rw [World.size_alloc] at Y1
      obtain ⟨a0, a1, a2⟩ := X1.cells
      obtain ⟨b0, b1, b2⟩ := Y1.cells
      have G1 := ((GrowsD.refl w).alloc (.cells #[.string x.1, .string x.2.1, .string x.2.2] 65)).alloc (.cells #[.string y.1, .string y.2.1, .string y.2.2] 65) |>.trans g1
      clear X1 Y1 g1
      go_wp2_with fail
      refine (C2.out _).mono ?_
      rintro e w2 ⟨rfl, g2⟩
      go_wp2_with fail
      go_ret
      exact ⟨by rw [HR.out]; rfl, G1.trans g2⟩
    · have HR : Hid (cmpT x y = 1) := Lib.hid (by unfold cmpT; rw [h1, h2]; rfl)
      rw [h1] at A1
      rw [h2] at A2
      have C1 := Lib.hid A1
      have C2 := Lib.hid A2
      clear A1 A2 h1 h2
      go_enter Tryz.func172, Tryz.ntmps172
      go_wp2_with fail
      refine (C1.out _).mono ?_
      rintro e w1 ⟨rfl, g1⟩
      have X1 := ((Box.new w (.string x.1) (.string x.2.1) (.string x.2.2) 65).alloc (.cells #[.string y.1, .string y.2.1, .string y.2.2] 65)).next g1.below
      have Y1 := (Box.new (w.alloc (.cells #[.string x.1, .string x.2.1, .string x.2.2] 65)) (.string y.1) (.string y.2.1) (.string y.2.2) 65).next g1.below
      rw [World.size_alloc] at Y1
      obtain ⟨a0, a1, a2⟩ := X1.cells
      obtain ⟨b0, b1, b2⟩ := Y1.cells
      have G1 := ((GrowsD.refl w).alloc (.cells #[.string x.1, .string x.2.1, .string x.2.2] 65)).alloc (.cells #[.string y.1, .string y.2.1, .string y.2.2] 65) |>.trans g1
      clear X1 Y1 g1
      go_wp2_with fail
      refine (C2.out _).mono ?_
      rintro e w2 ⟨rfl, g2⟩
      go_wp2_with fail
      go_ret
      exact ⟨by rw [HR.out]; rfl, G1.trans g2⟩
  · have HR : Hid (cmpT x y = -1) := Lib.hid (by unfold cmpT; rw [h1]; rfl)
    rw [h1] at A1
    have C1 := Lib.hid A1
    clear A1 A2 h1
    go_enter Tryz.func172, Tryz.ntmps172
    go_wp2_with fail
    refine (C1.out _).mono ?_
    rintro e w1 ⟨rfl, g1⟩
    go_wp2_with fail
    go_ret
    exact ⟨by rw [HR.out]; rfl, (((GrowsD.refl w).alloc _).alloc _).trans g1⟩
end Go.Proofs.YtiajdnhmjdfeeaaGreat
