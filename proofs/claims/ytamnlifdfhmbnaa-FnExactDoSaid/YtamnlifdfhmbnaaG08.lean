/- Texts that rise, and a map keyed by texts: plain facts. -/
import Derived.Test.YtamnlifdfhmbnaaG07
import Derived.Sort.MapsRangeIn
import Derived.Sort.KeysCollected
import Derived.Test.YtamnlifdfhmbnaaG01
import Derived.Maps.OwnSet
import Derived.StringKeys
import Derived.Test.YtamnlifdfhmbnaaG03
import Derived.Deep.RegionHeld3
import Derived.Deep.RegionWith
namespace Go.Proofs.Ytamnlifdfhmbnaa
open Go.Maps
abbrev Txt := List UInt8
def txts (l : List ByteArray) : List Txt := l.map fun s => s.data.toList
theorem txts_snoc (l : List ByteArray) (x : ByteArray) : txts (l ++ [x]) = txts l ++ [x.data.toList] := by simp [txts]
theorem txts_len (l : List ByteArray) : (txts l).length = l.length := by simp [txts]
def lessS (a b : Txt) : Bool := Op.bytesLess a b
theorem lessS_one : ∀ {a b : Txt}, lessS a b = false → lessS b a = false → a = b := by
  intro a b h g
  rcases cmp_cases a b with ⟨_, h'⟩ | ⟨_, h'⟩ | ⟨_, h'⟩
  · unfold lessS at h; rw [h] at h'; cases h'
  · exact h'
  · unfold lessS at g; rw [g] at h'; cases h'
theorem lessS_irrefl (a : Txt) : lessS a a = false := ltb_irrefl a
theorem lessS_trans {a b c : Txt} (h : lessS a b = true) (g : lessS b c = true) : lessS a c = true := ltb_trans a b c h g
theorem lessS_asymm {a b : Txt} (h : lessS a b = true) : lessS b a = false := ltb_asymm a b h
theorem lessS_ne {a b : Txt} (h : lessS a b = true) : a ≠ b := ltb_ne h
theorem bytesLess_lt : ∀ a b : Txt, Op.bytesLess a b = decide (a < b)
  | [], [] => by simp [Op.bytesLess]
  | [], _ :: _ => by simp [Op.bytesLess]
  | _ :: _, [] => by simp [Op.bytesLess]
  | x :: r, y :: q => by
    rw [Bool.eq_iff_iff]
    simp only [Op.bytesLess, bytesLess_lt r q, Bool.or_eq_true, Bool.and_eq_true, decide_eq_true_eq, beq_iff_eq, List.cons_lt_cons_iff]
theorem leB_less (a b : Txt) : leB a b = !lessS b a := by
  unfold lessS
  rw [bytesLess_lt, Bool.eq_iff_iff]
  simp only [leB, decide_eq_true_eq, Bool.not_eq_true', decide_eq_false_iff_not]
  exact List.not_lt.symm
def RisingS (l : List Txt) : Prop := l.Pairwise (fun a b => lessS a b = true)
theorem RisingS.nodup {l : List Txt} (h : RisingS l) : l.Nodup := List.Pairwise.imp (fun h => lessS_ne h) h
theorem eq_of_risingS {a b : List Txt} (ha : RisingS a) (hb : RisingS b) (hm : ∀ t, t ∈ a ↔ t ∈ b) : a = b :=
  List.Perm.eq_of_pairwise (le := fun x y => lessS x y = true) (fun x y _ _ h1 h2 => by rw [lessS_asymm h1] at h2; cases h2) ha hb ((List.perm_ext_iff_of_nodup ha.nodup hb.nodup).2 hm)
theorem mergeSort_rising {l : List Txt} (hn : l.Nodup) : RisingS (l.mergeSort leB) := by
  have tr : ∀ a b c : List UInt8, leB a b = true → leB b c = true → leB a c = true := fun a b c h1 h2 => by simp only [leB, decide_eq_true_eq] at *; exact List.le_trans h1 h2
  have to : ∀ a b : List UInt8, (leB a b || leB b a) = true := fun a b => by simp only [leB, Bool.or_eq_true, decide_eq_true_eq]; exact List.le_total a b
  have hs := List.pairwise_mergeSort tr to l
  have hn' : (l.mergeSort leB).Nodup := (List.mergeSort_perm l leB).nodup_iff.2 hn
  refine List.Pairwise.imp₂ (fun a b h1 h2 => ?_) hs hn'
  rw [leB_less, Bool.not_eq_true'] at h1
  cases g : lessS a b
  · exact absurd (lessS_one g h1) h2
  · rfl
theorem mergeSort_is {l g : List Txt} (hn : l.Nodup) (hg : RisingS g) (hm : ∀ u, u ∈ l ↔ u ∈ g) : l.mergeSort leB = g :=
  eq_of_risingS (mergeSort_rising hn) hg (fun u => by rw [(List.mergeSort_perm l leB).mem_iff]; exact hm u)
/-- How many are less than t, from the front on. -/
def atS (t : Txt) : List Txt → Nat
  | [] => 0
  | u :: r => if lessS u t = true then atS t r + 1 else 0
theorem atS_le (t : Txt) : ∀ g : List Txt, atS t g ≤ g.length
  | [] => Nat.le_refl _
  | u :: r => by unfold atS; have := atS_le t r; split <;> simp <;> omega
theorem atS_ahead {t u : Txt} : ∀ {g : List Txt} {i : Nat}, i < atS t g → g[i]? = some u → lessS u t = true
  | [], i, h, _ => by simp [atS] at h
  | v :: r, i, h, hu => by
    unfold atS at h
    split at h
    · rename_i hv
      cases i with
      | zero => simp at hu; rw [← hu]; exact hv
      | succ i => exact atS_ahead (g := r) (i := i) (by omega) (by simpa using hu)
    · omega
theorem atS_stop {t u : Txt} : ∀ {g : List Txt}, g[atS t g]? = some u → lessS u t = false
  | [], h => by simp at h
  | v :: r, h => by
    unfold atS at h
    split at h
    · exact atS_stop (g := r) (by simpa using h)
    · rename_i hv
      simp at h
      rw [← h]; simpa using hv
theorem atS_is {t : Txt} {g : List Txt} {k : Nat} (h1 : ∀ i u, i < k → g[i]? = some u → lessS u t = true) (hk : k ≤ g.length) (h2 : ∀ u, g[k]? = some u → lessS u t = false) : atS t g = k := by
  rcases Nat.lt_trichotomy (atS t g) k with hh | hh | hh
  · have e : g[atS t g]? = some g[atS t g] := List.getElem?_eq_getElem (by omega)
    have := h1 _ _ hh e
    rw [atS_stop e] at this
    cases this
  · exact hh
  · have hl := atS_le t g
    have e : g[k]? = some g[k] := List.getElem?_eq_getElem (by omega)
    have := h2 _ e
    rw [atS_ahead hh e] at this
    cases this
/-- Texts that rise, with one more. -/
def putS (g : List Txt) (t : Txt) : List Txt := if g[atS t g]? = some t then g else (g.take (atS t g) ++ [t]) ++ g.drop (atS t g)
theorem putS_same {g : List Txt} {t : Txt} {k : Nat} (h : atS t g = k) (hk : g[k]? = some t) : putS g t = g := by unfold putS; rw [if_pos (by rw [h]; exact hk)]
theorem putS_more {g : List Txt} {t : Txt} {k : Nat} (h : atS t g = k) (hk : g[k]? ≠ some t) : putS g t = (g.take k ++ [t]) ++ g.drop k := by unfold putS; rw [if_neg (by rw [h]; exact hk), h]
theorem putS_len (g : List Txt) (t : Txt) : (putS g t).length ≤ g.length + 1 := by
  unfold putS
  split
  · omega
  · have := atS_le t g
    simp only [List.length_append, List.length_take, List.length_cons, List.length_nil, List.length_drop]
    omega
theorem putS_mem {g : List Txt} {t u : Txt} : u ∈ putS g t ↔ u = t ∨ u ∈ g := by
  unfold putS
  split
  · rename_i h
    refine ⟨.inr, fun h' => ?_⟩
    rcases h' with rfl | h'
    · exact List.mem_of_getElem? h
    · exact h'
  · rw [List.mem_append, List.mem_append, List.mem_singleton]
    constructor
    · rintro ((h | h) | h)
      · exact .inr (List.mem_of_mem_take h)
      · exact .inl h
      · exact .inr (List.mem_of_mem_drop h)
    · rintro (h | h)
      · exact .inl (.inr h)
      · have := List.take_append_drop (atS t g) g
        rw [← this] at h
        rcases List.mem_append.1 h with h | h
        · exact .inl (.inl h)
        · exact .inr h
theorem putS_rising {g : List Txt} {t : Txt} (hr : RisingS g) : RisingS (putS g t) := by
  unfold putS
  split
  · exact hr
  · rename_i hn
    have hl := atS_le t g
    have hsplit : RisingS (g.take (atS t g) ++ g.drop (atS t g)) := by rw [List.take_append_drop]; exact hr
    obtain ⟨p1, p2, p3⟩ := List.pairwise_append.1 hsplit
    have q1 : ∀ u ∈ g.take (atS t g), lessS u t = true := by
      intro u hu
      obtain ⟨i, hi⟩ := List.mem_iff_getElem?.1 hu
      have hil := (List.getElem?_eq_some_iff.1 hi).1
      rw [List.length_take] at hil
      rw [List.getElem?_take_of_lt (by omega)] at hi
      exact atS_ahead (by omega) hi
    have q2 : ∀ u ∈ g.drop (atS t g), lessS t u = true := by
      intro u hu
      rcases Nat.lt_or_ge (atS t g) g.length with h | h
      · have e : g[atS t g]? = some g[atS t g] := List.getElem?_eq_getElem h
        have hv : lessS t g[atS t g] = true := by
          cases hq : lessS t g[atS t g]
          · exact absurd (by rw [e, lessS_one (atS_stop e) hq]) hn
          · rfl
        rw [List.drop_eq_getElem_cons h] at hu p2
        rcases List.mem_cons.1 hu with rfl | hu
        · exact hv
        · exact lessS_trans hv ((List.pairwise_cons.1 p2).1 u hu)
      · rw [List.drop_eq_nil_of_le h] at hu
        simp at hu
    rw [List.append_assoc]
    refine List.pairwise_append.2 ⟨p1, List.pairwise_cons.2 ⟨q2, p2⟩, fun a ha b hb => ?_⟩
    rcases List.mem_cons.1 hb with rfl | hb
    · exact q1 a ha
    · exact p3 a ha b hb
def putAllS (g l : List Txt) : List Txt := l.foldl putS g
theorem putAllS_snoc (g l : List Txt) (t : Txt) : putAllS g (l ++ [t]) = putS (putAllS g l) t := by unfold putAllS; rw [List.foldl_append]; rfl
theorem putAllS_mem {u : Txt} : ∀ {b a : List Txt}, u ∈ putAllS a b ↔ u ∈ a ∨ u ∈ b
  | [], a => by simp [putAllS]
  | t :: r, a => by
    show u ∈ putAllS (putS a t) r ↔ _
    rw [putAllS_mem, putS_mem, List.mem_cons]
    constructor
    · rintro ((h | h) | h)
      · exact .inr (.inl h)
      · exact .inl h
      · exact .inr (.inr h)
    · rintro (h | h | h)
      · exact .inl (.inr h)
      · exact .inl (.inl h)
      · exact .inr h
theorem putAllS_rising : ∀ {b a : List Txt}, RisingS a → RisingS (putAllS a b)
  | [], _, h => h
  | t :: r, a, h => putAllS_rising (b := r) (a := putS a t) (putS_rising h)
theorem putAllS_len : ∀ (b a : List Txt), (putAllS a b).length ≤ a.length + b.length
  | [], a => Nat.le_refl _
  | t :: r, a => by
    have h1 := putAllS_len r (putS a t)
    have h2 := putS_len a t
    show (putAllS (putS a t) r).length ≤ _
    rw [List.length_cons]; omega
def litS (t : Txt) : Lit := .string t
theorem litS_key (t : Txt) : WideAt.IsKeyLit (litS t) := trivial
theorem litS_inj {t u : Txt} (h : litS t = litS u) : t = u := by simpa [litS] using h
instance memS (t : Txt) (ts : List Txt) : Decidable (t ∈ ts) := decidable_of_iff (∃ u, u ∈ ts ∧ u = t) ⟨fun ⟨_, h, e⟩ => e ▸ h, fun h => ⟨t, h, rfl⟩⟩
/-- A map's datum is just this list of texts, each true. -/
structure SetOfS {H : Type} (D : DataW H) (ts : List Txt) : Prop where
  nodup : ts.Nodup
  has : ∀ kl, Maps.has D kl = true ↔ ∃ t ∈ ts, kl = litS t
  size : Maps.size D = ts.length
  val : ∀ t ∈ ts, ∀ z, D.atKey (litS t) z = .lit (.bool true)
def addS (ts : List Txt) (t : Txt) : List Txt := if t ∈ ts then ts else ts ++ [t]
theorem addS_mem {ts : List Txt} {t u : Txt} : u ∈ addS ts t ↔ u ∈ ts ∨ u = t := by
  unfold addS
  split
  · exact ⟨.inl, fun h => by rcases h with h | rfl <;> assumption⟩
  · simp
theorem addS_len (ts : List Txt) (t : Txt) : (addS ts t).length ≤ ts.length + 1 := by unfold addS; split <;> simp
def addAllS (ts us : List Txt) : List Txt := us.foldl addS ts
theorem addAllS_snoc (ts us : List Txt) (t : Txt) : addAllS ts (us ++ [t]) = addS (addAllS ts us) t := by unfold addAllS; rw [List.foldl_append]; rfl
theorem addAllS_mem {u : Txt} : ∀ {us ts : List Txt}, u ∈ addAllS ts us ↔ u ∈ ts ∨ u ∈ us
  | [], ts => by simp [addAllS]
  | t :: r, ts => by
    show u ∈ addAllS (addS ts t) r ↔ _
    rw [addAllS_mem, addS_mem, List.mem_cons]
    constructor
    · rintro ((h | h) | h)
      · exact .inl h
      · exact .inr (.inl h)
      · exact .inr (.inr h)
    · rintro (h | h | h)
      · exact .inl (.inl h)
      · exact .inl (.inr h)
      · exact .inr h
theorem addAllS_len : ∀ (us ts : List Txt), (addAllS ts us).length ≤ ts.length + us.length
  | [], ts => Nat.le_refl _
  | t :: r, ts => by
    have h1 := addAllS_len r (addS ts t)
    have h2 := addS_len ts t
    show (addAllS (addS ts t) r).length ≤ _
    rw [List.length_cons]; omega
section
variable {H : Type} {D : DataW H} {ts : List Txt}
theorem SetOfS.empty : SetOfS (.map [] : DataW H) [] := ⟨List.nodup_nil, fun kl => by simp [has_eq], rfl, by simp⟩
theorem SetOfS.mem (h : SetOfS D ts) (t : Txt) : Maps.has D (litS t) = decide (t ∈ ts) := by
  rw [Bool.eq_iff_iff, h.has, decide_eq_true_eq]
  exact ⟨fun ⟨u, hu, e⟩ => by rw [litS_inj e]; exact hu, fun g => ⟨t, g, rfl⟩⟩
theorem SetOfS.put (h : SetOfS D ts) (hT : Tidy D) (t : Txt) : SetOfS (D.put (litS t) (.lit (.bool true))) (addS ts t) := by
  have hm := h.mem t
  have hhas : ∀ kl, Maps.has (D.put (litS t) (.lit (.bool true))) kl = true ↔ ∃ u ∈ addS ts t, kl = litS u := by
    intro kl
    by_cases e : kl = litS t
    · subst e
      exact ⟨fun _ => ⟨t, addS_mem.2 (.inr rfl), rfl⟩, fun _ => has_put_same hT.isMap (litS_key t) _⟩
    · rw [has_put_other e, h.has]
      exact ⟨fun ⟨u, hu, hk⟩ => ⟨u, addS_mem.2 (.inl hu), hk⟩, fun ⟨u, hu, hk⟩ => by
        rcases addS_mem.1 hu with hu | rfl
        · exact ⟨u, hu, hk⟩
        · exact absurd hk e⟩
  have hval : ∀ u ∈ addS ts t, ∀ z, (D.put (litS t) (.lit (.bool true))).atKey (litS u) z = .lit (.bool true) := by
    intro u hu z
    by_cases e : litS u = litS t
    · rw [e]; exact atKey_put_same hT.isMap (litS_key t) _ _
    · rw [atKey_put_other e]
      rcases addS_mem.1 hu with hu | rfl
      · exact h.val u hu z
      · exact absurd rfl e
  refine ⟨?_, hhas, ?_, hval⟩
  · unfold addS
    split
    · exact h.nodup
    · rename_i hn
      exact List.nodup_append.2 ⟨h.nodup, by simp, fun a ha b hb => by simp at hb; subst hb; exact fun e => hn (e ▸ ha)⟩
  · rw [size_put hT, hm]
    unfold addS
    by_cases g : t ∈ ts
    · simp [g, h.size]
    · simp [g, h.size]
theorem SetOfS.look (h : SetOfS D ts) (t : Txt) : D.atKey (litS t) (.lit (.bool false)) = .lit (.bool (decide (t ∈ ts))) := by
  by_cases g : t ∈ ts
  · rw [h.val t g, decide_eq_true g]
  · rw [atKey_of_not_has (by rw [h.mem t, decide_eq_false g]), decide_eq_false g]
end
open Go.RowKit Go.Maps
theorem lawTxt : Keyed Try.prog 9 := string_keyed Try.underlying9
theorem str_enc (s : ByteArray) : Value.string s = encStr s.data.toList := by simp [encStr]
/-- Block b is a map of at most n entries that has just these texts, each true. -/
def OwnSetS (w : World) (b n : Nat) (ts : List Txt) : Prop := ∃ D : DataW Unit, w.ownsMap Try.prog 9 (plainElem (H := Unit) Try.prog 4) b n D ∧ SetOfS D ts
theorem OwnSetS.lt {w : World} {b n : Nat} {ts : List Txt} (h : OwnSetS w b n ts) : b < w.heap.size := by obtain ⟨D, h, _⟩ := h; exact h.lt
theorem OwnSetS.kept {w w' : World} {b n : Nat} {ts : List Txt} {row : Option Nat} (h : OwnSetS w b n ts) (hg : w.grownBy w' row) (hne : some b ≠ row) : OwnSetS w' b n ts := by
  obtain ⟨D, h, hD⟩ := h
  exact ⟨D, h.kept hg hne, hD⟩
theorem OwnSetS.next {w w' : World} {b n : Nat} {ts : List Txt} (h : OwnSetS w b n ts) (hb : Below w.heap.size w w') : OwnSetS w' b n ts := h.kept (grown_of_below hb) (by simp)
theorem OwnSetS.alloc {w : World} {b n : Nat} {ts : List Txt} (h : OwnSetS w b n ts) (o : Obj) : OwnSetS (w.alloc o) b n ts := h.kept (World.grownBy_alloc w o none) (by simp)
theorem OwnSetS.drew {w : World} {b n : Nat} {ts : List Txt} (h : OwnSetS w b n ts) : OwnSetS w.drew b n ts := h
theorem OwnSetS.nodup {w : World} {b n : Nat} {ts : List Txt} (h : OwnSetS w b n ts) : ts.Nodup := by obtain ⟨D, _, h⟩ := h; exact h.nodup
theorem OwnSetS.made (w : World) : OwnSetS (w.alloc (.map #[] 0)) w.heap.size 0 [] := ⟨_, World.ownsMap_made _ _ _ _, SetOfS.empty⟩
theorem OwnSetS.mono {w : World} {b n n' : Nat} {ts : List Txt} (h : OwnSetS w b n ts) (hn : n ≤ n') : OwnSetS w b n' ts := by
  obtain ⟨D, h, hD⟩ := h
  exact ⟨D, h.mono hn, hD⟩
theorem true_elemS : (plainElem (H := Unit) Try.prog 4) (.bool true) = some (.lit (.bool true), []) := plainElem_bool Try.underlying4 true
theorem bool_elem_invS {H : Type} {P : Program} {e : TypeId} (he : P.underlying e = some .bool) {v : Value} {d : DataW H} {ps : List MemPlace} (h : plainElem P e v = some (d, ps)) : ∃ x, v = .bool x ∧ d = .lit (.bool x) := by
  unfold plainElem at h
  rw [he] at h
  cases v <;> simp at h
  rename_i x
  exact ⟨x, rfl, h.1.symm⟩
section
variable (w : World) {ops : Array Oper} {rest : List Oper} {o : Oper} {a : Act} {Q : Exit → Act → World → Prop}
end
end Go.Proofs.Ytamnlifdfhmbnaa
/- A slice of steps of a proof that came in: what its cells hold. -/
namespace Go.Proofs.Ytamnlifdfhmbnaa
open Go.ChangeShapes Go.WideShapes Go.ChangeAt Go.RowKit
/-- A step: its triple, its rule, what it uses. -/
abbrev StepV := Tri3 × Int × List Int
/-- The slice is nil, or its first cells hold these numbers. -/
def IsInts (w : World) (a : Option Addr) (len cap : Nat) (zs : List Int) : Prop :=
  (a = none ∧ len = 0 ∧ cap = 0 ∧ zs = []) ∨
  ∃ x, a = some x ∧ len ≤ cap ∧ cap ≤ maxLen ∧ zs.length = len ∧ ∀ (i : Nat) (z : Int), zs[i]? = some z → w.cell? (x.add i) = some (.int .i64 z)
theorem open_int64s {H : Type} {enc : TypeId × Value → H} {P : Program} {w : World} {base : Nat} {spare : Nat → Bool} {held : Bool} {t e : TypeId} {fuel : Nat} {c : Value} {x : DataW H × List MemPlace}
    (ht : P.underlying t = some (.slice e)) (he : P.underlying e = some (.int .i64)) (hC : P.cellsOf e = 1)
    (h : DataW.trod enc P w base spare held fuel t [c] = some x) : ∃ a len cap zs, c = .slice a len cap ∧ IsInts w a len cap zs := by
  rcases open_ints ht he hC h with ⟨hcs, _⟩ | ⟨y, len, cap, zs, hcs, _, hl, hm, hz, _, hcell, _⟩
  · obtain rfl : c = .slice none 0 0 := by simpa using hcs
    exact ⟨_, _, _, [], rfl, .inl ⟨rfl, rfl, rfl, rfl⟩⟩
  · obtain rfl : c = .slice (some y) len cap := by simpa using hcs
    have hlz : len ≤ zs.length := by rw [hz]; split <;> omega
    refine ⟨_, _, _, zs.take len, rfl, .inr ⟨y, rfl, hl, hm, by rw [List.length_take]; omega, fun i z hi => ?_⟩⟩
    have hil : i < len := by have := (List.getElem?_eq_some_iff.1 hi).1; rw [List.length_take] at this; omega
    rw [List.getElem?_take_of_lt hil] at hi
    have := hcell i (by omega)
    rw [List.getD_eq_getElem?_getD, hi] at this
    exact this
theorem IsInts.len {w : World} {a : Option Addr} {len cap : Nat} {zs : List Int} (h : IsInts w a len cap zs) : zs.length = len := by
  rcases h with ⟨_, rfl, _, rfl⟩ | ⟨x, _, _, _, h, _⟩
  · rfl
  · exact h
theorem IsInts.next {w w' : World} {a : Option Addr} {len cap : Nat} {zs : List Int} (h : IsInts w a len cap zs) (hb : Below w.heap.size w w') : IsInts w' a len cap zs := by
  rcases h with h | ⟨x, rfl, h1, h2, h3, h4⟩
  · exact .inl h
  · exact .inr ⟨x, rfl, h1, h2, h3, fun i z hi => (grown_of_below hb).cell (h4 i z hi) (by simp)⟩
theorem IsInts.cells {w : World} {a : Option Addr} {len cap : Nat} {zs : List Int} (h : IsInts w a len cap zs) (h0 : 0 < len) : ∃ b off, a = some ⟨b, off, none⟩ ∧ b < w.heap.size ∧ len ≤ cap ∧ cap ≤ maxLen ∧ zs.length = len ∧
    ∀ (i : Nat) (z : Int), zs[i]? = some z → w.cell? ⟨b, off + i, none⟩ = some (.int .i64 z) := by
  rcases h with ⟨_, rfl, _⟩ | ⟨x, rfl, h1, h2, h3, h4⟩
  · omega
  · obtain ⟨b, off, spot⟩ := x
    have ht : zs[0]? = some zs[0] := List.getElem?_eq_getElem (by omega)
    have hc := h4 0 _ ht
    obtain rfl : spot = none := by simpa [Addr.add] using World.cell?_spot hc
    exact ⟨b, off, rfl, by have := World.block_lt_of_cell? _ _ hc; simpa [Addr.add] using this, h1, h2, h3, fun i z hi => by have := h4 i z hi; rwa [add_plain] at this⟩
theorem open_int_one {H : Type} {enc : TypeId × Value → H} {P : Program} {w : World} {base : Nat} {spare : Nat → Bool} {held : Bool} {t : TypeId} {fuel : Nat} {v : Value} {x : DataW H × List MemPlace}
    (ht : P.underlying t = some (.int .i64)) (h : DataW.trod enc P w base spare held fuel t [v] = some x) : ∃ r, v = .int .i64 r := by
  obtain ⟨r, e, _⟩ := DataW.trod_int ht h
  simp only [List.cons.injEq, and_true] at e
  exact ⟨r, e⟩
def StepAt (w : World) (x : Addr) (i : Nat) (t : StepV) : Prop :=
  w.cell? (x.add (5 * i)) = some (.string t.1.1) ∧ w.cell? (x.add (5 * i + 1)) = some (.string t.1.2.1) ∧ w.cell? (x.add (5 * i + 2)) = some (.string t.1.2.2) ∧ w.cell? (x.add (5 * i + 3)) = some (.int .i64 t.2.1) ∧
  (∃ a n c, w.cell? (x.add (5 * i + 4)) = some (.slice a n c) ∧ IsInts w a n c t.2.2) ∧ t.1.1.size ≤ maxLen ∧ t.1.2.1.size ≤ maxLen ∧ t.1.2.2.size ≤ maxLen
/-- The slice is nil, or its cells hold these steps. -/
def IsSteps (w : World) (a : Option Addr) (len cap : Nat) (ts : List StepV) : Prop :=
  (a = none ∧ len = 0 ∧ cap = 0 ∧ ts = []) ∨
  ∃ x, a = some x ∧ len ≤ cap ∧ cap ≤ maxLen ∧ ts.length = len ∧ ∀ (i : Nat) (t : StepV), ts[i]? = some t → StepAt w x i t
theorem open_steps {H : Type} {enc : TypeId × Value → H} {P : Program} {w : World} {base : Nat} {spare : Nat → Bool} {held : Bool} {t e tT tI tS : TypeId} {g0 g1 g2 f0 f1 f2 : Field} {fuel : Nat} {a : Option Addr} {len cap : Nat} {x : DataW H × List MemPlace}
    (ht : P.underlying t = some (.slice e)) (he : P.underlying e = some (.struct #[g0, g1, g2])) (hC : P.cellsOf e = 5)
    (hg0 : g0.type = tT ∧ g0.offset = 0 ∧ P.cellsOf tT = 3) (hg1 : P.underlying g1.type = some (.int .i64) ∧ g1.offset = 3 ∧ P.cellsOf g1.type = 1) (hg2 : g2.type = tS ∧ g2.offset = 4 ∧ P.cellsOf tS = 1)
    (hT : P.underlying tT = some (.struct #[f0, f1, f2])) (hS : P.underlying tS = some (.slice tI)) (hI : P.underlying tI = some (.int .i64)) (cI : P.cellsOf tI = 1)
    (h0 : P.underlying f0.type = some .string ∧ f0.offset = 0 ∧ P.cellsOf f0.type = 1) (h1 : P.underlying f1.type = some .string ∧ f1.offset = 1 ∧ P.cellsOf f1.type = 1) (h2 : P.underlying f2.type = some .string ∧ f2.offset = 2 ∧ P.cellsOf f2.type = 1)
    (h : DataW.trod enc P w base spare held fuel t [.slice a len cap] = some x) : ∃ ts, IsSteps w a len cap ts := by
  rcases Deep.open_slice ht h with ⟨hcs, _⟩ | ⟨x, len', cap', m, n, D, Pl, hcs, _, hl, hm, hmm, _, hi⟩
  · simp only [List.cons.injEq, Value.slice.injEq, and_true] at hcs
    exact ⟨[], .inl ⟨hcs.1, hcs.2.1, hcs.2.2, rfl⟩⟩
  · simp only [List.cons.injEq, Value.slice.injEq, and_true] at hcs
    obtain ⟨rfl, rfl, rfl⟩ := hcs
    have hlm : len ≤ m := by rw [hmm]; split <;> omega
    obtain ⟨ts, hts, hq⟩ := list_of (Q := StepAt w x) len fun i hil => by
      obtain ⟨cs, hc, htr⟩ := hi i (by omega)
      rw [hC] at hc
      obtain ⟨_, hcl, hat⟩ := World.cells?_some hc
      obtain ⟨y0, y1, y2, n', _, _, k0, k1, k2⟩ := Deep.trod_struct3 he htr
      rw [hg0.1, hg0.2.1, hg0.2.2] at k0
      rw [hg1.2.1, hg1.2.2] at k1
      rw [hg2.1, hg2.2.1, hg2.2.2] at k2
      obtain ⟨z0, z1, z2, n2, _, _, j0, j1, j2⟩ := Deep.trod_struct3 hT k0
      rw [h0.2.1, h0.2.2] at j0
      rw [h1.2.1, h1.2.2] at j1
      rw [h2.2.1, h2.2.2] at j2
      match cs, hcl with
      | [v0, v1, v2, v3, v4], _ =>
        simp only [List.drop_succ_cons, List.drop_zero, List.take_succ_cons, List.take_zero] at j0 j1 j2 k1 k2
        obtain ⟨s, e0, _, w0⟩ := DataW.trod_string h0.1 j0
        obtain ⟨p, e1, _, w1⟩ := DataW.trod_string h1.1 j1
        obtain ⟨o, e2, _, w2⟩ := DataW.trod_string h2.1 j2
        obtain ⟨r, e3⟩ : ∃ r, v3 = .int .i64 r := open_int_one hg1.1 k1
        obtain ⟨a', n3, c', zs, e4, hz⟩ := open_int64s hS hI cI k2
        simp only [List.cons.injEq, and_true] at e0 e1 e2
        subst e0 e1 e2 e3 e4
        have ha : ∀ j, j < 5 → w.cell? (x.add (5 * i + j)) = [Value.string s, .string p, .string o, .int .i64 r, .slice a' n3 c'][j]? := by
          intro j hj
          rw [← hat j hj, Deep.add_add, Nat.mul_comm]
        exact ⟨((s, p, o), r, zs), (ha 0 (by omega)).trans rfl, (ha 1 (by omega)).trans rfl, (ha 2 (by omega)).trans rfl, (ha 3 (by omega)).trans rfl, ⟨a', n3, c', (ha 4 (by omega)).trans rfl, hz⟩, w0, w1, w2⟩
    exact ⟨ts, .inr ⟨x, rfl, hl, hm, hts, hq⟩⟩
theorem IsSteps.len {w : World} {a : Option Addr} {len cap : Nat} {ts : List StepV} (h : IsSteps w a len cap ts) : ts.length = len := by
  rcases h with ⟨_, rfl, _, rfl⟩ | ⟨x, _, _, _, h, _⟩
  · rfl
  · exact h
theorem IsSteps.next {w w' : World} {a : Option Addr} {len cap : Nat} {ts : List StepV} (h : IsSteps w a len cap ts) (hb : Below w.heap.size w w') : IsSteps w' a len cap ts := by
  have hg := grown_of_below hb
  rcases h with h | ⟨x, rfl, h1, h2, h3, h4⟩
  · exact .inl h
  · refine .inr ⟨x, rfl, h1, h2, h3, fun i t hi => ?_⟩
    obtain ⟨c0, c1, c2, c3, ⟨a', n, c, c4, hz⟩, m⟩ := h4 i t hi
    exact ⟨hg.cell c0 (by simp), hg.cell c1 (by simp), hg.cell c2 (by simp), hg.cell c3 (by simp), ⟨a', n, c, hg.cell c4 (by simp), hz.next hb⟩, m⟩
/-- The place of a slice that has an element, and its cells. -/
theorem IsSteps.cells {w : World} {a : Option Addr} {len cap : Nat} {ts : List StepV} (h : IsSteps w a len cap ts) (h0 : 0 < len) : ∃ b off, a = some ⟨b, off, none⟩ ∧ b < w.heap.size ∧ len ≤ cap ∧ cap ≤ maxLen ∧ ts.length = len ∧
    ∀ (i : Nat) (t : StepV), ts[i]? = some t → w.cell? ⟨b, off + i * 5, none⟩ = some (.string t.1.1) ∧ w.cell? ⟨b, off + i * 5 + 1, none⟩ = some (.string t.1.2.1) ∧ w.cell? ⟨b, off + i * 5 + 2, none⟩ = some (.string t.1.2.2) ∧ w.cell? ⟨b, off + i * 5 + 3, none⟩ = some (.int .i64 t.2.1) ∧
      (∃ a n c, w.cell? ⟨b, off + i * 5 + 4, none⟩ = some (.slice a n c) ∧ IsInts w a n c t.2.2) ∧ t.1.1.size ≤ maxLen ∧ t.1.2.1.size ≤ maxLen ∧ t.1.2.2.size ≤ maxLen := by
  rcases h with ⟨_, rfl, _⟩ | ⟨x, rfl, h1, h2, h3, h4⟩
  · omega
  · obtain ⟨b, off, spot⟩ := x
    have ht : ts[0]? = some ts[0] := List.getElem?_eq_getElem (by omega)
    have hc := (h4 0 _ ht).1
    obtain rfl : spot = none := by simpa [Addr.add] using World.cell?_spot hc
    refine ⟨b, off, rfl, by have := World.block_lt_of_cell? _ _ hc; simpa [Addr.add] using this, h1, h2, h3, fun i t hi => ?_⟩
    obtain ⟨c0, c1, c2, c3, ⟨a', n, c, c4, hz⟩, m⟩ := h4 i t hi
    have e : ∀ j, (⟨b, off, none⟩ : Addr).add (5 * i + j) = ⟨b, off + i * 5 + j, none⟩ := fun j => by rw [add_plain, show off + (5 * i + j) = off + i * 5 + j from by omega]
    have e0 : (⟨b, off, none⟩ : Addr).add (5 * i) = ⟨b, off + i * 5, none⟩ := e 0
    rw [e0] at c0
    rw [e] at c1 c2 c3 c4
    exact ⟨c0, c1, c2, c3, ⟨a', n, c, c4, hz⟩, m⟩
theorem IsSteps.small {w : World} {a : Option Addr} {len cap : Nat} {ts : List StepV} (h : IsSteps w a len cap ts) : ∀ t ∈ ts, t.1.1.size ≤ maxLen ∧ t.1.2.1.size ≤ maxLen ∧ t.1.2.2.size ≤ maxLen := by
  intro t ht
  rcases h with ⟨_, _, _, rfl⟩ | ⟨x, rfl, h1, h2, h3, h4⟩
  · simp at ht
  · obtain ⟨i, hi⟩ := List.mem_iff_getElem?.1 ht
    exact (h4 i t hi).2.2.2.2.2
end Go.Proofs.Ytamnlifdfhmbnaa
/- The contracts of the functions that tell whether a graph is right. -/
namespace Go.Proofs.Ytamnlifdfhmbnaa
open Go.RowKit Go.WideShapes
open Go.RowKit Go.WideShapes
end Go.Proofs.Ytamnlifdfhmbnaa
