/- Triples in a store's orders: plain facts. -/
import Derived.Test.YteejpceliodcfaaPutM
namespace Go.Proofs.Yteejpceliodcfaa
/-- A triple as an order turns it: 1 by predicate and object, 2 by object and subject, else as it is. -/
def turnT (h : Nat) (t : Tri3) : Tri3 := if h = 1 then (t.2.1, t.2.2, t.1) else if h = 2 then (t.2.2, t.1, t.2.1) else t
theorem turnT_one (t : Tri3) : turnT 1 t = (t.2.1, t.2.2, t.1) := rfl
theorem turnT_two (t : Tri3) : turnT 2 t = (t.2.2, t.1, t.2.1) := rfl
theorem turnT_inj {h : Nat} {t u : Tri3} (e : turnT h t = turnT h u) : t = u := by
  obtain ⟨t1, t2, t3⟩ := t
  obtain ⟨u1, u2, u3⟩ := u
  unfold turnT at e
  split at e
  · simp only [Prod.mk.injEq] at e ⊢; exact ⟨e.2.2, e.1, e.2.1⟩
  · split at e
    · simp only [Prod.mk.injEq] at e ⊢; exact ⟨e.2.1, e.2.2, e.1⟩
    · exact e
def aheadH (h : Nat) (t u : Tri3) : Bool := aheadT (turnT h t) (turnT h u)
theorem aheadH_irrefl (h : Nat) (t : Tri3) : aheadH h t t = false := aheadT_irrefl _
theorem aheadH_trans {h : Nat} {a b c : Tri3} (h1 : aheadH h a b = true) (h2 : aheadH h b c = true) : aheadH h a c = true := aheadT_trans h1 h2
theorem aheadH_asymm {h : Nat} {a b : Tri3} (h1 : aheadH h a b = true) : aheadH h b a = false := aheadT_asymm h1
theorem aheadH_one {h : Nat} {a b : Tri3} (h1 : aheadH h a b = false) (h2 : aheadH h b a = false) : a = b := turnT_inj (aheadT_one h1 h2)
theorem aheadH_ne {h : Nat} {a b : Tri3} (h1 : aheadH h a b = true) : a ≠ b := by
  rintro rfl
  rw [aheadH_irrefl] at h1
  cases h1
def RisingH (h : Nat) (ts : List Tri3) : Prop := ts.Pairwise (fun a b => aheadH h a b = true)
theorem RisingH.nodup {h : Nat} {ts : List Tri3} (hr : RisingH h ts) : ts.Nodup := List.Pairwise.imp (fun h => aheadH_ne h) hr
theorem eq_of_risingH {h : Nat} {a b : List Tri3} (ha : RisingH h a) (hb : RisingH h b) (hm : ∀ t, t ∈ a ↔ t ∈ b) : a = b :=
  List.Perm.eq_of_pairwise (le := fun x y => aheadH h x y = true) (fun x y _ _ h1 h2 => by rw [aheadH_asymm h1] at h2; cases h2) ha hb ((List.perm_ext_iff_of_nodup ha.nodup hb.nodup).2 hm)
/-- In an order, as the library's sort leaves them. -/
def sortH (h : Nat) (ts : List Tri3) : List Tri3 := ts.mergeSort (fun x y => !aheadH h y x)
theorem sortH_perm (h : Nat) (ts : List Tri3) : (sortH h ts).Perm ts := List.mergeSort_perm _ _
theorem sortH_len (h : Nat) (ts : List Tri3) : (sortH h ts).length = ts.length := (sortH_perm h ts).length_eq
theorem sortH_mem {h : Nat} {ts : List Tri3} {u : Tri3} : u ∈ sortH h ts ↔ u ∈ ts := (sortH_perm h ts).mem_iff
theorem sortH_rising {h : Nat} {ts : List Tri3} (hn : ts.Nodup) : RisingH h (sortH h ts) := by
  have hs := List.pairwise_mergeSort (le := fun x y => !aheadH h y x) (fun a b c h1 h2 => by
    simp only [Bool.not_eq_true'] at *
    cases g : aheadH h c a
    · rfl
    · cases g1 : aheadH h a b
      · rw [aheadH_one g1 h1] at g; rw [g] at h2; cases h2
      · rw [aheadH_trans g g1] at h2; cases h2) (fun a b => by
    simp only [Bool.or_eq_true, Bool.not_eq_true']
    cases g : aheadH h b a
    · exact .inl rfl
    · exact .inr (aheadH_asymm g)) ts
  have hn' : (sortH h ts).Nodup := (sortH_perm h ts).nodup_iff.2 hn
  refine List.Pairwise.imp₂ (fun a b h1 h2 => ?_) hs hn'
  simp only [Bool.not_eq_true'] at h1
  cases g : aheadH h a b
  · exact absurd (aheadH_one g h1) h2
  · rfl
theorem sortH_is {h : Nat} {ts g : List Tri3} (hn : ts.Nodup) (hg : RisingH h g) (hm : ∀ u, u ∈ ts ↔ u ∈ g) : sortH h ts = g := eq_of_risingH (sortH_rising hn) hg (fun u => by rw [sortH_mem]; exact hm u)
/-- How many are ahead of t, from the front on. -/
def atH (h : Nat) (t : Tri3) : List Tri3 → Nat
  | [] => 0
  | u :: r => if aheadH h u t = true then atH h t r + 1 else 0
theorem atH_le (h : Nat) (t : Tri3) : ∀ g : List Tri3, atH h t g ≤ g.length
  | [] => Nat.le_refl _
  | u :: r => by unfold atH; have := atH_le h t r; split <;> simp <;> omega
theorem atH_ahead {h : Nat} {t u : Tri3} : ∀ {g : List Tri3} {i : Nat}, i < atH h t g → g[i]? = some u → aheadH h u t = true
  | [], i, h, _ => by simp [atH] at h
  | v :: r, i, h, hu => by
    unfold atH at h
    split at h
    · rename_i hv
      cases i with
      | zero => simp at hu; rw [← hu]; exact hv
      | succ i => exact atH_ahead (g := r) (i := i) (by omega) (by simpa using hu)
    · omega
theorem atH_stop {h : Nat} {t u : Tri3} : ∀ {g : List Tri3}, g[atH h t g]? = some u → aheadH h u t = false
  | [], h => by simp at h
  | v :: r, h => by
    unfold atH at h
    split at h
    · exact atH_stop (g := r) (by simpa using h)
    · rename_i hv
      simp at h
      rw [← h]; simpa using hv
theorem atH_is {h : Nat} {t : Tri3} {g : List Tri3} {k : Nat} (h1 : ∀ i u, i < k → g[i]? = some u → aheadH h u t = true) (hk : k ≤ g.length) (h2 : ∀ u, g[k]? = some u → aheadH h u t = false) : atH h t g = k := by
  rcases Nat.lt_trichotomy (atH h t g) k with hh | hh | hh
  · have e : g[atH h t g]? = some g[atH h t g] := List.getElem?_eq_getElem (by omega)
    have := h1 _ _ hh e
    rw [atH_stop e] at this
    cases this
  · exact hh
  · have hl := atH_le h t g
    have e : g[k]? = some g[k] := List.getElem?_eq_getElem (by omega)
    have := h2 _ e
    rw [atH_ahead hh e] at this
    cases this
/-- Triples in an order, with one more. -/
def putH (h : Nat) (g : List Tri3) (t : Tri3) : List Tri3 := (g.take (atH h t g) ++ [t]) ++ g.drop (atH h t g)
theorem putH_len (h : Nat) (g : List Tri3) (t : Tri3) : (putH h g t).length = g.length + 1 := by
  unfold putH
  have := atH_le h t g
  simp only [List.length_append, List.length_take, List.length_cons, List.length_nil, List.length_drop]
  omega
theorem putH_mem {h : Nat} {g : List Tri3} {t u : Tri3} : u ∈ putH h g t ↔ u = t ∨ u ∈ g := by
  unfold putH
  rw [List.mem_append, List.mem_append, List.mem_singleton]
  constructor
  · rintro ((h | h) | h)
    · exact .inr (List.mem_of_mem_take h)
    · exact .inl h
    · exact .inr (List.mem_of_mem_drop h)
  · rintro (h' | h')
    · exact .inl (.inr h')
    · have := List.take_append_drop (atH h t g) g
      rw [← this] at h'
      rcases List.mem_append.1 h' with h' | h'
      · exact .inl (.inl h')
      · exact .inr h'
theorem putH_rising {h : Nat} {g : List Tri3} {t : Tri3} (hr : RisingH h g) (ht : t ∉ g) : RisingH h (putH h g t) := by
  unfold putH
  have hl := atH_le h t g
  have hsplit : RisingH h (g.take (atH h t g) ++ g.drop (atH h t g)) := by rw [List.take_append_drop]; exact hr
  obtain ⟨p1, p2, p3⟩ := List.pairwise_append.1 hsplit
  have q1 : ∀ u ∈ g.take (atH h t g), aheadH h u t = true := by
    intro u hu
    obtain ⟨i, hi⟩ := List.mem_iff_getElem?.1 hu
    have hil := (List.getElem?_eq_some_iff.1 hi).1
    rw [List.length_take] at hil
    rw [List.getElem?_take_of_lt (by omega)] at hi
    exact atH_ahead (by omega) hi
  have q2 : ∀ u ∈ g.drop (atH h t g), aheadH h t u = true := by
    intro u hu
    rcases Nat.lt_or_ge (atH h t g) g.length with hh | hh
    · have e : g[atH h t g]? = some g[atH h t g] := List.getElem?_eq_getElem hh
      have hv : aheadH h t g[atH h t g] = true := by
        cases hq : aheadH h t g[atH h t g]
        · exact absurd (by rw [aheadH_one hq (atH_stop e)]; exact List.getElem_mem _) ht
        · rfl
      rw [List.drop_eq_getElem_cons hh] at hu p2
      rcases List.mem_cons.1 hu with rfl | hu
      · exact hv
      · exact aheadH_trans hv ((List.pairwise_cons.1 p2).1 u hu)
    · rw [List.drop_eq_nil_of_le hh] at hu
      simp at hu
  rw [List.append_assoc]
  refine List.pairwise_append.2 ⟨p1, List.pairwise_cons.2 ⟨q2, p2⟩, fun a ha b hb => ?_⟩
  rcases List.mem_cons.1 hb with rfl | hb
  · exact q1 a ha
  · exact p3 a ha b hb
/-- All of them, each put in its place. -/
def insH (h : Nat) (ts : List Tri3) : List Tri3 := ts.foldl (putH h) []
theorem insH_snoc (h : Nat) (ts : List Tri3) (t : Tri3) : insH h (ts ++ [t]) = putH h (insH h ts) t := by unfold insH; rw [List.foldl_append]; rfl
theorem insH_len (h : Nat) (ts : List Tri3) : (insH h ts).length = ts.length := by
  have : ∀ (us acc : List Tri3), (us.foldl (putH h) acc).length = acc.length + us.length := by
    intro us
    induction us with
    | nil => intro acc; rfl
    | cons t r ih => intro acc; rw [List.foldl_cons, ih, putH_len, List.length_cons]; omega
  have := this ts []
  unfold insH
  simpa using this
theorem insH_both (h : Nat) : ∀ (us acc : List Tri3), RisingH h acc → (acc ++ us).Nodup → RisingH h (us.foldl (putH h) acc) ∧ ∀ u, u ∈ us.foldl (putH h) acc ↔ u ∈ acc ∨ u ∈ us
  | [], acc, hr, _ => ⟨hr, fun u => by simp⟩
  | t :: r, acc, hr, hn => by
    obtain ⟨n1, n2, n3⟩ := List.nodup_append.1 hn
    obtain ⟨m1, m2⟩ := List.nodup_cons.1 n2
    have ht : t ∉ acc := fun g => n3 t g t (List.mem_cons_self ..) rfl
    have hp : (putH h acc t).Perm (t :: acc) := by
      refine (List.perm_ext_iff_of_nodup (putH_rising hr ht).nodup (List.nodup_cons.2 ⟨ht, n1⟩)).2 fun u => ?_
      rw [putH_mem, List.mem_cons]
    have hn' : (putH h acc t ++ r).Nodup := by
      refine ((hp.append_right r).nodup_iff).2 ?_
      rw [List.cons_append, List.nodup_cons]
      refine ⟨fun g => ?_, List.nodup_append.2 ⟨n1, m2, fun a ha b hb => n3 a ha b (List.mem_cons_of_mem _ hb)⟩⟩
      rcases List.mem_append.1 g with g | g
      · exact ht g
      · exact m1 g
    obtain ⟨h1, h2⟩ := insH_both h r (putH h acc t) (putH_rising hr ht) hn'
    refine ⟨h1, fun u => ?_⟩
    rw [List.foldl_cons, h2 u, putH_mem, List.mem_cons]
    constructor
    · rintro ((g | g) | g)
      · exact .inr (.inl g)
      · exact .inl g
      · exact .inr (.inr g)
    · rintro (g | g | g)
      · exact .inl (.inr g)
      · exact .inl (.inl g)
      · exact .inr g
theorem insH_mem {h : Nat} {u : Tri3} : ∀ {us acc : List Tri3}, u ∈ us.foldl (putH h) acc → u ∈ acc ∨ u ∈ us
  | [], acc, g => .inl g
  | t :: r, acc, g => by
    rcases insH_mem (us := r) (acc := putH h acc t) g with g | g
    · rcases putH_mem.1 g with rfl | g
      · exact .inr (List.mem_cons_self ..)
      · exact .inl g
    · exact .inr (List.mem_cons_of_mem _ g)
theorem insH_sub {h : Nat} {u : Tri3} {ts : List Tri3} (g : u ∈ insH h ts) : u ∈ ts := by
  rcases insH_mem g with g | g
  · simp at g
  · exact g
theorem insH_is {h : Nat} {ts : List Tri3} (hn : ts.Nodup) : insH h ts = sortH h ts := by
  obtain ⟨h1, h2⟩ := insH_both h ts [] List.Pairwise.nil (by simpa using hn)
  exact (sortH_is hn h1 (fun u => by rw [h2 u]; simp)).symm
end Go.Proofs.Yteejpceliodcfaa
