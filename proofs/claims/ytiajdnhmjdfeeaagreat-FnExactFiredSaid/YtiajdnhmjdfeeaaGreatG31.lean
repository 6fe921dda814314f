/- Triples put in order: plain facts on lists. -/
import Derived.Test.YtiajdnhmjdfeeaaGreatG07
import Derived.Test.YtiajdnhmjdfeeaaGreatG30
import Derived.Test.YtiajdnhmjdfeeaaGreatG08
import Derived.Test.YtiajdnhmjdfeeaaGreatG16
import Derived.Test.YtiajdnhmjdfeeaaGreatG23
namespace Go.Proofs.YtiajdnhmjdfeeaaGreat
theorem less_trans : ∀ a b c : List UInt8, Op.bytesLess a b = true → Op.bytesLess b c = true → Op.bytesLess a c = true
  | _, b, [], _, h => by cases b <;> simp [Op.bytesLess] at h
  | a, [], _ :: _, h, _ => by cases a <;> simp [Op.bytesLess] at h
  | [], _ :: _, _ :: _, _, _ => by simp [Op.bytesLess]
  | x :: r, y :: q, z :: s, h1, h2 => by
    simp only [Op.bytesLess, Bool.or_eq_true, Bool.and_eq_true, decide_eq_true_eq, beq_iff_eq] at h1 h2 ⊢
    rcases h1 with h1 | ⟨rfl, h1⟩
    · rcases h2 with h2 | ⟨rfl, h2⟩
      · exact .inl (by rw [UInt8.lt_iff_toNat_lt] at *; omega)
      · exact .inl h1
    · rcases h2 with h2 | ⟨rfl, h2⟩
      · exact .inl h2
      · exact .inr ⟨rfl, less_trans r q s h1 h2⟩
theorem less_ne {a b : List UInt8} (h : Op.bytesLess a b = true) : a ≠ b := by
  rintro rfl
  rw [less_irrefl] at h
  cases h
theorem aheadL_iff (s p o s' p' o' : List UInt8) : aheadL s p o s' p' o' = true ↔ Op.bytesLess s s' = true ∨ (s = s' ∧ (Op.bytesLess p p' = true ∨ (p = p' ∧ Op.bytesLess o o' = true))) := by
  unfold aheadL
  by_cases h1 : s = s'
  · subst h1
    by_cases h2 : p = p'
    · subst h2; simp [less_irrefl]
    · simp [h2, less_irrefl]
  · simp [h1]
theorem aheadT_irrefl (t : Tri3) : aheadT t t = false := by
  unfold aheadT aheadL; simp [less_irrefl]
theorem aheadT_trans {a b c : Tri3} (h1 : aheadT a b = true) (h2 : aheadT b c = true) : aheadT a c = true := by
  unfold aheadT at *
  rw [aheadL_iff] at *
  rcases h1 with h1 | ⟨e1, h1⟩
  · rcases h2 with h2 | ⟨e2, h2⟩
    · exact .inl (less_trans _ _ _ h1 h2)
    · exact .inl (by rw [← e2]; exact h1)
  · rcases h2 with h2 | ⟨e2, h2⟩
    · exact .inl (by rw [e1]; exact h2)
    · refine .inr ⟨e1.trans e2, ?_⟩
      rcases h1 with h1 | ⟨f1, h1⟩
      · rcases h2 with h2 | ⟨f2, h2⟩
        · exact .inl (less_trans _ _ _ h1 h2)
        · exact .inl (by rw [← f2]; exact h1)
      · rcases h2 with h2 | ⟨f2, h2⟩
        · exact .inl (by rw [f1]; exact h2)
        · exact .inr ⟨f1.trans f2, less_trans _ _ _ h1 h2⟩
theorem aheadT_asymm {a b : Tri3} (h : aheadT a b = true) : aheadT b a = false := by
  cases g : aheadT b a
  · rfl
  · have := aheadT_trans h g
    rw [aheadT_irrefl] at this
    cases this
theorem aheadT_one {a b : Tri3} (h : aheadT a b = false) (g : aheadT b a = false) : a = b := by
  have := ahead_one a.1.data.toList a.2.1.data.toList a.2.2.data.toList b.1.data.toList b.2.1.data.toList b.2.2.data.toList
  unfold aheadT at h g
  rw [h, g] at this
  simp only [Bool.or_self, Bool.false_eq, Bool.not_eq_false', Bool.and_eq_true, beq_iff_eq] at this
  obtain ⟨a1, a2, a3⟩ := a
  obtain ⟨b1, b2, b3⟩ := b
  obtain ⟨e1, e2, e3⟩ := this
  have e1 := data_inj e1
  have e2 := data_inj e2
  have e3 := data_inj e3
  simp only at e1 e2 e3
  rw [e1, e2, e3]
theorem aheadT_ne {a b : Tri3} (h : aheadT a b = true) : a ≠ b := by
  rintro rfl
  rw [aheadT_irrefl] at h
  cases h
/-- Each ahead of all that stand behind it. -/
def Rising (ts : List Tri3) : Prop := ts.Pairwise (fun a b => aheadT a b = true)
theorem rising_of_upto {ts : List Tri3} (h : gUpto okT aheadT ts ts.length = true) : Rising ts := by
  have adj : ∀ k, (hk : k + 1 < ts.length) → aheadT ts[k] ts[k + 1] = true := by
    intro k hk
    have := List.all_eq_true.1 h (k + 1) (List.mem_range.2 hk)
    rw [gAt_next (t := ts[k + 1]) (u := ts[k]) (by omega) (List.getElem?_eq_getElem hk) (List.getElem?_eq_getElem (by omega))] at this
    simp only [Bool.and_eq_true] at this
    exact this.2
  unfold Rising
  rw [List.pairwise_iff_getElem]
  intro i j hi hj hij
  induction j with
  | zero => omega
  | succ j ih =>
    rcases Nat.lt_or_ge i j with g | g
    · exact aheadT_trans (ih (by omega) g) (adj j hj)
    · obtain rfl : i = j := by omega
      exact adj i hj
theorem upto_of_rising {ts : List Tri3} (ho : ∀ t ∈ ts, okT t = true) (hr : Rising ts) : gUpto okT aheadT ts ts.length = true := by
  unfold Rising at hr
  rw [List.pairwise_iff_getElem] at hr
  refine List.all_eq_true.2 fun i hi => ?_
  have hi := List.mem_range.1 hi
  have hoi : okT ts[i] = true := ho _ (List.getElem_mem hi)
  rcases Nat.eq_zero_or_pos i with rfl | h0
  · rw [gAt_zero (List.getElem?_eq_getElem hi)]; exact hoi
  · rw [gAt_next (t := ts[i]) (u := ts[i - 1]) h0 (List.getElem?_eq_getElem hi) (List.getElem?_eq_getElem (by omega)), hoi, hr (i - 1) i (by omega) hi (by omega)]; rfl
theorem graphOk_iff {ts : List Tri3} : graphOk ts = true ↔ ts.length ≤ 80 ∧ (∀ t ∈ ts, okT t = true) ∧ Rising ts := by
  unfold graphOk
  rw [Bool.and_eq_true, decide_eq_true_eq]
  exact ⟨fun ⟨h1, h2⟩ => ⟨h1, gUpto_mem h2, rising_of_upto h2⟩, fun ⟨h1, h2, h3⟩ => ⟨h1, upto_of_rising h2 h3⟩⟩
theorem Rising.nodup {ts : List Tri3} (h : Rising ts) : ts.Nodup := List.Pairwise.imp (fun h => aheadT_ne h) h
theorem eq_of_rising {a b : List Tri3} (ha : Rising a) (hb : Rising b) (h : ∀ t, t ∈ a ↔ t ∈ b) : a = b :=
  List.Perm.eq_of_pairwise (le := fun x y => aheadT x y = true) (fun x y _ _ h1 h2 => by rw [aheadT_asymm h1] at h2; cases h2) ha hb ((List.perm_ext_iff_of_nodup ha.nodup hb.nodup).2 h)
/-- How many are ahead of t, from the front on. -/
def atT (t : Tri3) : List Tri3 → Nat
  | [] => 0
  | u :: r => if aheadT u t = true then atT t r + 1 else 0
theorem atT_le (t : Tri3) : ∀ g : List Tri3, atT t g ≤ g.length
  | [] => Nat.le_refl _
  | u :: r => by unfold atT; have := atT_le t r; split <;> simp <;> omega
theorem atT_ahead {t u : Tri3} : ∀ {g : List Tri3} {i : Nat}, i < atT t g → g[i]? = some u → aheadT u t = true
  | [], i, h, _ => by simp [atT] at h
  | v :: r, i, h, hu => by
    unfold atT at h
    split at h
    · rename_i hv
      cases i with
      | zero => simp at hu; rw [← hu]; exact hv
      | succ i => exact atT_ahead (g := r) (i := i) (by omega) (by simpa using hu)
    · omega
theorem atT_stop {t u : Tri3} : ∀ {g : List Tri3}, g[atT t g]? = some u → aheadT u t = false
  | [], h => by simp at h
  | v :: r, h => by
    unfold atT at h
    split at h
    · exact atT_stop (g := r) (by simpa using h)
    · rename_i hv
      simp at h
      rw [← h]; simpa using hv
theorem atT_is {t : Tri3} {g : List Tri3} {k : Nat} (h1 : ∀ i u, i < k → g[i]? = some u → aheadT u t = true) (hk : k ≤ g.length) (h2 : ∀ u, g[k]? = some u → aheadT u t = false) : atT t g = k := by
  rcases Nat.lt_trichotomy (atT t g) k with h | h | h
  · have e : g[atT t g]? = some g[atT t g] := List.getElem?_eq_getElem (by omega)
    have := h1 _ _ h e
    rw [atT_stop e] at this
    cases this
  · exact h
  · have hl := atT_le t g
    have e : g[k]? = some g[k] := List.getElem?_eq_getElem (by omega)
    have := h2 _ e
    rw [atT_ahead h e] at this
    cases this
/-- Triples in order, with one more. -/
def putT (g : List Tri3) (t : Tri3) : List Tri3 := if g[atT t g]? = some t then g else g.take (atT t g) ++ t :: g.drop (atT t g)
theorem putT_here {g : List Tri3} {t : Tri3} (h : g[atT t g]? = some t) : putT g t = g := by unfold putT; rw [if_pos h]
theorem putT_new {g : List Tri3} {t : Tri3} (h : g[atT t g]? ≠ some t) : putT g t = g.take (atT t g) ++ t :: g.drop (atT t g) := by unfold putT; rw [if_neg h]
theorem putT_len (g : List Tri3) (t : Tri3) : (putT g t).length ≤ g.length + 1 := by
  unfold putT
  split
  · omega
  · have := atT_le t g
    simp only [List.length_append, List.length_take, List.length_cons, List.length_drop]
    omega
theorem putT_mem {g : List Tri3} {t u : Tri3} : u ∈ putT g t ↔ u = t ∨ u ∈ g := by
  unfold putT
  split
  · rename_i h
    refine ⟨.inr, fun h' => ?_⟩
    rcases h' with rfl | h'
    · exact List.mem_of_getElem? h
    · exact h'
  · rw [List.mem_append, List.mem_cons]
    constructor
    · rintro (h | h | h)
      · exact .inr (List.mem_of_mem_take h)
      · exact .inl h
      · exact .inr (List.mem_of_mem_drop h)
    · rintro (h | h)
      · exact .inr (.inl h)
      · have := List.take_append_drop (atT t g) g
        rw [← this] at h
        rcases List.mem_append.1 h with h | h
        · exact .inl h
        · exact .inr (.inr h)
theorem putT_rising {g : List Tri3} {t : Tri3} (hr : Rising g) : Rising (putT g t) := by
  unfold putT
  split
  · exact hr
  · rename_i hn
    have hl := atT_le t g
    have hsplit : Rising (g.take (atT t g) ++ g.drop (atT t g)) := by rw [List.take_append_drop]; exact hr
    obtain ⟨p1, p2, p3⟩ := List.pairwise_append.1 hsplit
    have q1 : ∀ u ∈ g.take (atT t g), aheadT u t = true := by
      intro u hu
      obtain ⟨i, hi⟩ := List.mem_iff_getElem?.1 hu
      have hil := (List.getElem?_eq_some_iff.1 hi).1
      rw [List.length_take] at hil
      rw [List.getElem?_take_of_lt (by omega)] at hi
      exact atT_ahead (by omega) hi
    have q2 : ∀ u ∈ g.drop (atT t g), aheadT t u = true := by
      intro u hu
      rcases Nat.lt_or_ge (atT t g) g.length with h | h
      · have e : g[atT t g]? = some g[atT t g] := List.getElem?_eq_getElem h
        have hv : aheadT t g[atT t g] = true := by
          cases hq : aheadT t g[atT t g]
          · exact absurd (by rw [e, aheadT_one (atT_stop e) hq]) hn
          · rfl
        rw [List.drop_eq_getElem_cons h] at hu p2
        rcases List.mem_cons.1 hu with rfl | hu
        · exact hv
        · exact aheadT_trans hv ((List.pairwise_cons.1 p2).1 u hu)
      · rw [List.drop_eq_nil_of_le h] at hu
        simp at hu
    refine List.pairwise_append.2 ⟨p1, List.pairwise_cons.2 ⟨q2, p2⟩, fun a ha b hb => ?_⟩
    rcases List.mem_cons.1 hb with rfl | hb
    · exact q1 a ha
    · exact p3 a ha b hb
theorem putT_ok {g : List Tri3} {t : Tri3} (hg : ∀ u ∈ g, okT u = true) (ht : okT t = true) : ∀ u ∈ putT g t, okT u = true := by
  intro u hu
  rcases putT_mem.1 hu with rfl | hu
  · exact ht
  · exact hg u hu
/-- Triples in order, without one. -/
def lessT (g : List Tri3) (t : Tri3) : List Tri3 := g.filter (fun u => decide (u ≠ t))
theorem lessT_mem {g : List Tri3} {t u : Tri3} : u ∈ lessT g t ↔ u ≠ t ∧ u ∈ g := by
  unfold lessT
  rw [List.mem_filter, decide_eq_true_eq]
  exact ⟨fun h => ⟨h.2, h.1⟩, fun h => ⟨h.2, h.1⟩⟩
theorem lessT_rising {g : List Tri3} {t : Tri3} (h : Rising g) : Rising (lessT g t) := List.Pairwise.filter _ h
/-- Both, in order. -/
def unionT (a b : List Tri3) : List Tri3 := b.foldl putT a
theorem unionT_snoc (a b : List Tri3) (t : Tri3) : unionT a (b ++ [t]) = putT (unionT a b) t := by unfold unionT; rw [List.foldl_append]; rfl
theorem unionT_mem {u : Tri3} : ∀ {b a : List Tri3}, u ∈ unionT a b ↔ u ∈ a ∨ u ∈ b
  | [], a => by simp [unionT]
  | t :: r, a => by
    show u ∈ unionT (putT a t) r ↔ _
    rw [unionT_mem, putT_mem, List.mem_cons]
    constructor
    · rintro ((h | h) | h)
      · exact .inr (.inl h)
      · exact .inl h
      · exact .inr (.inr h)
    · rintro (h | h | h)
      · exact .inl (.inr h)
      · exact .inl (.inl h)
      · exact .inr h
theorem unionT_rising : ∀ {b a : List Tri3}, Rising a → Rising (unionT a b)
  | [], _, h => h
  | t :: r, a, h => unionT_rising (b := r) (a := putT a t) (putT_rising h)
theorem unionT_len : ∀ (b a : List Tri3), (unionT a b).length ≤ a.length + b.length
  | [], a => Nat.le_refl _
  | t :: r, a => by
    have h1 := unionT_len r (putT a t)
    have h2 := putT_len a t
    show (unionT (putT a t) r).length ≤ _
    rw [List.length_cons]; omega
/-- In order, as the library's sort leaves them. -/
def sortT (ts : List Tri3) : List Tri3 := ts.mergeSort (fun x y => !aheadT y x)
theorem sortT_perm (ts : List Tri3) : (sortT ts).Perm ts := List.mergeSort_perm _ _
theorem sortT_len (ts : List Tri3) : (sortT ts).length = ts.length := (sortT_perm ts).length_eq
theorem sortT_mem {ts : List Tri3} {u : Tri3} : u ∈ sortT ts ↔ u ∈ ts := (sortT_perm ts).mem_iff
theorem sortT_rising {ts : List Tri3} (h : ts.Nodup) : Rising (sortT ts) := by
  have hs := List.pairwise_mergeSort (le := fun x y => !aheadT y x) (fun a b c h1 h2 => by
    simp only [Bool.not_eq_true'] at *
    cases g : aheadT c a
    · rfl
    · cases g1 : aheadT a b
      · rw [aheadT_one g1 h1] at g; rw [g] at h2; cases h2
      · rw [aheadT_trans g g1] at h2; cases h2) (fun a b => by
    simp only [Bool.or_eq_true, Bool.not_eq_true']
    cases g : aheadT b a
    · exact .inl rfl
    · exact .inr (aheadT_asymm g)) ts
  have hn : (sortT ts).Nodup := (sortT_perm ts).nodup_iff.2 h
  refine List.Pairwise.imp₂ (fun a b h1 h2 => ?_) hs hn
  simp only [Bool.not_eq_true'] at h1
  cases g : aheadT a b
  · exact absurd (aheadT_one g h1) h2
  · rfl
theorem sortT_is {ts g : List Tri3} (h : ts.Nodup) (hg : Rising g) (hm : ∀ u, u ∈ ts ↔ u ∈ g) : sortT ts = g := eq_of_rising (sortT_rising h) hg (fun u => by rw [sortT_mem]; exact hm u)
end Go.Proofs.YtiajdnhmjdfeeaaGreat
/- Rows that make all patterns triples: right graphs, right patterns. -/
namespace Go.Proofs.YtiajdnhmjdfeeaaGreat
open Go.RowKit Go.WideShapes Go.Maps Go.Sort Go.Shelf
theorem kind_full {l : List UInt8} (h : kindL l ≠ 0) : l ≠ [] := by
  rintro rfl
  exact h (by decide)
theorem okT_kinds {t : Tri3} (h : okT t = true) : (kindL t.1.data.toList = 1 ∨ kindL t.1.data.toList = 3) ∧ kindL t.2.1.data.toList = 1 ∧ (kindL t.2.2.data.toList = 1 ∨ kindL t.2.2.data.toList = 2 ∨ kindL t.2.2.data.toList = 3) := by
  unfold okT triOk at h
  simp only [Bool.and_eq_true, Bool.or_eq_true, decide_eq_true_eq] at h
  obtain ⟨⟨h1, h2⟩, h3⟩ := h
  exact ⟨h1, h2, by omega⟩
theorem okT_noZ {t : Tri3} (h : okT t = true) : NoZt t := by
  obtain ⟨h1, h2, h3⟩ := okT_kinds h
  exact ⟨no_zero (by omega), no_zero (by omega), no_zero (by omega)⟩
theorem okT_plain {t : Tri3} (h : okT t = true) : (isVarK t.1.data.toList = false ∧ isVarK t.2.1.data.toList = false ∧ isVarK t.2.2.data.toList = false) ∧ t.1.data.toList ≠ [] ∧ t.2.1.data.toList ≠ [] ∧ t.2.2.data.toList ≠ [] := by
  obtain ⟨h1, h2, h3⟩ := okT_kinds h
  have hv : ∀ {l : List UInt8}, kindL l ≠ 4 → isVarK l = false := fun h => by unfold isVarK; rw [decide_eq_false_iff_not]; exact h
  exact ⟨⟨hv (by omega), hv (by omega), hv (by omega)⟩, kind_full (by omega), kind_full (by omega), kind_full (by omega)⟩
theorem patT_kinds {t : Tri3} (h : patT t = true) : kindL t.1.data.toList ≠ 0 ∧ kindL t.2.1.data.toList ≠ 0 ∧ kindL t.2.2.data.toList ≠ 0 := by
  unfold patT patOk at h
  simp only [Bool.and_eq_true, Bool.or_eq_true, decide_eq_true_eq, Bool.not_eq_true', decide_eq_false_iff_not] at h
  obtain ⟨⟨h1, h2⟩, h3⟩ := h
  exact ⟨by omega, by omega, h3⟩
theorem patT_noZ {t : Tri3} (h : patT t = true) : NoZt t := by
  obtain ⟨h1, h2, h3⟩ := patT_kinds h
  exact ⟨no_zero h1, no_zero h2, no_zero h3⟩
theorem patT_full {t : Tri3} (h : patT t = true) : t.1.data.toList ≠ [] ∧ t.2.1.data.toList ≠ [] ∧ t.2.2.data.toList ≠ [] := by
  obtain ⟨h1, h2, h3⟩ := patT_kinds h
  exact ⟨kind_full h1, kind_full h2, kind_full h3⟩
theorem bgpOk_iff {ls : List Tri3} : bgpOk ls = true ↔ ls.length ≤ 4 ∧ ∀ p ∈ ls, patT p = true := by
  unfold bgpOk
  rw [Bool.and_eq_true, decide_eq_true_eq, List.all_eq_true]
/-- What is said. -/
def solOk (gs ls : List Tri3) : Bool := graphOk gs && bgpOk ls && (solveM gs ls [[]]).isSome
def solR (gs ls : List Tri3) : List RowV := if (graphOk gs && bgpOk ls) = true then (solveM gs ls [[]]).getD [] else []
theorem contM_rows {g : List Tri3} (hga : SmT g) (hok : ∀ t ∈ g, okT t = true) : ∀ (l : List Tri3) (rows : List RowV) (m : Nat), SmT l → (∀ p ∈ l, patT p = true) → NoZs rows → rows.length ≤ 300 → (∀ r ∈ rows, GoodK m r) → ∀ R, contM g l rows = some R → NoZs R ∧ R.length ≤ 300 ∧ ∀ r ∈ R, GoodK (m + 3 * l.length) r
  | [], rows, m, _, _, hz, hn, hr, R, e => by
    unfold contM at e
    cases e
    exact ⟨hz, hn, hr⟩
  | p :: l, rows, m, hs, hl, hz, hn, hr, R, e => by
    unfold contM at e
    by_cases h : (joinM g p rows).length ≤ 300
    · rw [if_pos h] at e
      have h1 := contM_rows hga hok l (joinM g p rows) (m + 3) (fun q hq => hs q (List.mem_cons_of_mem _ hq)) (fun q hq => hl q (List.mem_cons_of_mem _ hq)) (hz.join (fun t ht => okT_noZ (hok t ht)) (patT_noZ (hl p (List.mem_cons_self ..)))) h
        (GoodK.join hr hga (hs p (List.mem_cons_self ..)) (fun t ht => okT_plain (hok t ht))) R e
      refine ⟨h1.1, h1.2.1, fun r hr => ?_⟩
      have := h1.2.2 r hr
      rwa [show m + 3 + 3 * l.length = m + 3 * (p :: l).length by simp only [List.length_cons]; omega] at this
    · rw [if_neg h] at e
      cases e
theorem goodR_nil : GoodR [] := ⟨fun i j t u _ h => by simp at h, fun u h => by simp at h, fun u h => by simp at h, by simp, fun u h => by simp at h⟩
theorem goodK_nil : GoodK 12 [] := ⟨goodR_nil.1, goodR_nil.2.1, goodR_nil.2.2.1, by simp, goodR_nil.2.2.2.2⟩
theorem noZs_one : NoZs [[]] := fun r hr u hu => by
  obtain rfl : r = [] := by simpa using hr
  simp at hu
/-- Both ways are one. -/
theorem solve_cont {gs ls : List Tri3} (hg : graphOk gs = true) (hl : bgpOk ls = true) : solveM gs ls [[]] = (contM gs ls [[]]).map (addAllR []) := by
  obtain ⟨_, h2, h3⟩ := graphOk_iff.1 hg
  have e : addAllR [] [([] : RowV)] = [[]] := rfl
  have h := solve_is h3.nodup (fun t ht => okT_noZ (h2 t ht)) ls [[]] (fun p hp => patT_noZ ((bgpOk_iff.1 hl).2 p hp)) (Even.one [] goodR_nil.1) noZs_one
  rwa [e] at h
end Go.Proofs.YtiajdnhmjdfeeaaGreat
/- Solutions: the program's own and the specification's. -/
namespace Go.Proofs.YtiajdnhmjdfeeaaGreat
open Go.RowKit Go.WideShapes Go.Maps Go.Sort Go.Shelf
theorem SmT.sm {ts : List Tri3} (h : SmT ts) : Sm ts := fun t ht => by
  have := h t ht
  exact ⟨by omega, by omega, by omega⟩
theorem isPres_nil (w : World) : IsPres w none 0 0 [] := .inl ⟨rfl, rfl, rfl, rfl⟩
theorem isRows_nil (w : World) : IsRows w none 0 0 [] := .inl ⟨rfl, rfl, rfl, rfl⟩
theorem solOk_no {gs ls : List Tri3} (h : (graphOk gs && bgpOk ls) = false) : solOk gs ls = false ∧ solR gs ls = [] := by
  unfold solOk solR
  rw [h]
  exact ⟨rfl, rfl⟩
theorem solOk_yes {gs ls : List Tri3} (h : (graphOk gs && bgpOk ls) = true) : solOk gs ls = (solveM gs ls [[]]).isSome ∧ solR gs ls = (solveM gs ls [[]]).getD [] := by
  unfold solOk solR
  rw [h]
  exact ⟨rfl, rfl⟩
set_option maxRecDepth 100000 in
set_option maxHeartbeats 3200000 in
theorem implSolutions (a b : Option Addr) (la ca lb cb : Nat) (gs ls : List Tri3) (w : World) (ha : IsTris w a la ca gs) (hb : IsTris w b lb cb ls) (hga : SmT gs) (hgb : SmT ls) :
    Calls Tryz.prog 27 #[.slice a la ca, .slice b lb cb] w fun e w' => ∃ v, e = .returned (.tuple #[v, .bool (solOk gs ls)]) ∧ OwnRs w.heap.size w' v (solR gs ls) ∧ Below w.heap.size w w' := by
  have A1 := implGraphOk a la ca gs w ha hga.sm
  cases hg : graphOk gs
  · have HS := Lib.hid (solOk_no (gs := gs) (ls := ls) (by rw [hg]; rfl))
    rw [hg] at A1
    have C1 := Lib.hid A1
    clear A1 hg ha hb hga hgb
    go_enter Tryz.func27, Tryz.ntmps27
    go_wp2_with fail
    refine C1.out.mono ?_
    rintro e w1 ⟨rfl, hb1⟩
    go_wp2_with fail
    go_ret2
    exact ⟨_, by rw [HS.out.1]; rfl, by rw [HS.out.2]; exact OwnRs.none _ _, hb1⟩
  rw [hg] at A1
  have C1 := Lib.hid A1
  have A2 := fun W (h : Below w.heap.size w W) => implBgpOk b lb cb ls W (hb.next h) hgb.sm
  cases hl : bgpOk ls
  · have HS := Lib.hid (solOk_no (gs := gs) (ls := ls) (by rw [hg, hl]; rfl))
    rw [hl] at A2
    have C2 := Lib.hid A2
    clear A1 A2 hg hl ha hb hga hgb
    go_enter Tryz.func27, Tryz.ntmps27
    go_wp2_with fail
    refine C1.out.mono ?_
    rintro e w1 ⟨rfl, hb1⟩
    go_wp2_with fail
    refine (C2.out _ (by first | exact hb1 | exact hb1.drew)).mono ?_
    rintro e w2 ⟨rfl, hb2⟩
    go_wp2_with fail
    go_ret2
    exact ⟨_, by rw [HS.out.1]; rfl, by rw [HS.out.2]; exact OwnRs.none _ _, hb1.trans (hb2.mono hb1.size)⟩
  have HS := Lib.hid (solOk_yes (gs := gs) (ls := ls) (by rw [hg, hl]; rfl))
  rw [hl] at A2
  have C2 := Lib.hid A2
  obtain ⟨hla, hgt, _⟩ := graphOk_iff.1 hg
  obtain ⟨hlb, hpt⟩ := bgpOk_iff.1 hl
  rw [ha.len] at hla
  rw [hb.len] at hlb
  have HB := Lib.hid (solve_cont hg hl)
  have HC : Hid (∀ R, contM gs ls [[]] = some R → NoZs R ∧ R.length ≤ 300 ∧ ∀ r ∈ R, GoodK (12 + 3 * ls.length) r) := Lib.hid (contM_rows hga hgt ls [[]] 12 hgb hpt noZs_one (by simp) (fun r hr => by
    obtain rfl : r = [] := by simpa using hr
    exact goodK_nil))
  have HL := Lib.hid hb.len
  have C3 := Lib.hid (fun W (h : Below w.heap.size w W) => (callsIn_wide (n := 7)).1 (implContinued 7 (Nat.le_refl _) a b none la ca lb cb 0 0 gs ls [] W (ha.next h) (hb.next h) (isPres_nil W) hla hlb (by omega) hga hgb goodR_nil (fun t ht => okT_plain (hgt t ht)) (fun p hp => patT_full (hpt p hp))))
  have hmm := @run_makeMap Tryz.prog
  clear A1 A2 hg hl ha hb hga hgb hgt hpt
  go_enter Tryz.func27, Tryz.ntmps27
  go_wp2_with fail
  refine C1.out.mono ?_
  rintro e w1 ⟨rfl, hb1⟩
  go_wp2_with fail
  refine (C2.out _ (by first | exact hb1 | exact hb1.drew)).mono ?_
  rintro e w2 ⟨rfl, hb2⟩
  have B2 := hb1.trans (hb2.mono hb1.size)
  clear hb1 hb2 C1 C2
  go_wp2_with fail
  refine (C3.out _ (by first | exact B2 | exact B2.drew)).mono ?_
  rintro e w3 ⟨x, n, c, rfl, hr, hb3⟩
  have B3 := B2.trans (hb3.mono B2.size)
  rw [HB.out] at HS
  clear hb3 B2 C3 HB
  cases hc : contM gs ls [[]] with
  | none =>
    rw [hc] at HS
    clear hr
    go_wp2_with fail
    go_ret2
    exact ⟨_, by rw [HS.out.1]; rfl, by rw [HS.out.2]; exact OwnRs.none _ _, B3⟩
  | some R =>
    rw [hc] at hr HS
    obtain ⟨hz, hn, hk⟩ := HC.out R hc
    have hrl := hr.len
    have HKM : Hid (∀ r ∈ R, r.length ≤ 1048576 ∧ (rowTextL r).length ≤ 140737488355328) := Lib.hid (fun r hr => by
      have h1 := (hk r hr).2.2.2.1
      have h2 := rowText_len (hk r hr).2.2.2.2
      have h3 := HL.out
      exact ⟨by omega, by omega⟩)
    have HZ := Lib.hid hz
    have HR := Lib.hid hr
    have OM0 := Lib.hid (OwnMapV.made w3)
    have b4 := (Below.refl w3.heap.size w3).alloc (Nat.le_refl _) (.map #[] 0)
    have B4 := B3.alloc B3.size (.map #[] 0)
    have HB3 := Lib.hid B3.size
    have E2 := Lib.hid (fun W (h : Below (w3.alloc (.map #[] 0)).heap.size (w3.alloc (.map #[] 0)) W) => implPut w3.heap.size 0 [] x n c R W (OM0.out.next h) ((HR.out.next b4).next h) (fun r hr => (HKM.out r hr).2) (by have hh := HR.out.len; simp only [Option.getD_some] at hh; unfold maxLen; omega))
    clear hr hz hk B3 hc HC
    go_wp2_with fail
    refine (E2.out _ (by first | exact Below.refl _ _ | exact Below.drew (Below.refl _ _))).mono ?_
    rintro e w4 ⟨rfl, ⟨us, hl1, hr1, hM1⟩, hg4⟩
    have B5 := B4.grown hg4 B4.size (fun q e => by cases e; exact HB3.out)
    have HE := Lib.hid (fun W (h : Below w4.heap.size w4 W) => implOrdered w3.heap.size (0 + n) R us W hl1 (fun i u r hu hr => (hr1 i u r hu hr).next h) (hM1.next h) HZ.out (by omega) (fun r hr => ⟨(HKM.out r hr).1, by have := (HKM.out r hr).2; unfold maxLen; omega⟩))
    clear hl1 hr1 hM1 hg4 B4 E2 OM0 b4 HR
    go_wp2_with fail
    refine (HE.out _ (by first | exact Below.refl _ _ | exact Below.drew (Below.refl _ _))).mono ?_
    rintro e w5 ⟨v, rfl, ov, hb5⟩
    have hb5' : Below w4.heap.size w4 w5 := by first | exact hb5 | exact (Below.drew (Below.refl _ _)).trans hb5
    have B6 := B5.trans (hb5'.mono B5.size)
    have HF := Lib.hid (ov.base B5.size)
    clear ov hb5 hb5' HE B5
    go_wp2_with fail
    go_ret2
    exact ⟨v, by rw [HS.out.1]; rfl, by rw [HS.out.2]; exact HF.out, B6⟩
end Go.Proofs.YtiajdnhmjdfeeaaGreat
