/- Rows merged: plain facts on lists of pairs. -/
import Derived.Test.YtegjbfbmhlaelaaFillM
namespace Go.Proofs.Ytegjbfbmhlaelaa
open Go.RowKit
/-- How many names are less than x, from the front on. -/
def posP (x : ByteArray) : List Pre2 → Nat
  | [] => 0
  | u :: r => if Op.bytesLess u.1.data.toList x.data.toList = true then posP x r + 1 else 0
theorem posP_le (x : ByteArray) : ∀ g : List Pre2, posP x g ≤ g.length
  | [] => Nat.le_refl _
  | u :: r => by unfold posP; have := posP_le x r; split <;> simp <;> omega
theorem posP_ahead {x : ByteArray} {u : Pre2} : ∀ {g : List Pre2} {i : Nat}, i < posP x g → g[i]? = some u → Op.bytesLess u.1.data.toList x.data.toList = true
  | [], i, h, _ => by simp [posP] at h
  | v :: r, i, h, hu => by
    unfold posP at h
    split at h
    · rename_i hv
      cases i with
      | zero => simp at hu; rw [← hu]; exact hv
      | succ i => exact posP_ahead (g := r) (i := i) (by omega) (by simpa using hu)
    · omega
theorem posP_stop {x : ByteArray} {u : Pre2} : ∀ {g : List Pre2}, g[posP x g]? = some u → Op.bytesLess u.1.data.toList x.data.toList = false
  | [], h => by simp at h
  | v :: r, h => by
    unfold posP at h
    split at h
    · exact posP_stop (g := r) (by simpa using h)
    · rename_i hv
      simp at h
      rw [← h]; simpa using hv
theorem posP_is {x : ByteArray} {g : List Pre2} {k : Nat} (h1 : ∀ (i : Nat) (u : Pre2), i < k → g[i]? = some u → Op.bytesLess u.1.data.toList x.data.toList = true) (hk : k ≤ g.length) (h2 : ∀ u, g[k]? = some u → Op.bytesLess u.1.data.toList x.data.toList = false) : posP x g = k := by
  rcases Nat.lt_trichotomy (posP x g) k with hh | hh | hh
  · have e : g[posP x g]? = some g[posP x g] := List.getElem?_eq_getElem (by omega)
    have := h1 _ _ hh e
    rw [posP_stop e] at this
    cases this
  · exact hh
  · have hl := posP_le x g
    have e : g[k]? = some g[k] := List.getElem?_eq_getElem (by omega)
    have := h2 _ e
    rw [posP_ahead hh e] at this
    cases this
/-- A row with one more; none: it has another one there. -/
def putP (g : List Pre2) (p : Pre2) : Option (List Pre2) :=
  match g[posP p.1 g]? with
  | some q => if q.1 = p.1 then (if q.2 = p.2 then some g else none) else some ((g.take (posP p.1 g) ++ [p]) ++ g.drop (posP p.1 g))
  | none => some ((g.take (posP p.1 g) ++ [p]) ++ g.drop (posP p.1 g))
theorem putP_same {g : List Pre2} {p q : Pre2} {k : Nat} (h : posP p.1 g = k) (hq : g[k]? = some q) (h1 : q.1 = p.1) (h2 : q.2 = p.2) : putP g p = some g := by
  unfold putP; rw [h, hq]; simp [h1, h2]
theorem putP_other {g : List Pre2} {p q : Pre2} {k : Nat} (h : posP p.1 g = k) (hq : g[k]? = some q) (h1 : q.1 = p.1) (h2 : q.2 ≠ p.2) : putP g p = none := by
  unfold putP; rw [h, hq]; simp [h1, h2]
theorem putP_new {g : List Pre2} {p : Pre2} {k : Nat} (h : posP p.1 g = k) (hn : ∀ q, g[k]? = some q → q.1 ≠ p.1) : putP g p = some ((g.take k ++ [p]) ++ g.drop k) := by
  unfold putP; rw [h]
  cases hq : g[k]? with
  | none => rfl
  | some q => simp [hn q hq]
theorem putP_len {g h : List Pre2} {p : Pre2} (e : putP g p = some h) : h.length ≤ g.length + 1 := by
  have hl := posP_le p.1 g
  unfold putP at e
  split at e
  · split at e
    · split at e
      · cases e; omega
      · cases e
    · cases e; simp only [List.length_append, List.length_take, List.length_cons, List.length_nil, List.length_drop]; omega
  · cases e; simp only [List.length_append, List.length_take, List.length_cons, List.length_nil, List.length_drop]; omega
theorem putP_mem {g h : List Pre2} {p u : Pre2} (e : putP g p = some h) (hu : u ∈ h) : u = p ∨ u ∈ g := by
  have hs : ∀ u, u ∈ (g.take (posP p.1 g) ++ [p]) ++ g.drop (posP p.1 g) → u = p ∨ u ∈ g := by
    intro u hu
    rw [List.mem_append, List.mem_append, List.mem_singleton] at hu
    rcases hu with (hu | hu) | hu
    · exact .inr (List.mem_of_mem_take hu)
    · exact .inl hu
    · exact .inr (List.mem_of_mem_drop hu)
  unfold putP at e
  split at e
  · split at e
    · split at e
      · cases e; exact .inr hu
      · cases e
    · cases e; exact hs u hu
  · cases e; exact hs u hu
def LtP (t u : Pre2) : Prop := Op.bytesLess t.1.data.toList u.1.data.toList = true
def AscP (ts : List Pre2) : Prop := ts.Pairwise LtP
theorem lessP_is (t u : Pre2) : lessP t u = Op.bytesLess t.1.data.toList u.1.data.toList := by unfold lessP; rw [ByteArray.toList_eq, ByteArray.toList_eq]
theorem asc_iff {ts : List Pre2} : Asc ts ↔ AscP ts := by
  unfold Asc AscP LtP
  rw [List.pairwise_iff_getElem]
  constructor
  · intro h i j hi hj hij
    rw [← lessP_is]
    exact h i j _ _ hij (List.getElem?_eq_getElem hi) (List.getElem?_eq_getElem hj)
  · intro h i j t u hij ht hu
    obtain ⟨hi, rfl⟩ := List.getElem?_eq_some_iff.1 ht
    obtain ⟨hj, rfl⟩ := List.getElem?_eq_some_iff.1 hu
    rw [lessP_is]
    exact h i j hi hj hij
theorem putP_asc {g h : List Pre2} {p : Pre2} (ha : Asc g) (e : putP g p = some h) : Asc h := by
  rw [asc_iff] at ha ⊢
  have hl := posP_le p.1 g
  have key : (∀ q, g[posP p.1 g]? = some q → q.1 ≠ p.1) → AscP ((g.take (posP p.1 g) ++ [p]) ++ g.drop (posP p.1 g)) := by
    intro hn
    have hsplit : AscP (g.take (posP p.1 g) ++ g.drop (posP p.1 g)) := by rw [List.take_append_drop]; exact ha
    obtain ⟨p1, p2, p3⟩ := List.pairwise_append.1 hsplit
    have q1 : ∀ u ∈ g.take (posP p.1 g), LtP u p := by
      intro u hu
      obtain ⟨i, hi⟩ := List.mem_iff_getElem?.1 hu
      have hil := (List.getElem?_eq_some_iff.1 hi).1
      rw [List.length_take] at hil
      rw [List.getElem?_take_of_lt (by omega)] at hi
      exact posP_ahead (by omega) hi
    have q2 : ∀ u ∈ g.drop (posP p.1 g), LtP p u := by
      intro u hu
      rcases Nat.lt_or_ge (posP p.1 g) g.length with hh | hh
      · have e : g[posP p.1 g]? = some g[posP p.1 g] := List.getElem?_eq_getElem hh
        have hv : LtP p g[posP p.1 g] := by
          have h1 := posP_stop e
          have h2 := hn _ e
          unfold LtP
          rcases cmp_cases p.1.data.toList g[posP p.1 g].1.data.toList with ⟨_, h'⟩ | ⟨_, h'⟩ | ⟨_, h'⟩
          · exact h'
          · exact absurd (data_inj h').symm h2
          · rw [h1] at h'; cases h'
        rw [List.drop_eq_getElem_cons hh] at hu p2
        rcases List.mem_cons.1 hu with rfl | hu
        · exact hv
        · exact ltb_trans _ _ _ hv ((List.pairwise_cons.1 p2).1 u hu)
      · rw [List.drop_eq_nil_of_le hh] at hu
        simp at hu
    rw [List.append_assoc]
    refine List.pairwise_append.2 ⟨p1, List.pairwise_cons.2 ⟨q2, p2⟩, fun a ha b hb => ?_⟩
    rcases List.mem_cons.1 hb with rfl | hb
    · exact q1 a ha
    · exact p3 a ha b hb
  unfold putP at e
  split at e
  · rename_i q hq
    split at e
    · split at e
      · cases e; exact ha
      · cases e
    · rename_i hne
      cases e; exact key (fun q' hq' => by rw [hq] at hq'; cases hq'; exact hne)
  · rename_i hq
    cases e; exact key (fun q' hq' => by rw [hq] at hq'; cases hq')
/-- All pairs of b, put into a one by one. -/
def putAllP : List Pre2 → List Pre2 → Option (List Pre2)
  | a, [] => some a
  | a, p :: r => match putP a p with
    | some h => putAllP h r
    | none => none
theorem putAllP_snoc : ∀ (b a : List Pre2) (p : Pre2), putAllP a (b ++ [p]) = (putAllP a b).bind (fun h => putP h p)
  | [], a, p => by
    show putAllP a [p] = _
    unfold putAllP
    cases h : putP a p <;> simp [putAllP, h]
  | q :: r, a, p => by
    show putAllP a (q :: (r ++ [p])) = _
    unfold putAllP
    cases h : putP a q with
    | none => rfl
    | some h' => exact putAllP_snoc r h' p
theorem putAllP_none : ∀ (b c a : List Pre2), putAllP a b = none → putAllP a (b ++ c) = none
  | [], c, a, h => by simp [putAllP] at h
  | q :: r, c, a, h => by
    show putAllP a (q :: (r ++ c)) = _
    unfold putAllP at h ⊢
    cases hp : putP a q with
    | none => rfl
    | some h' => rw [hp] at h; exact putAllP_none r c h' h
theorem putAllP_len : ∀ {b a h : List Pre2}, putAllP a b = some h → h.length ≤ a.length + b.length
  | [], a, h, e => by simp [putAllP] at e; subst e; simp
  | q :: r, a, h, e => by
    unfold putAllP at e
    cases hp : putP a q with
    | none => rw [hp] at e; cases e
    | some h' =>
      rw [hp] at e
      have h1 := putAllP_len e
      have h2 := putP_len hp
      rw [List.length_cons]; omega
theorem putAllP_asc : ∀ {b a h : List Pre2}, Asc a → putAllP a b = some h → Asc h
  | [], a, h, ha, e => by simp [putAllP] at e; subst e; exact ha
  | q :: r, a, h, ha, e => by
    unfold putAllP at e
    cases hp : putP a q with
    | none => rw [hp] at e; cases e
    | some h' => rw [hp] at e; exact putAllP_asc (putP_asc ha hp) e
theorem putAllP_mem {u : Pre2} : ∀ {b a h : List Pre2}, putAllP a b = some h → u ∈ h → u ∈ a ∨ u ∈ b
  | [], a, h, e, hu => by simp [putAllP] at e; subst e; exact .inl hu
  | q :: r, a, h, e, hu => by
    unfold putAllP at e
    cases hp : putP a q with
    | none => rw [hp] at e; cases e
    | some h' =>
      rw [hp] at e
      rcases putAllP_mem e hu with h1 | h1
      · rcases putP_mem hp h1 with rfl | h1
        · exact .inr (List.mem_cons_self ..)
        · exact .inl h1
      · exact .inr (List.mem_cons_of_mem _ h1)
def mergedP (a b : List Pre2) : Option (List Pre2) := if rowOk a = true ∧ rowOk b = true then (match putAllP a b with
  | some h => if rowOk h = true then some h else none
  | none => none) else none
end Go.Proofs.Ytegjbfbmhlaelaa
