/- Rows merged: both ways round are one. -/
import Derived.Test.YtegjbfbmhlaelaaMrgM
namespace Go.Proofs.Ytegjbfbmhlaelaa
open Go.RowKit
theorem ltP_ne {t u : Pre2} (h : LtP t u) : t ≠ u := by
  rintro rfl
  unfold LtP at h
  rw [ltb_irrefl] at h; cases h
theorem AscP.nodup {ts : List Pre2} (h : AscP ts) : ts.Nodup := List.Pairwise.imp (fun h => ltP_ne h) h
theorem ascP_ext {a b : List Pre2} (ha : AscP a) (hb : AscP b) (hm : ∀ t, t ∈ a ↔ t ∈ b) : a = b :=
  List.Perm.eq_of_pairwise (le := LtP) (fun x y _ _ h1 h2 => by unfold LtP at h1 h2; rw [ltb_asymm _ _ h1] at h2; cases h2) ha hb ((List.perm_ext_iff_of_nodup ha.nodup hb.nodup).2 hm)
theorem asc_name {g : List Pre2} (ha : Asc g) {t u : Pre2} (ht : t ∈ g) (hu : u ∈ g) (h : t.1 = u.1) : t = u := by
  obtain ⟨i, hi⟩ := List.mem_iff_getElem?.1 ht
  obtain ⟨j, hj⟩ := List.mem_iff_getElem?.1 hu
  rcases Nat.lt_trichotomy i j with c | c | c
  · have := ha i j t u c hi hj
    rw [lessP_is, h, ltb_irrefl] at this; cases this
  · subst c; rw [hi] at hj; exact Option.some.inj hj
  · have := ha j i u t c hj hi
    rw [lessP_is, h, ltb_irrefl] at this; cases this
theorem posP_at {g : List Pre2} (ha : Asc g) {q : Pre2} {x : ByteArray} (hq : q ∈ g) (h : q.1 = x) : g[posP x g]? = some q := by
  obtain ⟨i, hi⟩ := List.mem_iff_getElem?.1 hq
  have hl := (List.getElem?_eq_some_iff.1 hi).1
  have e : posP x g = i := by
    rcases Nat.lt_trichotomy (posP x g) i with c | c | c
    · have e : g[posP x g]? = some (g[posP x g]'(by omega)) := List.getElem?_eq_getElem (by omega)
      have h1 := posP_stop e
      have h2 := ha _ i _ q c e hi
      rw [lessP_is, h, h1] at h2; cases h2
    · exact c
    · have := posP_ahead c hi
      rw [h, ltb_irrefl] at this; cases this
  rw [e]; exact hi
theorem putP_mem_iff {g h : List Pre2} {p u : Pre2} (e : putP g p = some h) : u ∈ h ↔ u ∈ g ∨ u = p := by
  constructor
  · intro hu
    rcases putP_mem e hu with h1 | h1
    · exact .inr h1
    · exact .inl h1
  · have key : ∀ u, (u ∈ g ∨ u = p) → u ∈ (g.take (posP p.1 g) ++ [p]) ++ g.drop (posP p.1 g) := by
      intro u hu
      rcases hu with hu | rfl
      · rw [← List.take_append_drop (posP p.1 g) g, List.mem_append] at hu
        rw [List.mem_append, List.mem_append]
        rcases hu with hu | hu
        · exact .inl (.inl hu)
        · exact .inr hu
      · simp
    intro hu
    unfold putP at e
    split at e
    · rename_i q hq
      split at e
      · rename_i h1
        split at e
        · rename_i h2
          cases e
          rcases hu with hu | rfl
          · exact hu
          · have : q = u := Prod.ext h1 h2
            rw [← this]; exact List.mem_of_getElem? hq
        · cases e
      · cases e; exact key u hu
    · cases e; exact key u hu
theorem putP_none {g : List Pre2} (ha : Asc g) {p : Pre2} : putP g p = none ↔ ∃ q ∈ g, q.1 = p.1 ∧ q.2 ≠ p.2 := by
  constructor
  · intro e
    unfold putP at e
    split at e
    · rename_i q hq
      split at e
      · rename_i h1
        split at e
        · cases e
        · rename_i h2
          exact ⟨q, List.mem_of_getElem? hq, h1, h2⟩
      · cases e
    · cases e
  · rintro ⟨q, hq, h1, h2⟩
    exact putP_other rfl (posP_at ha hq h1) h1 h2
def ClashP (a b : List Pre2) : Prop := ∃ p ∈ b, ∃ q ∈ a, q.1 = p.1 ∧ q.2 ≠ p.2
theorem ClashP.comm {a b : List Pre2} (h : ClashP a b) : ClashP b a := by
  obtain ⟨p, hp, q, hq, h1, h2⟩ := h
  exact ⟨q, hq, p, hp, h1.symm, fun e => h2 e.symm⟩
theorem putAllP_none_iff : ∀ {b a : List Pre2}, Asc a → AscP b → (putAllP a b = none ↔ ClashP a b)
  | [], a, _, _ => by simp [putAllP, ClashP]
  | p :: r, a, ha, hb => by
    obtain ⟨hb1, hb2⟩ := List.pairwise_cons.1 hb
    unfold putAllP
    cases hp : putP a p with
    | none =>
      obtain ⟨q, hq, h1, h2⟩ := (putP_none ha).1 hp
      exact ⟨fun _ => ⟨p, List.mem_cons_self .., q, hq, h1, h2⟩, fun _ => rfl⟩
    | some h =>
      have ih := putAllP_none_iff (a := h) (putP_asc ha hp) hb2
      show putAllP h r = none ↔ _
      rw [ih]
      constructor
      · rintro ⟨s, hs, q, hq, h1, h2⟩
        rcases (putP_mem_iff hp).1 hq with hq | rfl
        · exact ⟨s, List.mem_cons_of_mem _ hs, q, hq, h1, h2⟩
        · have := hb1 s hs
          unfold LtP at this
          rw [h1, ltb_irrefl] at this; cases this
      · rintro ⟨s, hs, q, hq, h1, h2⟩
        rcases List.mem_cons.1 hs with rfl | hs
        · have := (putP_none ha).2 ⟨q, hq, h1, h2⟩
          rw [hp] at this; cases this
        · exact ⟨s, hs, q, (putP_mem_iff hp).2 (.inl hq), h1, h2⟩
theorem putAllP_mem_iff {u : Pre2} : ∀ {b a h : List Pre2}, putAllP a b = some h → (u ∈ h ↔ u ∈ a ∨ u ∈ b)
  | [], a, h, e => by simp [putAllP] at e; subst e; simp
  | q :: r, a, h, e => by
    unfold putAllP at e
    cases hp : putP a q with
    | none => rw [hp] at e; cases e
    | some h' =>
      rw [hp] at e
      rw [putAllP_mem_iff e, putP_mem_iff hp, List.mem_cons]
      constructor
      · rintro ((h1 | h1) | h1)
        · exact .inl h1
        · exact .inr (.inl h1)
        · exact .inr (.inr h1)
      · rintro (h1 | h1 | h1)
        · exact .inl (.inl h1)
        · exact .inl (.inr h1)
        · exact .inr h1
theorem row_asc {ts : List Pre2} (h : rowOk ts = true) : Asc ts := asc_of (by unfold rowOk at h; simp only [Bool.and_eq_true] at h; exact h.2)
theorem putAllP_comm {a b : List Pre2} (ha : Asc a) (hb : Asc b) : putAllP a b = putAllP b a := by
  have ha' := asc_iff.1 ha
  have hb' := asc_iff.1 hb
  cases h1 : putAllP a b with
  | none => exact ((putAllP_none_iff hb ha').2 ((putAllP_none_iff ha hb').1 h1).comm).symm
  | some g =>
    cases h2 : putAllP b a with
    | none => rw [(putAllP_none_iff ha hb').2 ((putAllP_none_iff hb ha').1 h2).comm] at h1; cases h1
    | some h =>
      congr 1
      refine ascP_ext (asc_iff.1 (putAllP_asc ha h1)) (asc_iff.1 (putAllP_asc hb h2)) fun t => ?_
      rw [putAllP_mem_iff h1, putAllP_mem_iff h2, Or.comm]
theorem merged_comm (a b : List Pre2) : mergedP a b = mergedP b a := by
  unfold mergedP
  by_cases h : rowOk a = true ∧ rowOk b = true
  · rw [if_pos h, if_pos h.symm, putAllP_comm (row_asc h.1) (row_asc h.2)]
  · rw [if_neg h, if_neg (fun k => h k.symm)]
theorem merged_parts {a b m : List Pre2} (h : mergedP a b = some m) : rowOk a = true ∧ rowOk b = true ∧ rowOk m = true ∧ putAllP a b = some m := by
  unfold mergedP at h
  split at h
  · rename_i hr
    split at h
    · rename_i g hg
      split at h
      · rename_i hm
        cases h
        exact ⟨hr.1, hr.2, hm, hg⟩
      · cases h
    · cases h
  · cases h
theorem merged_self {a b m : List Pre2} (h : mergedP a b = some m) : mergedP m a = some m := by
  obtain ⟨ha, hb, hm, hp⟩ := merged_parts h
  have h1 : putAllP m a = some m := by
    cases h2 : putAllP m a with
    | none =>
      obtain ⟨p, hpa, q, hqm, e1, e2⟩ := (putAllP_none_iff (row_asc hm) (asc_iff.1 (row_asc ha))).1 h2
      exact absurd (by rw [asc_name (row_asc hm) hqm ((putAllP_mem_iff hp).2 (.inl hpa)) e1]) e2
    | some g =>
      congr 1
      refine ascP_ext (asc_iff.1 (putAllP_asc (row_asc hm) h2)) (asc_iff.1 (row_asc hm)) fun t => ?_
      rw [putAllP_mem_iff h2]
      exact ⟨fun h => h.elim id (fun h => (putAllP_mem_iff hp).2 (.inl h)), .inl⟩
  unfold mergedP
  rw [if_pos ⟨hm, ha⟩, h1]
  show (if rowOk m = true then some m else none) = some m
  rw [if_pos hm]
theorem merged_len {a b m : List Pre2} (h : mergedP a b = some m) : m.length ≤ a.length + b.length := putAllP_len (merged_parts h).2.2.2
end Go.Proofs.Ytegjbfbmhlaelaa
