/- Each way to choose two triples that agree is a row: plain facts. -/
import Derived.Test.YtmiiaebelncdhaaGreatG34
import Derived.Test.YtmiiaebelncdhaaGreatG12
import Derived.Test.YtmiiaebelncdhaaGreatG10
import Derived.Test.YtmiiaebelncdhaaGreatG01
import Derived.Deep.QuietTactic
import Derived.BigQuiet
import Derived.Laws.AppendOwnNone
import Derived.Deep.RegionHeld3
import Derived.Test.YtmiiaebelncdhaaGreatG08
import Derived.Test.YtmiiaebelncdhaaGreatG14
namespace Go.Proofs.YtmiiaebelncdhaaGreat
open Go.RowKit Go.WideShapes Go.Maps Go.Sort Go.Shelf
theorem ltP_asymm {t u : Pre2} (h : LtP t u) : ¬ LtP u t := by
  unfold LtP at *
  intro g
  rw [ltb_asymm _ _ h] at g
  cases g
theorem ascP_nodup {g : List Pre2} (h : AscP g) : g.Nodup := List.Pairwise.imp (fun {a b} h e => by subst e; exact ltP_asymm h h) h
theorem asc_ext {g h : RowV} (hg : Asc g) (hh : Asc h) (hm : ∀ u, u ∈ g ↔ u ∈ h) : g = h := by
  have hg := asc_iff.1 hg
  have hh := asc_iff.1 hh
  exact List.Perm.eq_of_pairwise (le := LtP) (fun x y _ _ h1 h2 => absurd h2 (ltP_asymm h1)) hg hh ((List.perm_ext_iff_of_nodup (ascP_nodup hg) (ascP_nodup hh)).2 hm)
/-- Two pairs of one name that differ. -/
def Clash (S : Pre2 → Prop) : Prop := ∃ x y : Pre2, S x ∧ S y ∧ x.1 = y.1 ∧ x ≠ y
theorem no_clash {h : RowV} (ha : Asc h) {S : Pre2 → Prop} (hs : ∀ u, S u → u ∈ h) : ¬ Clash S := by
  rintro ⟨x, y, hx, hy, e, hn⟩
  exact hn (asc_uniq ha (hs x hx) (hs y hy) e)
theorem putP_clash {g : List Pre2} {p : Pre2} (e : putP g p = none) : Clash (fun u => u ∈ g ∨ u = p) := by
  unfold putP at e
  split at e
  · rename_i q hq
    split at e
    · rename_i h1
      split at e
      · cases e
      · rename_i h2
        exact ⟨q, p, .inl (List.mem_of_getElem? hq), .inr rfl, h1, fun e => h2 (by rw [e])⟩
    · cases e
  · cases e
/-- Just these pairs, in order. -/
def JustP (h : RowV) (S : Pre2 → Prop) : Prop := Asc h ∧ ∀ u, u ∈ h ↔ S u
theorem JustP.one {h k : RowV} {S : Pre2 → Prop} (a : JustP h S) (b : JustP k S) : h = k := asc_ext a.1 b.1 (fun u => (a.2 u).trans (b.2 u).symm)
theorem putP_just {g h : List Pre2} {p : Pre2} (ha : Asc g) (e : putP g p = some h) : JustP h (fun u => u ∈ g ∨ u = p) :=
  ⟨putP_asc ha e, fun u => ⟨fun hu => (putP_mem e hu).symm, fun hu => by
    rcases hu with hu | rfl
    · exact putP_sub e u hu
    · exact putP_has e⟩⟩
theorem putAllP_just : ∀ {b a h : List Pre2}, Asc a → putAllP a b = some h → JustP h (fun u => u ∈ a ∨ u ∈ b)
  | [], a, h, ha, e => by
    simp only [putAllP, Option.some.injEq] at e
    subst e
    exact ⟨ha, fun u => by simp⟩
  | p :: r, a, h, ha, e => by
    unfold putAllP at e
    cases hp : putP a p with
    | none => rw [hp] at e; cases e
    | some h' =>
      rw [hp] at e
      obtain ⟨h1, h2⟩ := putP_just ha hp
      obtain ⟨k1, k2⟩ := putAllP_just h1 e
      have h2' : ∀ u, u ∈ h' ↔ (u ∈ a ∨ u = p) := h2
      have k2' : ∀ u, u ∈ h ↔ (u ∈ h' ∨ u ∈ r) := k2
      refine ⟨k1, fun u => ?_⟩
      show u ∈ h ↔ (u ∈ a ∨ u ∈ p :: r)
      rw [k2', h2', List.mem_cons, or_assoc]
theorem putAllP_clash : ∀ {b a : List Pre2}, Asc a → putAllP a b = none → Clash (fun u => u ∈ a ∨ u ∈ b)
  | [], a, ha, e => by simp [putAllP] at e
  | p :: r, a, ha, e => by
    unfold putAllP at e
    cases hp : putP a p with
    | none =>
      obtain ⟨x, y, hx, hy, h1, h2⟩ := putP_clash hp
      exact ⟨x, y, hx.imp id (fun e => by rw [e]; exact List.mem_cons_self ..), hy.imp id (fun e => by rw [e]; exact List.mem_cons_self ..), h1, h2⟩
    | some h' =>
      rw [hp] at e
      obtain ⟨h1, h2⟩ := putP_just ha hp
      obtain ⟨x, y, hx, hy, k1, k2⟩ := putAllP_clash h1 e
      have h2' : ∀ u, u ∈ h' ↔ (u ∈ a ∨ u = p) := h2
      have f : ∀ u, u ∈ h' ∨ u ∈ r → u ∈ a ∨ u ∈ p :: r := fun u hu => by
        rw [h2', or_assoc] at hu
        rwa [List.mem_cons]
      exact ⟨x, y, f x hx, f y hy, k1, k2⟩
def newS (p t : ByteArray) (u : Pre2) : Prop := isVarK p.data.toList = true ∧ u = (p, t)
def FitS (p t : ByteArray) : Prop := isVarK p.data.toList = false → p = t
theorem stepM_just {r h : RowV} {p t : ByteArray} (ha : Asc r) (e : stepM r p t = some h) : JustP h (fun u => u ∈ r ∨ newS p t u) ∧ FitS p t := by
  unfold stepM at e
  by_cases hv : isVarK p.data.toList = true
  · rw [if_pos hv] at e
    obtain ⟨h1, h2⟩ := putP_just ha e
    have h2' : ∀ u, u ∈ h ↔ (u ∈ r ∨ u = (p, t)) := h2
    exact ⟨⟨h1, fun u => (h2' u).trans ⟨fun k => k.imp id (fun e => ⟨hv, e⟩), fun k => k.imp id (fun e => e.2)⟩⟩, fun hn => by rw [hv] at hn; cases hn⟩
  · rw [if_neg hv] at e
    by_cases hp : p = t
    · rw [if_pos hp] at e
      cases e
      exact ⟨⟨ha, fun u => ⟨.inl, fun k => by
        rcases k with k | k
        · exact k
        · exact absurd k.1 hv⟩⟩, fun _ => hp⟩
    · rw [if_neg hp] at e; cases e
theorem stepM_clash {r : RowV} {p t : ByteArray} (e : stepM r p t = none) (hf : FitS p t) : Clash (fun u => u ∈ r ∨ newS p t u) := by
  unfold stepM at e
  by_cases hv : isVarK p.data.toList = true
  · rw [if_pos hv] at e
    obtain ⟨x, y, hx, hy, h1, h2⟩ := putP_clash e
    exact ⟨x, y, hx.imp id (fun e => ⟨hv, e⟩), hy.imp id (fun e => ⟨hv, e⟩), h1, h2⟩
  · rw [if_neg hv] at e
    rw [if_pos (hf (by simpa using hv))] at e
    cases e
def newT (p t : Tri3) (u : Pre2) : Prop := newS p.1 t.1 u ∨ newS p.2.1 t.2.1 u ∨ newS p.2.2 t.2.2 u
def FitT (p t : Tri3) : Prop := FitS p.1 t.1 ∧ FitS p.2.1 t.2.1 ∧ FitS p.2.2 t.2.2
theorem matchM_just {r h : RowV} {p t : Tri3} (ha : Asc r) (e : matchM r p t = some h) : JustP h (fun u => u ∈ r ∨ newT p t u) ∧ FitT p t := by
  obtain ⟨a, b, e1, e2, e3⟩ := matchM_parts e
  obtain ⟨⟨a1, a2⟩, f1⟩ := stepM_just ha e1
  obtain ⟨⟨b1, b2⟩, f2⟩ := stepM_just a1 e2
  obtain ⟨⟨c1, c2⟩, f3⟩ := stepM_just b1 e3
  refine ⟨⟨c1, fun u => ?_⟩, f1, f2, f3⟩
  have x1 : u ∈ a ↔ (u ∈ r ∨ newS p.1 t.1 u) := a2 u
  have x2 : u ∈ b ↔ (u ∈ a ∨ newS p.2.1 t.2.1 u) := b2 u
  have x3 : u ∈ h ↔ (u ∈ b ∨ newS p.2.2 t.2.2 u) := c2 u
  show u ∈ h ↔ (u ∈ r ∨ newT p t u)
  unfold newT
  rw [x3, x2, x1, or_assoc, or_assoc]
theorem matchM_clash {r : RowV} {p t : Tri3} (ha : Asc r) (e : matchM r p t = none) (hf : FitT p t) : Clash (fun u => u ∈ r ∨ newT p t u) := by
  unfold matchM at e
  cases h1 : stepM r p.1 t.1 with
  | none =>
    obtain ⟨x, y, hx, hy, k1, k2⟩ := stepM_clash h1 hf.1
    exact ⟨x, y, hx.imp id .inl, hy.imp id .inl, k1, k2⟩
  | some a =>
    obtain ⟨⟨a1, a2⟩, _⟩ := stepM_just ha h1
    have a2' : ∀ u, u ∈ a ↔ (u ∈ r ∨ newS p.1 t.1 u) := a2
    rw [h1, Option.bind_some] at e
    cases h2 : stepM a p.2.1 t.2.1 with
    | none =>
      obtain ⟨x, y, hx, hy, k1, k2⟩ := stepM_clash h2 hf.2.1
      have f : ∀ u, u ∈ a ∨ newS p.2.1 t.2.1 u → u ∈ r ∨ newT p t u := fun u hu => by
        rw [a2'] at hu
        rcases hu with (hu | hu) | hu
        · exact .inl hu
        · exact .inr (.inl hu)
        · exact .inr (.inr (.inl hu))
      exact ⟨x, y, f x hx, f y hy, k1, k2⟩
    | some b =>
      obtain ⟨⟨b1, b2⟩, _⟩ := stepM_just a1 h2
      have b2' : ∀ u, u ∈ b ↔ (u ∈ a ∨ newS p.2.1 t.2.1 u) := b2
      rw [h2, Option.bind_some] at e
      obtain ⟨x, y, hx, hy, k1, k2⟩ := stepM_clash e hf.2.2
      have f : ∀ u, u ∈ b ∨ newS p.2.2 t.2.2 u → u ∈ r ∨ newT p t u := fun u hu => by
        rw [b2', a2'] at hu
        rcases hu with ((hu | hu) | hu) | hu
        · exact .inl hu
        · exact .inr (.inl hu)
        · exact .inr (.inr (.inl hu))
        · exact .inr (.inr (.inr hu))
      exact ⟨x, y, f x hx, f y hy, k1, k2⟩
/-- A row, and what a pattern alone gives, merged: what the pattern gives from the row on. -/
theorem match_merge {a b : RowV} {q u : Tri3} (ha : Asc a) (hb : matchM [] q u = some b) : putAllP a b = matchM a q u := by
  obtain ⟨⟨b1, b2⟩, hf⟩ := matchM_just goodR_nil.1 hb
  have b2' : ∀ x, x ∈ b ↔ newT q u x := fun x => (b2 x).trans ⟨fun k => by
    rcases k with k | k
    · simp at k
    · exact k, .inr⟩
  have hS : (fun x => x ∈ a ∨ x ∈ b) = (fun x => x ∈ a ∨ newT q u x) := by
    funext x
    rw [b2']
  cases h1 : putAllP a b with
  | none =>
    cases h2 : matchM a q u with
    | none => rfl
    | some h =>
      obtain ⟨⟨c1, c2⟩, _⟩ := matchM_just ha h2
      have := putAllP_clash ha h1
      rw [hS] at this
      exact absurd this (no_clash c1 (fun x hx => (c2 x).2 hx))
  | some h =>
    cases h2 : matchM a q u with
    | none =>
      obtain ⟨c1, c2⟩ := putAllP_just ha h1
      have := matchM_clash ha h2 hf
      rw [← hS] at this
      exact absurd this (no_clash c1 (fun x hx => (c2 x).2 hx))
    | some k =>
      have j1 := putAllP_just ha h1
      have j2 := (matchM_just ha h2).1
      rw [hS] at j1
      rw [j1.one j2]
theorem match_none {a : RowV} {q u : Tri3} (ha : Asc a) (hb : matchM [] q u = none) : matchM a q u = none := by
  cases h : matchM a q u with
  | none => rfl
  | some k =>
    obtain ⟨⟨c1, c2⟩, hf⟩ := matchM_just ha h
    refine absurd (matchM_clash goodR_nil.1 hb hf) (no_clash c1 (fun x hx => (c2 x).2 ?_))
    rcases hx with hx | hx
    · simp at hx
    · exact .inr hx
theorem joinM_nil (g : List Tri3) (p : Tri3) : joinM g p [[]] = g.filterMap fun t => matchM [] p t := by simp [joinM]
theorem joinM_app (g : List Tri3) (q : Tri3) (r s : List RowV) : joinM g q (r ++ s) = joinM g q r ++ joinM g q s := by simp [joinM]
theorem addAllR_opt (o : Option RowV) : addAllR [] o.toList = o.toList := by
  cases o with
  | none => rfl
  | some r => exact addR_more (rs := []) (k := 0) rfl (by simp)
theorem opt_len (o : Option RowV) : o.toList.length ≤ 1 := by cases o <;> simp
/-- What one triple gives to one pattern. -/
theorem sol_one {t p : Tri3} (ht : okT t = true) (hp : patT p = true) : solOk [t] [p] = true ∧ solR [t] [p] = (matchM [] p t).toList := by
  have hg : graphOk [t] = true := graphOk_iff.2 ⟨by simp, by simpa using ht, List.pairwise_singleton _ _⟩
  have hl : bgpOk [p] = true := bgpOk_iff.2 ⟨by simp, by simpa using hp⟩
  have hj : joinM [t] p [[]] = (matchM [] p t).toList := by
    rw [joinM_nil]
    cases h : matchM [] p t <;> simp [h]
  have hc : contM [t] [p] [[]] = some (matchM [] p t).toList := by
    unfold contM
    rw [hj, if_pos (by have := opt_len (matchM [] p t); omega)]
    rfl
  have hs := solve_cont hg hl
  rw [hc] at hs
  unfold solOk solR
  rw [hg, hl, hs]
  exact ⟨rfl, addAllR_opt _⟩
/-- How many pairs of triples agree: of all first ones up to i; of a first row with the second ones up to k. -/
def cntA (gs : List Tri3) (p q : Tri3) (i : Nat) : Nat := (joinM gs q (joinM (gs.take i) p [[]])).length
def cntB (gs : List Tri3) (q : Tri3) (o : Option RowV) (k : Nat) : Nat := (joinM (gs.take k) q o.toList).length
theorem filter_step {gs : List Tri3} {p t : Tri3} {i : Nat} (h : gs[i]? = some t) : joinM (gs.take (i + 1)) p [[]] = joinM (gs.take i) p [[]] ++ (matchM [] p t).toList := by
  obtain ⟨hi, rfl⟩ := List.getElem?_eq_some_iff.1 h
  rw [joinM_nil, joinM_nil, List.take_succ_eq_append_getElem hi, List.filterMap_append]
  congr 1
theorem cntA_step {gs : List Tri3} {p q t : Tri3} {i : Nat} (h : gs[i]? = some t) : cntA gs p q (i + 1) = cntA gs p q i + cntB gs q (matchM [] p t) gs.length := by
  unfold cntA cntB
  rw [filter_step h, joinM_app, List.length_append, List.take_length]
theorem cntB_none (gs : List Tri3) (q : Tri3) (k : Nat) : cntB gs q none k = 0 := by simp [cntB, joinM]
theorem cntB_zero (gs : List Tri3) (q : Tri3) (o : Option RowV) : cntB gs q o 0 = 0 := by cases o <;> simp [cntB, joinM]
theorem cntB_step {gs : List Tri3} {q u : Tri3} {a : RowV} {k : Nat} (h : gs[k]? = some u) : cntB gs q (some a) (k + 1) = cntB gs q (some a) k + (matchM a q u).toList.length := by
  obtain ⟨hk, rfl⟩ := List.getElem?_eq_some_iff.1 h
  unfold cntB joinM
  simp only [Option.toList_some, List.flatMap_cons, List.flatMap_nil, List.append_nil]
  rw [List.take_succ_eq_append_getElem hk, List.filterMap_append, List.length_append]
  congr 1
theorem cntB_mono {gs : List Tri3} {q : Tri3} {o : Option RowV} {k : Nat} : cntB gs q o k ≤ cntB gs q o gs.length := by
  cases o with
  | none => rw [cntB_none]; exact Nat.zero_le _
  | some a =>
    unfold cntB joinM
    simp only [Option.toList_some, List.flatMap_cons, List.flatMap_nil, List.append_nil]
    rw [List.take_length]
    conv => rhs; rw [← List.take_append_drop k gs, List.filterMap_append, List.length_append]
    omega
theorem cntA_all (gs : List Tri3) (p q : Tri3) : cntA gs p q gs.length = (joinM gs q (joinM gs p [[]])).length := by
  unfold cntA
  rw [List.take_length]
theorem cntA_mono {gs : List Tri3} {p q : Tri3} {i : Nat} : cntA gs p q i ≤ cntA gs p q gs.length := by
  rw [cntA_all]
  unfold cntA
  have e : joinM gs p [[]] = joinM (gs.take i) p [[]] ++ joinM (gs.drop i) p [[]] := by
    rw [joinM_nil, joinM_nil, joinM_nil, ← List.filterMap_append, List.take_append_drop]
  rw [e, joinM_app, List.length_append]
  omega
/-- What two patterns tell. -/
theorem sol_two {gs : List Tri3} {p q : Tri3} (h : solOk gs [p, q] = true) : (solR gs [p, q]).length = cntA gs p q gs.length ∧ cntA gs p q gs.length ≤ 300 ∧ ∀ m, m ∈ solR gs [p, q] ↔ m ∈ joinM gs q (joinM gs p [[]]) := by
  obtain ⟨hg, hl, R, hc, e, hn, hz⟩ := solR_cases h
  have hR : R = joinM gs q (joinM gs p [[]]) := by
    unfold contM at hc
    split at hc
    · unfold contM at hc
      split at hc
      · unfold contM at hc
        exact (Option.some.inj hc).symm
      · cases hc
    · cases hc
  have hl := (addAllR_perm hn hz).length_eq
  have h3 := solR_len (gs := gs) (ls := [p, q])
  rw [e] at h3
  rw [cntA_all, ← hR, e]
  exact ⟨hl, by omega, addAllR_iff hn hz⟩
theorem merged_is {a b : RowV} {o : Option RowV} (ha : rowOk a = true) (hb : rowOk b = true) (hm : ∀ h, o = some h → rowOk h = true) (e : putAllP a b = o) : mergedP a b = o := by
  unfold mergedP
  rw [if_pos ⟨ha, hb⟩, e]
  cases o with
  | none => rfl
  | some h => exact if_pos (hm h rfl)
/-- What the pair of triples tells when it is told. -/
theorem pair_row {gs : List Tri3} {p q t u : Tri3} {a m : RowV} (ht : t ∈ gs) (hu : u ∈ gs) (ha : matchM [] p t = some a) (hm : matchM a q u = some m) : m ∈ joinM gs q (joinM gs p [[]]) :=
  joinM_mem.2 ⟨a, joinM_mem.2 ⟨[], by simp, t, ht, ha⟩, u, hu, hm⟩
end Go.Proofs.YtmiiaebelncdhaaGreat
/- The specification's look for a triple. -/
namespace Go.Proofs.YtmiiaebelncdhaaGreat
open Go.RowKit Go.WideShapes
end Go.Proofs.YtmiiaebelncdhaaGreat
/- SpecL, the rest. -/
namespace Go.Proofs.YtmiiaebelncdhaaGreat
open Go.RowKit Go.WideShapes
theorem lessT_snoc (g : List Tri3) (t u : Tri3) : lessT (g ++ [u]) t = if u = t then lessT g t else lessT g t ++ [u] := by
  unfold lessT
  rw [List.filter_append]
  by_cases h : u = t <;> simp [h]
open Go.RowKit Go.WideShapes
end Go.Proofs.YtmiiaebelncdhaaGreat
