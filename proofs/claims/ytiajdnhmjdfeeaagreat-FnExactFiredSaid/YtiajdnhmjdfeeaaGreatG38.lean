/- Each way to choose two triples that agree is a row: plain facts. -/
import Derived.Test.YtiajdnhmjdfeeaaGreatG32
import Derived.Test.YtiajdnhmjdfeeaaGreatG33
import Derived.Test.YtiajdnhmjdfeeaaGreatG16
import Derived.Test.YtiajdnhmjdfeeaaGreatG17
import Derived.Deep.RegionHeld3
namespace Go.Proofs.YtiajdnhmjdfeeaaGreat
open Go.RowKit Go.WideShapes Go.Maps Go.Sort Go.Shelf
theorem ltP_asymm {t u : Pre2} (h : LtP t u) : ¬ LtP u t := by
  unfold LtP at *
  intro g
  rw [ltb_asymm _ _ h] at g
  cases g
theorem ascP_nodup {g : List Pre2} (h : AscP g) : g.Nodup := List.Pairwise.imp (fun {a b} h e => by subst e; exact ltP_asymm h h) h
theorem asc_ext {g h : RowV} (hg : Asc g) (hh : Asc h) (hm : ∀ u, u ∈ g ↔ u ∈ h) : g = h := by
  have hg := asc_iff.1 hg
  have hh := asc_iff.1 hh
  exact List.Perm.eq_of_pairwise (le := LtP) (fun x y _ _ h1 h2 => absurd h2 (ltP_asymm h1)) hg hh ((List.perm_ext_iff_of_nodup (ascP_nodup hg) (ascP_nodup hh)).2 hm)
/-- Two pairs of one name that differ. -/
def Clash (S : Pre2 → Prop) : Prop := ∃ x y : Pre2, S x ∧ S y ∧ x.1 = y.1 ∧ x ≠ y
theorem no_clash {h : RowV} (ha : Asc h) {S : Pre2 → Prop} (hs : ∀ u, S u → u ∈ h) : ¬ Clash S := by
  rintro ⟨x, y, hx, hy, e, hn⟩
  exact hn (asc_uniq ha (hs x hx) (hs y hy) e)
theorem putP_clash {g : List Pre2} {p : Pre2} (e : putP g p = none) : Clash (fun u => u ∈ g ∨ u = p) := by
  unfold putP at e
  split at e
  · rename_i q hq
    split at e
    · rename_i h1
      split at e
      · cases e
      · rename_i h2
        exact ⟨q, p, .inl (List.mem_of_getElem? hq), .inr rfl, h1, fun e => h2 (by rw [e])⟩
    · cases e
  · cases e
/-- Just these pairs, in order. -/
def JustP (h : RowV) (S : Pre2 → Prop) : Prop := Asc h ∧ ∀ u, u ∈ h ↔ S u
theorem JustP.one {h k : RowV} {S : Pre2 → Prop} (a : JustP h S) (b : JustP k S) : h = k := asc_ext a.1 b.1 (fun u => (a.2 u).trans (b.2 u).symm)
theorem putP_just {g h : List Pre2} {p : Pre2} (ha : Asc g) (e : putP g p = some h) : JustP h (fun u => u ∈ g ∨ u = p) :=
  ⟨putP_asc ha e, fun u => ⟨fun hu => (putP_mem e hu).symm, fun hu => by
    rcases hu with hu | rfl
    · exact putP_sub e u hu
    · exact putP_has e⟩⟩
theorem putAllP_just : ∀ {b a h : List Pre2}, Asc a → putAllP a b = some h → JustP h (fun u => u ∈ a ∨ u ∈ b)
  | [], a, h, ha, e => by
    simp only [putAllP, Option.some.injEq] at e
    subst e
    exact ⟨ha, fun u => by simp⟩
  | p :: r, a, h, ha, e => by
    unfold putAllP at e
    cases hp : putP a p with
    | none => rw [hp] at e; cases e
    | some h' =>
      rw [hp] at e
      obtain ⟨h1, h2⟩ := putP_just ha hp
      obtain ⟨k1, k2⟩ := putAllP_just h1 e
      have h2' : ∀ u, u ∈ h' ↔ (u ∈ a ∨ u = p) := h2
      have k2' : ∀ u, u ∈ h ↔ (u ∈ h' ∨ u ∈ r) := k2
      refine ⟨k1, fun u => ?_⟩
      show u ∈ h ↔ (u ∈ a ∨ u ∈ p :: r)
      rw [k2', h2', List.mem_cons, or_assoc]
theorem putAllP_clash : ∀ {b a : List Pre2}, Asc a → putAllP a b = none → Clash (fun u => u ∈ a ∨ u ∈ b)
  | [], a, ha, e => by simp [putAllP] at e
  | p :: r, a, ha, e => by
    unfold putAllP at e
    cases hp : putP a p with
    | none =>
      obtain ⟨x, y, hx, hy, h1, h2⟩ := putP_clash hp
      exact ⟨x, y, hx.imp id (fun e => by rw [e]; exact List.mem_cons_self ..), hy.imp id (fun e => by rw [e]; exact List.mem_cons_self ..), h1, h2⟩
    | some h' =>
      rw [hp] at e
      obtain ⟨h1, h2⟩ := putP_just ha hp
      obtain ⟨x, y, hx, hy, k1, k2⟩ := putAllP_clash h1 e
      have h2' : ∀ u, u ∈ h' ↔ (u ∈ a ∨ u = p) := h2
      have f : ∀ u, u ∈ h' ∨ u ∈ r → u ∈ a ∨ u ∈ p :: r := fun u hu => by
        rw [h2', or_assoc] at hu
        rwa [List.mem_cons]
      exact ⟨x, y, f x hx, f y hy, k1, k2⟩
def newS (p t : ByteArray) (u : Pre2) : Prop := isVarK p.data.toList = true ∧ u = (p, t)
def FitS (p t : ByteArray) : Prop := isVarK p.data.toList = false → p = t
theorem stepM_just {r h : RowV} {p t : ByteArray} (ha : Asc r) (e : stepM r p t = some h) : JustP h (fun u => u ∈ r ∨ newS p t u) ∧ FitS p t := by
  unfold stepM at e
  by_cases hv : isVarK p.data.toList = true
  · rw [if_pos hv] at e
    obtain ⟨h1, h2⟩ := putP_just ha e
    have h2' : ∀ u, u ∈ h ↔ (u ∈ r ∨ u = (p, t)) := h2
    exact ⟨⟨h1, fun u => (h2' u).trans ⟨fun k => k.imp id (fun e => ⟨hv, e⟩), fun k => k.imp id (fun e => e.2)⟩⟩, fun hn => by rw [hv] at hn; cases hn⟩
  · rw [if_neg hv] at e
    by_cases hp : p = t
    · rw [if_pos hp] at e
      cases e
      exact ⟨⟨ha, fun u => ⟨.inl, fun k => by
        rcases k with k | k
        · exact k
        · exact absurd k.1 hv⟩⟩, fun _ => hp⟩
    · rw [if_neg hp] at e; cases e
theorem stepM_clash {r : RowV} {p t : ByteArray} (e : stepM r p t = none) (hf : FitS p t) : Clash (fun u => u ∈ r ∨ newS p t u) := by
  unfold stepM at e
  by_cases hv : isVarK p.data.toList = true
  · rw [if_pos hv] at e
    obtain ⟨x, y, hx, hy, h1, h2⟩ := putP_clash e
    exact ⟨x, y, hx.imp id (fun e => ⟨hv, e⟩), hy.imp id (fun e => ⟨hv, e⟩), h1, h2⟩
  · rw [if_neg hv] at e
    rw [if_pos (hf (by simpa using hv))] at e
    cases e
def newT (p t : Tri3) (u : Pre2) : Prop := newS p.1 t.1 u ∨ newS p.2.1 t.2.1 u ∨ newS p.2.2 t.2.2 u
def FitT (p t : Tri3) : Prop := FitS p.1 t.1 ∧ FitS p.2.1 t.2.1 ∧ FitS p.2.2 t.2.2
theorem matchM_just {r h : RowV} {p t : Tri3} (ha : Asc r) (e : matchM r p t = some h) : JustP h (fun u => u ∈ r ∨ newT p t u) ∧ FitT p t := by
  obtain ⟨a, b, e1, e2, e3⟩ := matchM_parts e
  obtain ⟨⟨a1, a2⟩, f1⟩ := stepM_just ha e1
  obtain ⟨⟨b1, b2⟩, f2⟩ := stepM_just a1 e2
  obtain ⟨⟨c1, c2⟩, f3⟩ := stepM_just b1 e3
  refine ⟨⟨c1, fun u => ?_⟩, f1, f2, f3⟩
  have x1 : u ∈ a ↔ (u ∈ r ∨ newS p.1 t.1 u) := a2 u
  have x2 : u ∈ b ↔ (u ∈ a ∨ newS p.2.1 t.2.1 u) := b2 u
  have x3 : u ∈ h ↔ (u ∈ b ∨ newS p.2.2 t.2.2 u) := c2 u
  show u ∈ h ↔ (u ∈ r ∨ newT p t u)
  unfold newT
  rw [x3, x2, x1, or_assoc, or_assoc]
theorem matchM_clash {r : RowV} {p t : Tri3} (ha : Asc r) (e : matchM r p t = none) (hf : FitT p t) : Clash (fun u => u ∈ r ∨ newT p t u) := by
  unfold matchM at e
  cases h1 : stepM r p.1 t.1 with
  | none =>
    obtain ⟨x, y, hx, hy, k1, k2⟩ := stepM_clash h1 hf.1
    exact ⟨x, y, hx.imp id .inl, hy.imp id .inl, k1, k2⟩
  | some a =>
    obtain ⟨⟨a1, a2⟩, _⟩ := stepM_just ha h1
    have a2' : ∀ u, u ∈ a ↔ (u ∈ r ∨ newS p.1 t.1 u) := a2
    rw [h1, Option.bind_some] at e
    cases h2 : stepM a p.2.1 t.2.1 with
    | none =>
      obtain ⟨x, y, hx, hy, k1, k2⟩ := stepM_clash h2 hf.2.1
      have f : ∀ u, u ∈ a ∨ newS p.2.1 t.2.1 u → u ∈ r ∨ newT p t u := fun u hu => by
        rw [a2'] at hu
        rcases hu with (hu | hu) | hu
        · exact .inl hu
        · exact .inr (.inl hu)
        · exact .inr (.inr (.inl hu))
      exact ⟨x, y, f x hx, f y hy, k1, k2⟩
    | some b =>
      obtain ⟨⟨b1, b2⟩, _⟩ := stepM_just a1 h2
      have b2' : ∀ u, u ∈ b ↔ (u ∈ a ∨ newS p.2.1 t.2.1 u) := b2
      rw [h2, Option.bind_some] at e
      obtain ⟨x, y, hx, hy, k1, k2⟩ := stepM_clash e hf.2.2
      have f : ∀ u, u ∈ b ∨ newS p.2.2 t.2.2 u → u ∈ r ∨ newT p t u := fun u hu => by
        rw [b2', a2'] at hu
        rcases hu with ((hu | hu) | hu) | hu
        · exact .inl hu
        · exact .inr (.inl hu)
        · exact .inr (.inr (.inl hu))
        · exact .inr (.inr (.inr hu))
      exact ⟨x, y, f x hx, f y hy, k1, k2⟩
/-- A row, and what a pattern alone gives, merged: what the pattern gives from the row on. -/
theorem match_merge {a b : RowV} {q u : Tri3} (ha : Asc a) (hb : matchM [] q u = some b) : putAllP a b = matchM a q u := by
  obtain ⟨⟨b1, b2⟩, hf⟩ := matchM_just goodR_nil.1 hb
  have b2' : ∀ x, x ∈ b ↔ newT q u x := fun x => (b2 x).trans ⟨fun k => by
    rcases k with k | k
    · simp at k
    · exact k, .inr⟩
  have hS : (fun x => x ∈ a ∨ x ∈ b) = (fun x => x ∈ a ∨ newT q u x) := by
    funext x
    rw [b2']
  cases h1 : putAllP a b with
  | none =>
    cases h2 : matchM a q u with
    | none => rfl
    | some h =>
      obtain ⟨⟨c1, c2⟩, _⟩ := matchM_just ha h2
      have := putAllP_clash ha h1
      rw [hS] at this
      exact absurd this (no_clash c1 (fun x hx => (c2 x).2 hx))
  | some h =>
    cases h2 : matchM a q u with
    | none =>
      obtain ⟨c1, c2⟩ := putAllP_just ha h1
      have := matchM_clash ha h2 hf
      rw [← hS] at this
      exact absurd this (no_clash c1 (fun x hx => (c2 x).2 hx))
    | some k =>
      have j1 := putAllP_just ha h1
      have j2 := (matchM_just ha h2).1
      rw [hS] at j1
      rw [j1.one j2]
theorem match_none {a : RowV} {q u : Tri3} (ha : Asc a) (hb : matchM [] q u = none) : matchM a q u = none := by
  cases h : matchM a q u with
  | none => rfl
  | some k =>
    obtain ⟨⟨c1, c2⟩, hf⟩ := matchM_just ha h
    refine absurd (matchM_clash goodR_nil.1 hb hf) (no_clash c1 (fun x hx => (c2 x).2 ?_))
    rcases hx with hx | hx
    · simp at hx
    · exact .inr hx
theorem joinM_nil (g : List Tri3) (p : Tri3) : joinM g p [[]] = g.filterMap fun t => matchM [] p t := by simp [joinM]
theorem joinM_app (g : List Tri3) (q : Tri3) (r s : List RowV) : joinM g q (r ++ s) = joinM g q r ++ joinM g q s := by simp [joinM]
theorem addAllR_opt (o : Option RowV) : addAllR [] o.toList = o.toList := by
  cases o with
  | none => rfl
  | some r => exact addR_more (rs := []) (k := 0) rfl (by simp)
theorem opt_len (o : Option RowV) : o.toList.length ≤ 1 := by cases o <;> simp
/-- What one triple gives to one pattern. -/
theorem sol_one {t p : Tri3} (ht : okT t = true) (hp : patT p = true) : solOk [t] [p] = true ∧ solR [t] [p] = (matchM [] p t).toList := by
  have hg : graphOk [t] = true := graphOk_iff.2 ⟨by simp, by simpa using ht, List.pairwise_singleton _ _⟩
  have hl : bgpOk [p] = true := bgpOk_iff.2 ⟨by simp, by simpa using hp⟩
  have hj : joinM [t] p [[]] = (matchM [] p t).toList := by
    rw [joinM_nil]
    cases h : matchM [] p t <;> simp [h]
  have hc : contM [t] [p] [[]] = some (matchM [] p t).toList := by
    unfold contM
    rw [hj, if_pos (by have := opt_len (matchM [] p t); omega)]
    rfl
  have hs := solve_cont hg hl
  rw [hc] at hs
  unfold solOk solR
  rw [hg, hl, hs]
  exact ⟨rfl, addAllR_opt _⟩
/-- How many pairs of triples agree: of all first ones up to i; of a first row with the second ones up to k. -/
def cntA (gs : List Tri3) (p q : Tri3) (i : Nat) : Nat := (joinM gs q (joinM (gs.take i) p [[]])).length
def cntB (gs : List Tri3) (q : Tri3) (o : Option RowV) (k : Nat) : Nat := (joinM (gs.take k) q o.toList).length
theorem filter_step {gs : List Tri3} {p t : Tri3} {i : Nat} (h : gs[i]? = some t) : joinM (gs.take (i + 1)) p [[]] = joinM (gs.take i) p [[]] ++ (matchM [] p t).toList := by
  obtain ⟨hi, rfl⟩ := List.getElem?_eq_some_iff.1 h
  rw [joinM_nil, joinM_nil, List.take_succ_eq_append_getElem hi, List.filterMap_append]
  congr 1
theorem cntA_step {gs : List Tri3} {p q t : Tri3} {i : Nat} (h : gs[i]? = some t) : cntA gs p q (i + 1) = cntA gs p q i + cntB gs q (matchM [] p t) gs.length := by
  unfold cntA cntB
  rw [filter_step h, joinM_app, List.length_append, List.take_length]
theorem cntB_none (gs : List Tri3) (q : Tri3) (k : Nat) : cntB gs q none k = 0 := by simp [cntB, joinM]
theorem cntB_zero (gs : List Tri3) (q : Tri3) (o : Option RowV) : cntB gs q o 0 = 0 := by cases o <;> simp [cntB, joinM]
theorem cntB_step {gs : List Tri3} {q u : Tri3} {a : RowV} {k : Nat} (h : gs[k]? = some u) : cntB gs q (some a) (k + 1) = cntB gs q (some a) k + (matchM a q u).toList.length := by
  obtain ⟨hk, rfl⟩ := List.getElem?_eq_some_iff.1 h
  unfold cntB joinM
  simp only [Option.toList_some, List.flatMap_cons, List.flatMap_nil, List.append_nil]
  rw [List.take_succ_eq_append_getElem hk, List.filterMap_append, List.length_append]
  congr 1
theorem cntB_mono {gs : List Tri3} {q : Tri3} {o : Option RowV} {k : Nat} : cntB gs q o k ≤ cntB gs q o gs.length := by
  cases o with
  | none => rw [cntB_none]; exact Nat.zero_le _
  | some a =>
    unfold cntB joinM
    simp only [Option.toList_some, List.flatMap_cons, List.flatMap_nil, List.append_nil]
    rw [List.take_length]
    conv => rhs; rw [← List.take_append_drop k gs, List.filterMap_append, List.length_append]
    omega
theorem cntA_all (gs : List Tri3) (p q : Tri3) : cntA gs p q gs.length = (joinM gs q (joinM gs p [[]])).length := by
  unfold cntA
  rw [List.take_length]
theorem cntA_mono {gs : List Tri3} {p q : Tri3} {i : Nat} : cntA gs p q i ≤ cntA gs p q gs.length := by
  rw [cntA_all]
  unfold cntA
  have e : joinM gs p [[]] = joinM (gs.take i) p [[]] ++ joinM (gs.drop i) p [[]] := by
    rw [joinM_nil, joinM_nil, joinM_nil, ← List.filterMap_append, List.take_append_drop]
  rw [e, joinM_app, List.length_append]
  omega
/-- What two patterns tell. -/
theorem sol_two {gs : List Tri3} {p q : Tri3} (h : solOk gs [p, q] = true) : (solR gs [p, q]).length = cntA gs p q gs.length ∧ cntA gs p q gs.length ≤ 300 ∧ ∀ m, m ∈ solR gs [p, q] ↔ m ∈ joinM gs q (joinM gs p [[]]) := by
  obtain ⟨hg, hl, R, hc, e, hn, hz⟩ := solR_cases h
  have hR : R = joinM gs q (joinM gs p [[]]) := by
    unfold contM at hc
    split at hc
    · unfold contM at hc
      split at hc
      · unfold contM at hc
        exact (Option.some.inj hc).symm
      · cases hc
    · cases hc
  have hl := (addAllR_perm hn hz).length_eq
  have h3 := solR_len (gs := gs) (ls := [p, q])
  rw [e] at h3
  rw [cntA_all, ← hR, e]
  exact ⟨hl, by omega, addAllR_iff hn hz⟩
theorem merged_is {a b : RowV} {o : Option RowV} (ha : rowOk a = true) (hb : rowOk b = true) (hm : ∀ h, o = some h → rowOk h = true) (e : putAllP a b = o) : mergedP a b = o := by
  unfold mergedP
  rw [if_pos ⟨ha, hb⟩, e]
  cases o with
  | none => rfl
  | some h => exact if_pos (hm h rfl)
/-- What the pair of triples tells when it is told. -/
theorem pair_row {gs : List Tri3} {p q t u : Tri3} {a m : RowV} (ht : t ∈ gs) (hu : u ∈ gs) (ha : matchM [] p t = some a) (hm : matchM a q u = some m) : m ∈ joinM gs q (joinM gs p [[]]) :=
  joinM_mem.2 ⟨a, joinM_mem.2 ⟨[], by simp, t, ht, ha⟩, u, hu, hm⟩
end Go.Proofs.YtiajdnhmjdfeeaaGreat
/- What an answer's rows are: plain facts. -/
namespace Go.Proofs.YtiajdnhmjdfeeaaGreat
open Go.RowKit Go.WideShapes Go.Maps Go.Sort Go.Shelf
theorem solveM_within {g : List Tri3} : ∀ (l : List Tri3) (rows R : List RowV), solveM g l rows = some R → ∀ m ∈ R, ∃ r ∈ rows, ∀ u ∈ r, u ∈ m
  | [], rows, R, e, m, hm => by
    unfold solveM at e
    cases e
    exact ⟨m, hm, fun u hu => hu⟩
  | p :: l, rows, R, e, m, hm => by
    unfold solveM at e
    by_cases hc : (addAllR [] (joinM g p rows)).length ≤ 300
    · rw [if_pos hc] at e
      obtain ⟨q, hq, hs⟩ := solveM_within l _ R e m hm
      have hq' : q ∈ joinM g p rows := by
        rcases addAllR_mem hq with h | h
        · simp at h
        · exact h
      obtain ⟨r, hr, t, _, ht⟩ := joinM_mem.1 hq'
      exact ⟨r, hr, fun u hu => hs u (matchM_sub ht u hu)⟩
    · rw [if_neg hc] at e
      cases e
theorem ext_known {gs ls : List Tri3} {rs : List RowV} (h : extOk gs rs ls = true) : ∃ A, allX (moreS gs ls) rs = some A ∧ (∀ m ∈ A, rowOk m = true) ∧ extR gs rs ls = addAllR [] A := by
  have h0 := h
  unfold extOk at h
  simp only [Bool.and_eq_true] at h
  obtain ⟨hg, hq, hl, hf⟩ := h
  cases hA : extA gs rs ls with
  | none => rw [hA] at hf; cases hf
  | some A =>
    rw [hA] at hf
    unfold finX at hf
    simp only [Bool.and_eq_true, List.all_eq_true, decide_eq_true_eq] at hf
    refine ⟨A, hA, hf.1, ?_⟩
    unfold extR
    rw [if_pos h0, hA]
    rfl
theorem more_within {gs ls : List Tri3} {r : RowV} {M : List RowV} (h : moreS gs ls r = some M) : (∀ m ∈ M, ∀ u ∈ r, u ∈ m) ∧ ∃ m, m ∈ M := by
  unfold moreS at h
  cases hc : solveM gs ls [r] with
  | none => rw [hc] at h; cases h
  | some R =>
    rw [hc] at h
    obtain rfl : M = orOne r R := (Option.some.inj h).symm
    have hp := solveM_within ls _ R hc
    unfold orOne
    by_cases h0 : R.length = 0
    · rw [if_pos h0]
      exact ⟨fun m hm u hu => by rw [List.mem_singleton.1 hm]; exact hu, r, List.mem_singleton.2 rfl⟩
    · rw [if_neg h0]
      refine ⟨fun m hm u hu => ?_, R[0]'(by omega), List.getElem_mem _⟩
      obtain ⟨q, hq, hs⟩ := hp m hm
      obtain rfl := List.mem_singleton.1 hq
      exact hs u hu
/-- The rows that are projected, and the solutions of what must fit. -/
structure Mid (gs t1 : List Tri3) (rs : List RowV) : Prop where
  sol : solOk gs t1 = true
  ok : ∀ m ∈ rs, rowOk m = true
  of : ∀ m ∈ rs, ∃ s ∈ solR gs t1, ∀ u ∈ s, u ∈ m
  all : ∀ s ∈ solR gs t1, ∃ m ∈ rs, ∀ u ∈ s, u ∈ m
theorem solR_rowOk {gs ls : List Tri3} (h : solOk gs ls = true) : ∀ r ∈ solR gs ls, rowOk r = true := fun r hr =>
  (solR_row h r hr).ok (bgpOk_iff.1 (solR_cases h).2.1).1
theorem mid_of {gs : List Tri3} {vs : List ByteArray} {t1 t2 : List Tri3} {rs : List RowV} (h : ansRows gs vs t1 t2 = some rs) : Mid gs t1 rs := by
  unfold ansRows at h
  split at h
  · rename_i hc
    have hs := hc.2.2
    have hok := solR_rowOk hs
    split at h
    · obtain rfl := Option.some.inj h
      exact ⟨hs, hok, fun m hm => ⟨m, hm, fun u hu => hu⟩, fun m hm => ⟨m, hm, fun u hu => hu⟩⟩
    · split at h
      · rename_i hx
        obtain rfl := Option.some.inj h
        obtain ⟨A, hA, hAok, hE⟩ := ext_known hx
        have hz : NoZs A := fun s hs => rowOk_noZ (hAok s hs)
        rw [hE]
        refine ⟨hs, fun m hm => hAok m ((addAllR_both hz m).1 hm), fun m hm => ?_, fun s hs' => ?_⟩
        · obtain ⟨r, hr, M, hM, hmM⟩ := (allX_mem hA m).1 ((addAllR_both hz m).1 hm)
          exact ⟨r, hr, (more_within hM).1 m hmM⟩
        · obtain ⟨M, hM⟩ : ∃ M, moreS gs t2 s = some M := by
            cases hc : moreS gs t2 s with
            | none => rw [allX_none hc hs'] at hA; cases hA
            | some M => exact ⟨M, rfl⟩
          obtain ⟨h1, m, hm⟩ := more_within hM
          exact ⟨m, (addAllR_both hz m).2 ((allX_mem hA m).2 ⟨s, hs', M, hM, hm⟩), h1 m hm⟩
      · simp at h
  · simp at h
/-- Two parts of a row agree. -/
theorem parts_agree {a b m : RowV} (ha : rowOk a = true) (hb : rowOk b = true) (hm : rowOk m = true) (h1 : ∀ u ∈ a, u ∈ m) (h2 : ∀ u ∈ b, u ∈ m) : (mergedP a b).isSome = true := by
  have am := asc_ok hm
  have aa := asc_ok ha
  cases e : putAllP a b with
  | none => exact absurd (putAllP_clash aa e) (no_clash am (fun u hu => hu.elim (h1 u) (h2 u)))
  | some h =>
    have k := putAllP_just aa e
    have hin : ∀ u ∈ h, u ∈ m := fun u hu => ((k.2 u).1 hu).elim (h1 u) (h2 u)
    have hlen : h.length ≤ m.length := List.Nodup.length_le_of_subset (ascP_nodup (asc_iff.1 k.1)) (fun u hu => hin u hu)
    have h12 := rowOk_most hm
    have hpm : ∀ t ∈ m, pairT t = true := by
      have := hm
      unfold rowOk at this
      rw [Bool.and_eq_true] at this
      exact fun t ht => gUpto_mem this.2 t ht
    have hok : rowOk h = true := by
      unfold rowOk
      rw [Bool.and_eq_true, decide_eq_true_eq]
      exact ⟨by omega, upto_of_pairs (fun t ht => hpm t (hin t ht)) k.1⟩
    rw [merged_is ha hb (fun h' e' => by cases e'; exact hok) e]
    rfl
theorem projL_back {rs : List RowV} {vs : List ByteArray} (hok : ∀ m ∈ rs, rowOk m = true) : ∀ r, r ∈ projL rs vs ↔ ∃ m ∈ rs, keepL (txts vs) m = r := by
  intro r
  unfold projL
  have hz : NoZs (rs.map (keepL (txts vs))) := fun s hs => by
    obtain ⟨m, hm, rfl⟩ := List.mem_map.1 hs
    exact rowOk_noZ (rowOk_keep (hok m hm))
  rw [addAllR_both hz, List.mem_map]
theorem keepL_sub {names : List Txt} {r : RowV} : ∀ u ∈ keepL names r, u ∈ r := fun _ hu => (List.mem_filter.1 hu).1
/-- Each row of an answer agrees with a solution. -/
theorem ans_part {gs t1 : List Tri3} {rs : List RowV} {vs : List ByteArray} (h : Mid gs t1 rs) : ∀ r ∈ projL rs vs, ∃ s ∈ solR gs t1, (mergedP s r).isSome = true := by
  intro r hr
  obtain ⟨m, hm, rfl⟩ := (projL_back h.ok r).1 hr
  obtain ⟨s, hs, hsm⟩ := h.of m hm
  exact ⟨s, hs, parts_agree (solR_rowOk h.sol s hs) (rowOk_keep (h.ok m hm)) (h.ok m hm) hsm keepL_sub⟩
/-- There are rows just where there are solutions. -/
theorem ans_nil {gs t1 : List Tri3} {rs : List RowV} {vs : List ByteArray} (h : Mid gs t1 rs) : ((solR gs t1).length = 0) ↔ ((projL rs vs).length = 0) := by
  rw [List.length_eq_zero_iff, List.length_eq_zero_iff]
  constructor
  · intro e
    refine List.eq_nil_iff_forall_not_mem.2 fun r hr => ?_
    obtain ⟨m, hm, _⟩ := (projL_back h.ok r).1 hr
    obtain ⟨s, hs, _⟩ := h.of m hm
    rw [e] at hs
    simp at hs
  · intro e
    refine List.eq_nil_iff_forall_not_mem.2 fun s hs => ?_
    obtain ⟨m, hm, _⟩ := h.all s hs
    have := (projL_back (vs := vs) h.ok _).2 ⟨m, hm, rfl⟩
    rw [e] at this
    simp at this
/-- What a solution has of some of its names is what each row that it is a part of has of them. -/
theorem keep_part {s m : RowV} {names : List Txt} (hs : rowOk s = true) (hm : rowOk m = true) (hsm : ∀ u ∈ s, u ∈ m) (hn : ∀ x ∈ names, ∃ u ∈ s, u.1.data.toList = x) : keepL names m = keepL names s := by
  have am := asc_iff.1 (asc_ok hm)
  refine asc_ext (asc_ok (rowOk_keep hm)) (asc_ok (rowOk_keep hs)) fun u => ?_
  unfold keepL
  rw [List.mem_filter, List.mem_filter]
  refine ⟨fun ⟨h1, h2⟩ => ⟨?_, h2⟩, fun ⟨h1, h2⟩ => ⟨hsm u h1, h2⟩⟩
  obtain ⟨v, hv, e⟩ := hn _ (of_decide_eq_true h2)
  by_cases hvu : v = u
  · subst hvu; exact hv
  · have hvm := hsm v hv
    exfalso
    obtain ⟨i, hi⟩ := List.mem_iff_getElem?.1 hvm
    obtain ⟨j, hj⟩ := List.mem_iff_getElem?.1 h1
    have hij : i ≠ j := fun e' => by subst e'; rw [hi] at hj; exact hvu (Option.some.inj hj)
    obtain ⟨li, ei⟩ := List.getElem?_eq_some_iff.1 hi
    obtain ⟨lj, ej⟩ := List.getElem?_eq_some_iff.1 hj
    rcases Nat.lt_or_gt_of_ne hij with g | g
    · have := (List.pairwise_iff_getElem.1 am) i j li lj g
      rw [ei, ej] at this
      unfold LtP at this
      rw [e] at this
      exact absurd this (by rw [ltb_irrefl]; simp)
    · have := (List.pairwise_iff_getElem.1 am) j i lj li g
      rw [ei, ej] at this
      unfold LtP at this
      rw [e] at this
      exact absurd this (by rw [ltb_irrefl]; simp)
/-- What must fit stays when something more may. -/
theorem ans_few {gs t1 : List Tri3} {rs : List RowV} {vs asked : List ByteArray} (h : Mid gs t1 rs) (h1 : ∀ x ∈ txts asked, x ∈ varWords t1) (h2 : ∀ x ∈ txts asked, x ∈ txts vs) : projL (projL rs vs) asked = projL (solR gs t1) asked := by
  have hp : ∀ r ∈ projL rs vs, rowOk r = true := fun r hr => by
    obtain ⟨m, hm, rfl⟩ := (projL_back h.ok r).1 hr
    exact rowOk_keep (h.ok m hm)
  have hso := solR_rowOk h.sol
  have kk : ∀ m, keepL (txts asked) (keepL (txts vs) m) = keepL (txts asked) m := fun m => by
    unfold keepL
    rw [List.filter_filter]
    refine List.filter_congr fun u _ => ?_
    by_cases hu : u.1.data.toList ∈ txts asked
    · simp [hu, h2 _ hu]
    · simp [hu]
  have nm : ∀ s ∈ solR gs t1, ∀ x ∈ txts asked, ∃ u ∈ s, u.1.data.toList = x := fun s hs x hx => mem_names.1 (((solR_row h.sol s hs).1 x).2 (h1 x hx))
  show addAllR [] ((projL rs vs).map (keepL (txts asked))) = addAllR [] ((solR gs t1).map (keepL (txts asked)))
  refine addAllR_same (fun s hs => ?_) (fun s hs => ?_) fun r => ?_
  · obtain ⟨m, hm, rfl⟩ := List.mem_map.1 hs
    exact rowOk_noZ (rowOk_keep (hp m hm))
  · obtain ⟨m, hm, rfl⟩ := List.mem_map.1 hs
    exact rowOk_noZ (rowOk_keep (hso m hm))
  · rw [List.mem_map, List.mem_map]
    constructor
    · rintro ⟨q, hq, rfl⟩
      obtain ⟨m, hm, rfl⟩ := (projL_back h.ok q).1 hq
      obtain ⟨s, hs, hsm⟩ := h.of m hm
      exact ⟨s, hs, by rw [kk, keep_part (hso s hs) (h.ok m hm) hsm (nm s hs)]⟩
    · rintro ⟨s, hs, rfl⟩
      obtain ⟨m, hm, hsm⟩ := h.all s hs
      exact ⟨_, (projL_back h.ok _).2 ⟨m, hm, rfl⟩, by rw [kk, keep_part (hso s hs) (h.ok m hm) hsm (nm s hs)]⟩
theorem few_ok {gs t1 : List Tri3} {rs : List RowV} {vs asked : List ByteArray} (h : Mid gs t1 rs) (hl : (projL rs vs).length ≤ 300) (h1 : ∀ x ∈ txts asked, isVarK x = true) : projOk (projL rs vs) asked = true ∧ projOk (solR gs t1) asked = true := by
  have hv : varsOkL asked = true := by unfold varsOkL; exact List.all_eq_true.2 h1
  have hp : ∀ r ∈ projL rs vs, rowOk r = true := fun r hr => by
    obtain ⟨m, hm, rfl⟩ := (projL_back h.ok r).1 hr
    exact rowOk_keep (h.ok m hm)
  have hs : (solR gs t1).length ≤ 300 := solR_len
  unfold projOk rowsOkL
  simp only [hv, Bool.and_true, Bool.and_eq_true, decide_eq_true_eq, List.all_eq_true]
  exact ⟨⟨hl, hp⟩, hs, solR_rowOk h.sol⟩
end Go.Proofs.YtiajdnhmjdfeeaaGreat
/- Whether a rule is right: the program's and the specification's. -/
namespace Go.Proofs.YtiajdnhmjdfeeaaGreat
open Go.RowKit Go.WideShapes
/-- Block g holds just these four cells. -/
def Box4 (w : World) (g : Nat) (x y z u : Value) (T : TypeId) : Prop := w.heap[g]? = some (.cells #[x, y, z, u] T (0, 0))
theorem Box4.lt {w : World} {g : Nat} {x y z u : Value} {T : TypeId} (h : Box4 w g x y z u T) : g < w.heap.size := by
  unfold Box4 at h; exact (Array.getElem?_eq_some_iff.1 h).1
theorem Box4.new (w : World) (x y z u : Value) (T : TypeId) : Box4 (w.alloc (.cells #[x, y, z, u] T)) w.heap.size x y z u T := heap_alloc_new w _
theorem Box4.next {w w' : World} {g : Nat} {x y z u : Value} {T : TypeId} (h : Box4 w g x y z u T) (hb : Below w.heap.size w w') : Box4 w' g x y z u T := (hb.block g h.lt).trans h
theorem Box4.alloc {w : World} {g : Nat} {x y z u : Value} {T : TypeId} (h : Box4 w g x y z u T) (o : Obj) : Box4 (w.alloc o) g x y z u T := (Below.heap_alloc w o g h.lt).trans h
theorem Box4.drew {w : World} {g : Nat} {x y z u : Value} {T : TypeId} (h : Box4 w g x y z u T) : Box4 w.drew g x y z u T := h
theorem Box4.far {w : World} {g : Nat} {x y z u : Value} {T : TypeId} (h : Box4 w g x y z u T) {a : Addr} (ha : g ≠ a.block) (v : Value) : Box4 (w.setCell a v) g x y z u T := (Below.heap_setCell w a v g ha).trans h
theorem Box4.cells {w : World} {g : Nat} {x y z u : Value} {T : TypeId} (h : Box4 w g x y z u T) : w.cell? ⟨g, 0, none⟩ = some x ∧ w.cell? ⟨g, 1, none⟩ = some y ∧ w.cell? ⟨g, 2, none⟩ = some z ∧ w.cell? ⟨g, 3, none⟩ = some u := by
  unfold Box4 at h; refine ⟨?_, ?_, ?_, ?_⟩ <;> simp [World.cell?, h]
theorem Box4.free {w : World} {g : Nat} {x y z u : Value} {T : TypeId} (h : Box4 w g x y z u T) : w.frozen? ⟨g, 0, none⟩ = false ∧ w.frozen? ⟨g, 1, none⟩ = false ∧ w.frozen? ⟨g, 2, none⟩ = false ∧ w.frozen? ⟨g, 3, none⟩ = false := by
  unfold Box4 at h; refine ⟨?_, ?_, ?_, ?_⟩ <;> simp [World.frozen?, h]
theorem Box4.set {w : World} {g : Nat} {x y z u : Value} {T : TypeId} (h : Box4 w g x y z u T) (v : Value) :
    Box4 (w.setCell ⟨g, 0, none⟩ v) g v y z u T ∧ Box4 (w.setCell ⟨g, 1, none⟩ v) g x v z u T ∧ Box4 (w.setCell ⟨g, 2, none⟩ v) g x y v u T ∧ Box4 (w.setCell ⟨g, 3, none⟩ v) g x y z v T := by
  unfold Box4 at h ⊢; refine ⟨?_, ?_, ?_, ?_⟩ <;> simp [World.setCell, Array.getElem?_modify, h]
theorem ownS_isN {B : Nat} {w : World} {v : Value} {ts : List ByteArray} {n : Nat} (h : OwnS B w v ts) (l : ts.length = n) : ∃ a c, v = .slice a n c ∧ IsStrs w a n c ts := by
  subst l; exact h.is
set_option maxRecDepth 100000 in
theorem implIndexS (a : Option Addr) (n c : Nat) (ts : List ByteArray) (x : ByteArray) (w : World) (h : IsStrs w a n c ts) (hn : n ≤ 1048576) :
    Calls Tryz.prog 169 #[.slice a n c, .string x] w fun e w' => (∃ i : Int, e = .returned (.int .i64 i) ∧ decide (0 ≤ i) = hasB ts x) ∧ w' = w := by
  have H := Lib.hid h
  have HL := Lib.hid h.len
  clear h
  go_enter Tryz.func169, Tryz.ntmps169
  go_wp2_with fail
  go_loop [8] (fun i => ∃ k : Nat, k ≤ n ∧ i = .int .i64 k ∧ Hid (∀ (i : Nat) (u : ByteArray), i < k → ts[i]? = some u → (u.toList == x.toList) = false)) (fun i => n - (intOf i).toNat)
  case atStart => exact ⟨0, Nat.zero_le _, rfl, Lib.hid (fun i u hi => by omega)⟩
  case round =>
    obtain ⟨k, hk, rfl, hno⟩ := hrel
    by_cases hlt : k < n
    · obtain ⟨b, off, rfl, hb, _, _, hts, hcs⟩ := H.out.cells (by omega)
      have hu : ts[k]? = some (ts[k]'(by omega)) := List.getElem?_eq_getElem (by omega)
      have hc := hcs k _ hu
      generalize ts[k]'(by omega) = u at hu hc
      have hk6 : (0 : Int) ≤ (k : Int) := by omega
      have hk7 : (k : Int) < (n : Int) := by omega
      have HU := Lib.hid hu
      clear hts hcs hu
      cases he : (u.toList == x.toList)
      · have HN : Hid (∀ (i : Nat) (u : ByteArray), i < k + 1 → ts[i]? = some u → (u.toList == x.toList) = false) := Lib.hid (fun i v hi hv => by
          rcases Nat.lt_or_ge i k with g | g
          · exact hno.out i v g hv
          · obtain rfl : i = k := by omega
            rw [HU.out] at hv; obtain rfl := Option.some.inj hv; exact he)
        have he2 : (x.toList == u.toList) = false := by rw [beq_eq_false_iff_ne] at he ⊢; exact fun e => he e.symm
        clear hno HU he
        go_wp2_with fail
        go_round
        case rel => exact ⟨k + 1, by omega, by go_num, HN⟩
        case measure => simp [intOf]; omega
      · have HR : Hid (decide ((0 : Int) ≤ (k : Int)) = hasB ts x) := Lib.hid (by rw [hasB_yes HU.out he]; exact decide_eq_true hk6)
        have he2 : (x.toList == u.toList) = true := by rw [beq_iff_eq] at he ⊢; exact he.symm
        clear hno HU he
        go_wp2_with fail
        go_ret
        exact ⟨⟨k, rfl, HR.out⟩, rfl⟩
    · have HR : Hid (decide ((0 : Int) ≤ -1) = hasB ts x) := Lib.hid (by rw [hasB_no (fun i u hi hu => hno.out i u (by have := HL.out; omega) hu)]; rfl)
      clear hno
      go_wp2_with fail
      go_ret
      exact ⟨⟨-1, rfl, HR.out⟩, rfl⟩
theorem implContains (a : Option Addr) (n c : Nat) (ts : List ByteArray) (x : ByteArray) (w : World) (h : IsStrs w a n c ts) (hn : n ≤ 1048576) :
    Calls Tryz.prog 134 #[.slice a n c, .string x] w fun e w' => e = .returned (.bool (hasB ts x)) ∧ w' = w := by
  have C := Lib.hid (implIndexS a n c ts x w h hn)
  clear h
  generalize hasB ts x = q at C ⊢
  go_enter Tryz.func134, Tryz.ntmps134
  go_wp2_with fail
  refine C.out.mono ?_
  rintro e w1 ⟨⟨i, rfl, hi⟩, rfl⟩
  subst hi
  go_wp2_with fail
  go_ret
  exact ⟨rfl, rfl⟩
def headIn (L H : List Txt) : Bool := H.all fun v => hasB (L.map bs) (bs v)
def ruleOk (ts : List Tri3) (h : Tri3) : Bool := !ts.isEmpty && (bgpOk ts && (patT h && headIn (allVars ts) (allVars [h])))
theorem headIn_no {L H : List Txt} {k : Nat} {v : Txt} (h : H[k]? = some v) (hv : hasB (L.map bs) (bs v) = false) : headIn L H = false := by
  unfold headIn; rw [List.all_eq_false]; exact ⟨v, List.mem_of_getElem? h, by rw [hv]; simp⟩
theorem headIn_yes {L H : List Txt} (h : ∀ (i : Nat) (v : Txt), i < H.length → H[i]? = some v → hasB (L.map bs) (bs v) = true) : headIn L H = true := by
  unfold headIn; rw [List.all_eq_true]; intro v hv
  obtain ⟨i, hi⟩ := List.mem_iff_getElem?.1 hv
  exact h i v (List.getElem?_eq_some_iff.1 hi).1 hi
theorem bgp_one {h : Tri3} (hp : patT h = true) : bgpOk [h] = true := by unfold bgpOk; simp [hp]
theorem allVars_len (ts : List Tri3) : (allVars ts).length ≤ 3 * ts.length := by
  have h1 := putAllS_len (varWords ts) []
  have h2 := varWords_len ts
  simp only [List.length_nil] at h1
  unfold allVars; omega
theorem tris_one (w : World) (s p o : ByteArray) (hs : s.size ≤ maxLen) (hp : p.size ≤ maxLen) (ho : o.size ≤ maxLen) : IsTris (w.alloc (.cells #[.string s, .string p, .string o] 65)) (some ⟨w.heap.size, 0, none⟩) 1 1 [(s, p, o)] := by
  refine .inr ⟨_, rfl, Nat.le_refl _, by unfold maxLen; omega, rfl, fun i t hi => ?_⟩
  obtain rfl : i = 0 := by have := (List.getElem?_eq_some_iff.1 hi).1; simp at this; omega
  obtain rfl : (s, p, o) = t := by simpa using hi
  obtain ⟨c0, c1, c2⟩ := (Box.new w (.string s) (.string p) (.string o) 65).cells
  refine ⟨?_, ?_, ?_, hs, hp, ho⟩
  · rw [add_plain]; exact c0
  · rw [add_plain]; exact c1
  · rw [add_plain]; exact c2
set_option maxRecDepth 100000 in
set_option maxHeartbeats 3200000 in
theorem implRuleOk (a : Option Addr) (n c : Nat) (ts : List Tri3) (s p o : ByteArray) (w : World) (h : IsTris w a n c ts) (hsm : Sm ts) (hn : n ≤ 1048576) (hs : s.size ≤ 2097152) (hp : p.size ≤ 2097152) (ho : o.size ≤ 2097152) :
    Calls Tryz.prog 89 #[.agg #[.slice a n c, .string s, .string p, .string o]] w fun e w' => e = .returned (.bool (ruleOk ts (s, p, o))) ∧ Below w.heap.size w w' := by
  have B0 := (Below.refl w.heap.size w).alloc (Nat.le_refl _) (.cells #[.slice a n c, .string s, .string p, .string o] 67)
  have X0 := Box4.new w (.slice a n c) (.string s) (.string p) (.string o) 67
  have H := Lib.hid h
  have HL := Lib.hid h.len
  have HM := Lib.hid hsm
  obtain ⟨x0, x1, x2, x3⟩ := X0.cells
  clear h hsm
  by_cases hz : n = 0
  · have HR : Hid (ruleOk ts (s, p, o) = false) := Lib.hid (by unfold ruleOk; rw [List.length_eq_zero_iff.1 (HL.out.trans hz)]; rfl)
    subst hz
    go_enter Tryz.func89, Tryz.ntmps89
    go_wp2_with fail
    go_ret
    exact ⟨by rw [HR.out]; rfl, B0⟩
  have hz0 : ((n : Int) == 0) = false := by rw [beq_eq_false_iff_ne]; omega
  have hne : ts.isEmpty = false := by
    cases ts with
    | nil => exact absurd HL.out.symm hz
    | cons _ _ => rfl
  have CB' := implBgpOk a n c ts _ (H.out.next B0) HM.out
  cases hb : bgpOk ts
  · have HR : Hid (ruleOk ts (s, p, o) = false) := Lib.hid (by unfold ruleOk; rw [hb, hne]; rfl)
    rw [hb] at CB'
    have CB := Lib.hid CB'
    clear CB' hb hne
    go_enter Tryz.func89, Tryz.ntmps89
    go_wp2_with fail
    refine CB.out.mono ?_
    rintro e w1 ⟨rfl, hb1⟩
    go_wp2_with fail
    go_ret
    exact ⟨by rw [HR.out]; rfl, B0.trans (hb1.mono B0.size)⟩
  rw [hb] at CB'
  have CB := Lib.hid CB'
  have CP' := implPatternOk s p o hs hp ho
  change ∀ w, Calls _ _ _ w fun e w' => e = .returned (.bool (patT (s, p, o))) ∧ Below w.heap.size w w' at CP'
  cases hq : patT (s, p, o)
  · have HR : Hid (ruleOk ts (s, p, o) = false) := Lib.hid (by unfold ruleOk; rw [hb, hne, hq]; rfl)
    rw [hq] at CP'
    have CP := Lib.hid CP'
    clear CB' CP' hb hne hq
    go_enter Tryz.func89, Tryz.ntmps89
    go_wp2_with fail
    refine CB.out.mono ?_
    rintro e w1 ⟨rfl, hb1⟩
    have B1 := B0.trans (hb1.mono B0.size)
    have X1 := X0.next hb1
    clear hb1 B0 X0 x0 x1 x2 x3
    obtain ⟨x0, x1, x2, x3⟩ := X1.cells
    go_wp2_with fail
    refine (CP.out _).mono ?_
    rintro e w2 ⟨rfl, hb2⟩
    go_wp2_with fail
    go_ret
    exact ⟨by rw [HR.out]; rfl, B1.trans (hb2.mono B1.size)⟩
  rw [hq] at CP'
  have CP := Lib.hid CP'
  have HST : Hid (ruleOk ts (s, p, o) = headIn (allVars ts) (allVars [(s, p, o)])) := Lib.hid (by unfold ruleOk; rw [hb, hne, hq]; rfl)
  have hl4 : ts.length ≤ 4 := by have hq' := hb; unfold bgpOk at hq'; simp only [Bool.and_eq_true, decide_eq_true_eq] at hq'; exact hq'.1
  have V1' := fun W hi => implVarsOf a n c ts W hi HM.out
  have hSm1 : Sm [(s, p, o)] := by
    intro t ht
    obtain rfl : t = (s, p, o) := by simpa using ht
    exact ⟨hs, hp, ho⟩
  have V2' := fun b W hi => implVarsOf (some ⟨b, 0, none⟩) 1 1 [(s, p, o)] W hi hSm1
  rw [varsT_is hb] at V1'
  rw [varsT_is (bgp_one hq)] at V2'
  have hA1 := allVars_len ts
  have hA2 := allVars_len [(s, p, o)]
  generalize allVars ts = L at V1' HST hA1
  generalize allVars [(s, p, o)] = HH at V2' HST hA2
  simp only [List.length_cons, List.length_nil] at hA2
  obtain ⟨m, hm⟩ : ∃ m, HH.length = m := ⟨_, rfl⟩
  rw [hm] at hA2
  have HLM := Lib.hid hm
  obtain ⟨l, hl⟩ : ∃ l, L.length = l := ⟨_, rfl⟩
  rw [hl] at hA1
  have HLL := Lib.hid hl
  have V1 := Lib.hid V1'
  have V2 := Lib.hid V2'
  clear CB' CP' hb hne hq V1' V2' hm hl
  go_enter Tryz.func89, Tryz.ntmps89
  go_wp2_with fail
  refine CB.out.mono ?_
  rintro e w1 ⟨rfl, hb1⟩
  have B1 := B0.trans (hb1.mono B0.size)
  have X1 := X0.next hb1
  clear hb1 B0 X0 x0 x1 x2 x3
  obtain ⟨x0, x1, x2, x3⟩ := X1.cells
  go_wp2_with fail
  refine (CP.out _).mono ?_
  rintro e w2 ⟨rfl, hb2⟩
  have B2 := B1.trans (hb2.mono B1.size)
  have X2 := X1.next hb2
  clear hb2 B1 X1 x0 x1 x2 x3
  obtain ⟨x0, x1, x2, x3⟩ := X2.cells
  go_wp2_with fail
  refine (V1.out _ (H.out.next B2)).mono ?_
  rintro e w3 ⟨v, rfl, o3, hb3⟩
  obtain ⟨va, vc, rfl, i3⟩ := ownS_isN o3 (by rw [List.length_map, HLL.out])
  have B3 := B2.trans (hb3.mono B2.size)
  have X3 := X2.next hb3
  have BA := (Below.refl w3.heap.size w3).alloc (Nat.le_refl _) (.cells #[.string s, .string p, .string o] 65)
  have I3 := Lib.hid (i3.next BA)
  have B4 := B3.trans (BA.mono B3.size)
  have T3 := Lib.hid (tris_one w3 s p o (by unfold maxLen; omega) (by unfold maxLen; omega) (by unfold maxLen; omega))
  clear hb3 B2 X2 x0 x1 x2 x3 o3 i3 BA B3
  obtain ⟨x0, x1, x2, x3⟩ := X3.cells
  go_wp2_with fail
  refine (V2.out _ _ T3.out).mono ?_
  rintro e w5 ⟨v, rfl, o5, hb5⟩
  obtain ⟨ua, uc, rfl, i5⟩ := ownS_isN o5 (by rw [List.length_map, HLM.out])
  have B5 := B4.trans (hb5.mono B4.size)
  have I5 := Lib.hid (And.intro (I3.out.next hb5) i5)
  clear hb5 o5 i5 I3 T3 B4 x0 x1 x2 x3 X3
  go_wp2_with fail
  go_loop [30] (fun i => ∃ k : Nat, k ≤ m ∧ i = .int .i64 k ∧ Hid (∀ (i : Nat) (v : Txt), i < k → HH[i]? = some v → hasB (L.map bs) (bs v) = true)) (fun i => m - (intOf i).toNat)
  case atStart => exact ⟨0, Nat.zero_le _, rfl, Lib.hid (fun i v hi => by omega)⟩
  case round =>
    obtain ⟨k, hk, rfl, hno⟩ := hrel
    by_cases hlt : k < m
    · obtain ⟨b, off, rfl, hb, _, _, hts, hcs⟩ := I5.out.2.cells (by omega)
      have hv : HH[k]? = some (HH[k]'(by have := HLM.out; omega)) := List.getElem?_eq_getElem _
      have hc := hcs k (bs (HH[k]'(by have := HLM.out; omega))) (by rw [List.getElem?_map, hv]; rfl)
      generalize HH[k]'(by have := HLM.out; omega) = v at hv hc
      have hk6 : (0 : Int) ≤ (k : Int) := by omega
      have hk7 : (k : Int) < (m : Int) := by omega
      have HV := Lib.hid hv
      have CC' := implContains va l vc (L.map bs) (bs v) w5 I5.out.1 (by omega)
      obtain ⟨sb, hsb⟩ : ∃ sb, bs v = sb := ⟨_, rfl⟩
      rw [hsb] at hc CC'
      have HSB := Lib.hid hsb
      clear hts hcs hv hsb
      cases he : hasB (L.map bs) sb
      · have HR : Hid (ruleOk ts (s, p, o) = false) := Lib.hid (by rw [HST.out]; exact headIn_no HV.out (by rw [HSB.out]; exact he))
        rw [he] at CC'
        have CC := Lib.hid CC'
        clear CC' he hno
        go_wp2_with fail
        refine CC.out.mono ?_
        rintro e w6 ⟨rfl, rfl⟩
        go_wp2_with fail
        go_ret
        exact ⟨by rw [HR.out]; rfl, B5⟩
      · have HN : Hid (∀ (i : Nat) (v : Txt), i < k + 1 → HH[i]? = some v → hasB (L.map bs) (bs v) = true) := Lib.hid (fun i u hi hu => by
          rcases Nat.lt_or_ge i k with g | g
          · exact hno.out i u g hu
          · obtain rfl : i = k := by omega
            rw [HV.out] at hu; obtain rfl := Option.some.inj hu; rw [HSB.out]; exact he)
        rw [he] at CC'
        have CC := Lib.hid CC'
        clear CC' he hno
        go_wp2_with fail
        refine CC.out.mono ?_
        rintro e w6 ⟨rfl, rfl⟩
        go_wp2_with fail
        go_round
        case rel => exact ⟨k + 1, by omega, by go_num, HN⟩
        case measure => simp [intOf]; omega
    · have HR : Hid (ruleOk ts (s, p, o) = true) := Lib.hid (by rw [HST.out]; exact headIn_yes (fun i v hi hv => hno.out i v (by have := HLM.out; omega) hv))
      clear hno
      go_wp2_with fail
      go_ret
      exact ⟨by rw [HR.out]; rfl, B5⟩
set_option maxRecDepth 100000 in
set_option maxHeartbeats 3200000 in
theorem specRuleOk (a : Option Addr) (n c : Nat) (ts : List Tri3) (s p o : ByteArray) (w : World) (h : IsTris w a n c ts) (hsm : Sm ts) (hn : n ≤ 1048576) (hs : s.size ≤ 2097152) (hp : p.size ≤ 2097152) (ho : o.size ≤ 2097152) :
    Calls Tryz.prog 87 #[.agg #[.slice a n c, .string s, .string p, .string o]] w fun e w' => e = .returned (.bool (ruleOk ts (s, p, o))) ∧ Below w.heap.size w w' := by
  have B0 := (Below.refl w.heap.size w).alloc (Nat.le_refl _) (.cells #[.slice a n c, .string s, .string p, .string o] 67)
  have X0 := Box4.new w (.slice a n c) (.string s) (.string p) (.string o) 67
  have H := Lib.hid h
  have HL := Lib.hid h.len
  have HM := Lib.hid hsm
  obtain ⟨x0, x1, x2, x3⟩ := X0.cells
  clear h hsm
  have CB' := specBgpOk a n c ts _ (H.out.next B0) HM.out
  by_cases hz : n = 0
  · have hts0 := List.length_eq_zero_iff.1 (HL.out.trans hz)
    have HR : Hid (ruleOk ts (s, p, o) = false) := Lib.hid (by unfold ruleOk; rw [hts0]; rfl)
    have hb : bgpOk ts = true := by rw [hts0]; rfl
    rw [hb] at CB'
    have CB := Lib.hid CB'
    clear CB' hb hts0
    subst hz
    go_enter Tryz.func87, Tryz.ntmps87
    go_wp2_with fail
    refine CB.out.mono ?_
    rintro e w1 ⟨rfl, hb1⟩
    have X1 := X0.next hb1
    clear x0 x1 x2 x3
    obtain ⟨x0, x1, x2, x3⟩ := X1.cells
    go_wp2_with fail
    go_ret
    exact ⟨by rw [HR.out]; rfl, B0.trans (hb1.mono B0.size)⟩
  have hz0 : ((n : Int) == 0) = false := by rw [beq_eq_false_iff_ne]; omega
  have hne : ts.isEmpty = false := by
    cases ts with
    | nil => exact absurd HL.out.symm hz
    | cons _ _ => rfl
  cases hb : bgpOk ts
  · have HR : Hid (ruleOk ts (s, p, o) = false) := Lib.hid (by unfold ruleOk; rw [hb, hne]; rfl)
    rw [hb] at CB'
    have CB := Lib.hid CB'
    clear CB' hb hne
    go_enter Tryz.func87, Tryz.ntmps87
    go_wp2_with fail
    refine CB.out.mono ?_
    rintro e w1 ⟨rfl, hb1⟩
    go_wp2_with fail
    go_ret
    exact ⟨by rw [HR.out]; rfl, B0.trans (hb1.mono B0.size)⟩
  rw [hb] at CB'
  have CB := Lib.hid CB'
  have CP' := specPattern s p o hs hp ho
  change ∀ w, Calls _ _ _ w fun e w' => e = .returned (.bool (patT (s, p, o))) ∧ Below w.heap.size w w' at CP'
  cases hq : patT (s, p, o)
  · have HR : Hid (ruleOk ts (s, p, o) = false) := Lib.hid (by unfold ruleOk; rw [hb, hne, hq]; rfl)
    rw [hq] at CP'
    have CP := Lib.hid CP'
    clear CB' CP' hb hne hq
    go_enter Tryz.func87, Tryz.ntmps87
    go_wp2_with fail
    refine CB.out.mono ?_
    rintro e w1 ⟨rfl, hb1⟩
    have B1 := B0.trans (hb1.mono B0.size)
    have X1 := X0.next hb1
    clear hb1 B0 X0 x0 x1 x2 x3
    obtain ⟨x0, x1, x2, x3⟩ := X1.cells
    go_wp2_with fail
    refine (CP.out _).mono ?_
    rintro e w2 ⟨rfl, hb2⟩
    go_wp2_with fail
    go_ret
    exact ⟨by rw [HR.out]; rfl, B1.trans (hb2.mono B1.size)⟩
  rw [hq] at CP'
  have CP := Lib.hid CP'
  have HST : Hid (ruleOk ts (s, p, o) = headIn (allVars ts) (allVars [(s, p, o)])) := Lib.hid (by unfold ruleOk; rw [hb, hne, hq]; rfl)
  have hl4 : ts.length ≤ 4 := by have hq' := hb; unfold bgpOk at hq'; simp only [Bool.and_eq_true, decide_eq_true_eq] at hq'; exact hq'.1
  have hSm1 : Sm [(s, p, o)] := by
    intro t ht
    obtain rfl : t = (s, p, o) := by simpa using ht
    exact ⟨hs, hp, ho⟩
  have V1' := fun W hi => specVars a n c ts W hi HM.out (by have := HL.out; omega)
  have V2' := fun b W hi => specVars (some ⟨b, 0, none⟩) 1 1 [(s, p, o)] W hi hSm1 (by omega)
  have hA1 := allVars_len ts
  have hA2 := allVars_len [(s, p, o)]
  generalize allVars ts = L at V1' HST hA1
  generalize allVars [(s, p, o)] = HH at V2' HST hA2
  simp only [List.length_cons, List.length_nil] at hA2
  obtain ⟨m, hm⟩ : ∃ m, HH.length = m := ⟨_, rfl⟩
  rw [hm] at hA2
  have HLM := Lib.hid hm
  obtain ⟨l, hl⟩ : ∃ l, L.length = l := ⟨_, rfl⟩
  rw [hl] at hA1
  have HLL := Lib.hid hl
  have V1 := Lib.hid V1'
  have V2 := Lib.hid V2'
  clear CB' CP' hb hne hq V1' V2' hm hl
  go_enter Tryz.func87, Tryz.ntmps87
  go_wp2_with fail
  refine CB.out.mono ?_
  rintro e w1 ⟨rfl, hb1⟩
  have B1 := B0.trans (hb1.mono B0.size)
  have X1 := X0.next hb1
  clear hb1 B0 X0 x0 x1 x2 x3
  obtain ⟨x0, x1, x2, x3⟩ := X1.cells
  go_wp2_with fail
  refine (CP.out _).mono ?_
  rintro e w2 ⟨rfl, hb2⟩
  have B2 := B1.trans (hb2.mono B1.size)
  have X2 := X1.next hb2
  clear hb2 B1 X1 x0 x1 x2 x3
  obtain ⟨x0, x1, x2, x3⟩ := X2.cells
  go_wp2_with fail
  refine (V1.out _ (H.out.next B2)).mono ?_
  rintro e w3 ⟨g3, n3, c3, rfl, o3, hl3, hb3⟩
  obtain rfl : l = n3 := by rw [← hl3, HLL.out]
  obtain ⟨va, vc, e3, i3⟩ := ownS_isN o3 (by rw [List.length_map, HLL.out])
  simp only [Value.slice.injEq, true_and] at e3
  obtain ⟨rfl, rfl⟩ := e3
  clear hl3
  have B3 := B2.trans (hb3.mono B2.size)
  have X3 := X2.next hb3
  have BA := (Below.refl w3.heap.size w3).alloc (Nat.le_refl _) (.cells #[.string s, .string p, .string o] 65)
  have I3 := Lib.hid (i3.next BA)
  have B4 := B3.trans (BA.mono B3.size)
  have T3 := Lib.hid (tris_one w3 s p o (by unfold maxLen; omega) (by unfold maxLen; omega) (by unfold maxLen; omega))
  clear hb3 B2 X2 x0 x1 x2 x3 o3 i3 BA B3
  obtain ⟨x0, x1, x2, x3⟩ := X3.cells
  go_wp2_with fail
  refine (V2.out _ _ T3.out).mono ?_
  rintro e w5 ⟨g5, n5, c5, rfl, o5, hl5, hb5⟩
  obtain rfl : m = n5 := by rw [← hl5, HLM.out]
  obtain ⟨ua, uc, e5, i5⟩ := ownS_isN o5 (by rw [List.length_map, HLM.out])
  simp only [Value.slice.injEq, true_and] at e5
  obtain ⟨rfl, rfl⟩ := e5
  clear hl5
  have B5 := B4.trans (hb5.mono B4.size)
  have I5 := Lib.hid (And.intro (I3.out.next hb5) i5)
  clear hb5 o5 i5 I3 T3 B4 x0 x1 x2 x3 X3
  go_wp2_with fail
  go_loop [5] (fun i => ∃ k : Nat, k ≤ m ∧ i = .int .i64 k ∧ Hid (∀ (i : Nat) (v : Txt), i < k → HH[i]? = some v → hasB (L.map bs) (bs v) = true)) (fun i => m - (intOf i).toNat)
  case atStart => exact ⟨0, Nat.zero_le _, rfl, Lib.hid (fun i v hi => by omega)⟩
  case round =>
    obtain ⟨k, hk, rfl, hno⟩ := hrel
    by_cases hlt : k < m
    · obtain ⟨b, off, hbo, hb, _, _, hts, hcs⟩ := I5.out.2.cells (by omega)
      cases hbo
      have hv : HH[k]? = some (HH[k]'(by have := HLM.out; omega)) := List.getElem?_eq_getElem _
      have hc := hcs k (bs (HH[k]'(by have := HLM.out; omega))) (by rw [List.getElem?_map, hv]; rfl)
      rw [Nat.zero_add] at hc
      generalize HH[k]'(by have := HLM.out; omega) = v at hv hc
      have hk6 : (0 : Int) ≤ (k : Int) := by omega
      have hk7 : (k : Int) < (m : Int) := by omega
      have HV := Lib.hid hv
      have CC' := specHas (some ⟨g3, 0, none⟩) l c3 (L.map bs) (bs v) w5 I5.out.1 (by omega)
      obtain ⟨sb, hsb⟩ : ∃ sb, bs v = sb := ⟨_, rfl⟩
      rw [hsb] at hc CC'
      have HSB := Lib.hid hsb
      clear hts hcs hv hsb
      cases he : hasB (L.map bs) sb
      · have HR : Hid (ruleOk ts (s, p, o) = false) := Lib.hid (by rw [HST.out]; exact headIn_no HV.out (by rw [HSB.out]; exact he))
        rw [he] at CC'
        have CC := Lib.hid CC'
        clear CC' he hno
        go_wp2_with fail
        refine CC.out.mono ?_
        rintro e w6 ⟨rfl, rfl⟩
        go_wp2_with fail
        go_ret
        exact ⟨by rw [HR.out]; rfl, B5⟩
      · have HN : Hid (∀ (i : Nat) (v : Txt), i < k + 1 → HH[i]? = some v → hasB (L.map bs) (bs v) = true) := Lib.hid (fun i u hi hu => by
          rcases Nat.lt_or_ge i k with g | g
          · exact hno.out i u g hu
          · obtain rfl : i = k := by omega
            rw [HV.out] at hu; obtain rfl := Option.some.inj hu; rw [HSB.out]; exact he)
        rw [he] at CC'
        have CC := Lib.hid CC'
        clear CC' he hno
        go_wp2_with fail
        refine CC.out.mono ?_
        rintro e w6 ⟨rfl, rfl⟩
        go_wp2_with fail
        go_round
        case rel => exact ⟨k + 1, by omega, by go_num, HN⟩
        case measure => simp [intOf]; omega
    · have HR : Hid (ruleOk ts (s, p, o) = true) := Lib.hid (by rw [HST.out]; exact headIn_yes (fun i v hi hv => hno.out i v (by have := HLM.out; omega) hv))
      clear hno
      go_wp2_with fail
      go_ret
      exact ⟨by rw [HR.out]; rfl, B5⟩
end Go.Proofs.YtiajdnhmjdfeeaaGreat
