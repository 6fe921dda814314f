/- A pattern more: what a row and a triple give; plain facts.; A row and a triple: the program's tests and what it binds are the specification's; plain facts.; The contracts of the search of a name in a row, and of what a row gives for a word. -/
import Derived.Test.YtiajdnhmjdfeeaaGreatK25
import Derived.Test.YtiajdnhmjdfeeaaGreatK30
import Derived.Test.YtiajdnhmjdfeeaaGreatK05
namespace Go.Proofs.YtiajdnhmjdfeeaaGreat
open Go.RowKit
theorem asc_uniq {ts : List Pre2} (ha : Asc ts) {u v : Pre2} (hu : u ∈ ts) (hv : v ∈ ts) (e : u.1 = v.1) : u = v := by
  obtain ⟨i, hi⟩ := List.mem_iff_getElem?.1 hu
  obtain ⟨j, hj⟩ := List.mem_iff_getElem?.1 hv
  rcases Nat.lt_trichotomy i j with g | g | g
  · have := ha i j u v g hi hj
    rw [lessP_is, e, ltb_irrefl] at this
    cases this
  · subst g
    rw [hi] at hj
    exact Option.some.inj hj
  · have := ha j i v u g hj hi
    rw [lessP_is, e, ltb_irrefl] at this
    cases this
theorem putP_cases {g h : List Pre2} {p : Pre2} (e : putP g p = some h) : (h = g ∧ ∃ q, g[posP p.1 g]? = some q ∧ q.1 = p.1 ∧ q.2 = p.2) ∨ (h = (g.take (posP p.1 g) ++ [p]) ++ g.drop (posP p.1 g) ∧ ∀ q, g[posP p.1 g]? = some q → q.1 ≠ p.1) := by
  unfold putP at e
  split at e
  · rename_i q hq
    split at e
    · rename_i h1
      split at e
      · rename_i h2
        cases e
        exact .inl ⟨rfl, q, hq, h1, h2⟩
      · cases e
    · rename_i hne
      cases e
      exact .inr ⟨rfl, fun q' hq' => by rw [hq] at hq'; cases hq'; exact hne⟩
  · rename_i hq
    cases e
    exact .inr ⟨rfl, fun q' hq' => by rw [hq] at hq'; cases hq'⟩
theorem putP_has {g h : List Pre2} {p : Pre2} (e : putP g p = some h) : p ∈ h := by
  rcases putP_cases e with ⟨rfl, q, hq, h1, h2⟩ | ⟨rfl, _⟩
  · have : q = p := Prod.ext h1 h2
    rw [← this]
    exact List.mem_of_getElem? hq
  · simp
theorem putP_sub {g h : List Pre2} {p : Pre2} (e : putP g p = some h) : ∀ u ∈ g, u ∈ h := by
  intro u hu
  rcases putP_cases e with ⟨rfl, _⟩ | ⟨rfl, _⟩
  · exact hu
  · rw [← List.take_append_drop (posP p.1 g) g] at hu
    rcases List.mem_append.1 hu with hu | hu
    · exact List.mem_append_left _ (List.mem_append_left _ hu)
    · exact List.mem_append_right _ hu
/-- The names of a row. -/
def dom (r : RowV) : List ByteArray := r.map Prod.fst
theorem posP_dom (x : ByteArray) : ∀ {g h : List Pre2}, dom g = dom h → posP x g = posP x h
  | [], [], _ => rfl
  | [], _ :: _, e => by simp [dom] at e
  | _ :: _, [], e => by simp [dom] at e
  | u :: g, v :: h, e => by
    simp only [dom, List.map_cons, List.cons.injEq] at e
    unfold posP
    rw [e.1, posP_dom x (g := g) (h := h) e.2]
theorem dom_at {g h : List Pre2} (e : dom g = dom h) (k : Nat) : (g[k]?).map Prod.fst = (h[k]?).map Prod.fst := by
  have := congrArg (fun l => l[k]?) e
  simpa [dom] using this
theorem putP_dom {g g' h h' : List Pre2} {p p' : Pre2} (ed : dom g = dom g') (ep : p.1 = p'.1) (e : putP g p = some h) (e' : putP g' p' = some h') : dom h = dom h' := by
  have hp : posP p.1 g = posP p'.1 g' := by rw [ep]; exact posP_dom _ ed
  have hk := dom_at ed (posP p'.1 g')
  rcases putP_cases e with ⟨rfl, q, hq, h1, _⟩ | ⟨rfl, hn⟩
  · rcases putP_cases e' with ⟨rfl, _⟩ | ⟨rfl, hn'⟩
    · exact ed
    · rw [hp] at hq
      rw [hq] at hk
      cases hq' : g'[posP p'.1 g']? with
      | none => rw [hq'] at hk; simp at hk
      | some q' =>
        rw [hq'] at hk
        simp only [Option.map_some, Option.some.injEq] at hk
        exact absurd (by rw [← hk, h1, ep]) (hn' q' hq')
  · rcases putP_cases e' with ⟨rfl, q', hq', h1, _⟩ | ⟨rfl, _⟩
    · rw [hp] at hn
      rw [hq'] at hk
      cases hq : g[posP p'.1 h']? with
      | none => rw [hq] at hk; simp at hk
      | some q =>
        rw [hq] at hk
        simp only [Option.map_some, Option.some.injEq] at hk
        exact absurd (by rw [hk, h1, ep]) (hn q hq)
    · rw [hp]
      unfold dom at ed ⊢
      simp only [List.map_append, List.map_take, List.map_drop, List.map_cons, List.map_nil, ed, ep]
/-- One place of a pattern. -/
def stepM (r : RowV) (p t : ByteArray) : Option RowV := if isVarK p.data.toList = true then putP r (p, t) else if p = t then some r else none
def matchM (r : RowV) (p t : Tri3) : Option RowV := ((stepM r p.1 t.1).bind fun a => stepM a p.2.1 t.2.1).bind fun b => stepM b p.2.2 t.2.2
theorem stepM_sub {r h : RowV} {p t : ByteArray} (e : stepM r p t = some h) : ∀ u ∈ r, u ∈ h := by
  unfold stepM at e
  split at e
  · exact putP_sub e
  · split at e
    · cases e; exact fun _ h => h
    · cases e
theorem stepM_asc {r h : RowV} {p t : ByteArray} (ha : Asc r) (e : stepM r p t = some h) : Asc h := by
  unfold stepM at e
  split at e
  · exact putP_asc ha e
  · split at e
    · cases e; exact ha
    · cases e
theorem stepM_len {r h : RowV} {p t : ByteArray} (e : stepM r p t = some h) : h.length ≤ r.length + 1 := by
  unfold stepM at e
  split at e
  · exact putP_len e
  · split at e
    · cases e; omega
    · cases e
theorem stepM_mem {r h : RowV} {p t : ByteArray} (e : stepM r p t = some h) {u : Pre2} (hu : u ∈ h) : u ∈ r ∨ (u = (p, t) ∧ isVarK p.data.toList = true) := by
  unfold stepM at e
  split at e
  · rename_i hv
    rcases putP_mem e hu with h | h
    · exact .inr ⟨h, hv⟩
    · exact .inl h
  · split at e
    · cases e; exact .inl hu
    · cases e
theorem stepM_dom {r s h k : RowV} {p t u : ByteArray} (ed : dom r = dom s) (e : stepM r p t = some h) (e' : stepM s p u = some k) : dom h = dom k := by
  unfold stepM at e e'
  split at e
  · rename_i hv
    rw [if_pos hv] at e'
    exact putP_dom (p := (p, t)) (p' := (p, u)) ed rfl e e'
  · rename_i hv
    rw [if_neg hv] at e'
    split at e
    · cases e
      split at e'
      · cases e'; exact ed
      · cases e'
    · cases e
theorem stepM_place {r h : RowV} {p t : ByteArray} (e : stepM r p t = some h) : (isVarK p.data.toList = true ∧ (p, t) ∈ h) ∨ (isVarK p.data.toList = false ∧ p = t) := by
  unfold stepM at e
  split at e
  · rename_i hv
    exact .inl ⟨hv, putP_has e⟩
  · rename_i hv
    split at e
    · rename_i he
      exact .inr ⟨by simpa using hv, he⟩
    · cases e
theorem matchM_parts {r h : RowV} {p t : Tri3} (e : matchM r p t = some h) : ∃ a b, stepM r p.1 t.1 = some a ∧ stepM a p.2.1 t.2.1 = some b ∧ stepM b p.2.2 t.2.2 = some h := by
  unfold matchM at e
  cases ha : stepM r p.1 t.1 with
  | none => rw [ha] at e; simp at e
  | some a =>
    rw [ha, Option.bind_some] at e
    cases hb : stepM a p.2.1 t.2.1 with
    | none => rw [hb] at e; simp at e
    | some b =>
      rw [hb, Option.bind_some] at e
      exact ⟨a, b, rfl, hb, e⟩
theorem matchM_sub {r h : RowV} {p t : Tri3} (e : matchM r p t = some h) : ∀ u ∈ r, u ∈ h := by
  obtain ⟨a, b, e1, e2, e3⟩ := matchM_parts e
  exact fun u hu => stepM_sub e3 _ (stepM_sub e2 _ (stepM_sub e1 _ hu))
theorem matchM_asc {r h : RowV} {p t : Tri3} (ha : Asc r) (e : matchM r p t = some h) : Asc h := by
  obtain ⟨a, b, e1, e2, e3⟩ := matchM_parts e
  exact stepM_asc (stepM_asc (stepM_asc ha e1) e2) e3
theorem matchM_len {r h : RowV} {p t : Tri3} (e : matchM r p t = some h) : h.length ≤ r.length + 3 := by
  obtain ⟨a, b, e1, e2, e3⟩ := matchM_parts e
  have := stepM_len e1
  have := stepM_len e2
  have := stepM_len e3
  omega
theorem matchM_dom {r s h k : RowV} {p t u : Tri3} (ed : dom r = dom s) (e : matchM r p t = some h) (e' : matchM s p u = some k) : dom h = dom k := by
  obtain ⟨a, b, e1, e2, e3⟩ := matchM_parts e
  obtain ⟨a', b', f1, f2, f3⟩ := matchM_parts e'
  exact stepM_dom (stepM_dom (stepM_dom ed e1 f1) e2 f2) e3 f3
theorem matchM_mem {r h : RowV} {p t : Tri3} (e : matchM r p t = some h) {u : Pre2} (hu : u ∈ h) : u ∈ r ∨ (isVarK u.1.data.toList = true ∧ (u = (p.1, t.1) ∨ u = (p.2.1, t.2.1) ∨ u = (p.2.2, t.2.2))) := by
  obtain ⟨a, b, e1, e2, e3⟩ := matchM_parts e
  rcases stepM_mem e3 hu with hu | ⟨rfl, hv⟩
  · rcases stepM_mem e2 hu with hu | ⟨rfl, hv⟩
    · rcases stepM_mem e1 hu with hu | ⟨rfl, hv⟩
      · exact .inl hu
      · exact .inr ⟨hv, .inl rfl⟩
    · exact .inr ⟨hv, .inr (.inl rfl)⟩
  · exact .inr ⟨hv, .inr (.inr rfl)⟩
theorem place_one {h : RowV} (ha : Asc h) {p t u : ByteArray} (e : (isVarK p.data.toList = true ∧ (p, t) ∈ h) ∨ (isVarK p.data.toList = false ∧ p = t)) (e' : (isVarK p.data.toList = true ∧ (p, u) ∈ h) ∨ (isVarK p.data.toList = false ∧ p = u)) : t = u := by
  rcases e with ⟨h1, h2⟩ | ⟨h1, h2⟩
  · rcases e' with ⟨_, k2⟩ | ⟨k1, _⟩
    · exact congrArg Prod.snd (asc_uniq ha h2 k2 rfl)
    · rw [h1] at k1; cases k1
  · rcases e' with ⟨k1, _⟩ | ⟨_, k2⟩
    · rw [h1] at k1; cases k1
    · rw [← h2, ← k2]
theorem row_one {h r s : RowV} (ha : Asc h) (hr : ∀ u ∈ r, u ∈ h) (hs : ∀ u ∈ s, u ∈ h) (ed : dom r = dom s) : r = s := by
  have hl : r.length = s.length := by have := congrArg List.length ed; simpa [dom] using this
  apply List.ext_getElem hl
  intro i h1 h2
  refine asc_uniq ha (hr _ (List.getElem_mem _)) (hs _ (List.getElem_mem _)) ?_
  have := dom_at ed i
  rw [List.getElem?_eq_getElem h1, List.getElem?_eq_getElem h2] at this
  simpa using this
/-- The new row tells the old row and the triple. -/
theorem matchM_inj {r s h : RowV} {p t u : Tri3} (ed : dom r = dom s) (ha : Asc r) (e : matchM r p t = some h) (e' : matchM s p u = some h) : r = s ∧ t = u := by
  have hh := matchM_asc ha e
  refine ⟨row_one hh (matchM_sub e) (matchM_sub e') ed, ?_⟩
  obtain ⟨a, b, e1, e2, e3⟩ := matchM_parts e
  obtain ⟨a', b', f1, f2, f3⟩ := matchM_parts e'
  have up : ∀ {x y z : RowV} {q v : ByteArray}, ((isVarK q.data.toList = true ∧ (q, v) ∈ x) ∨ (isVarK q.data.toList = false ∧ q = v)) → (∀ w ∈ x, w ∈ y) → ((isVarK q.data.toList = true ∧ (q, v) ∈ y) ∨ (isVarK q.data.toList = false ∧ q = v)) := by
    intro x y z q v hq hxy
    rcases hq with ⟨h1, h2⟩ | hq
    · exact .inl ⟨h1, hxy _ h2⟩
    · exact .inr hq
  have q1 := place_one hh (up (z := r) (stepM_place e1) (fun w hw => stepM_sub e3 _ (stepM_sub e2 _ hw))) (up (z := r) (stepM_place f1) (fun w hw => stepM_sub f3 _ (stepM_sub f2 _ hw)))
  have q2 := place_one hh (up (z := r) (stepM_place e2) (fun w hw => stepM_sub e3 _ hw)) (up (z := r) (stepM_place f2) (fun w hw => stepM_sub f3 _ hw))
  have q3 := place_one hh (stepM_place e3) (stepM_place f3)
  exact Prod.ext q1 (Prod.ext q2 q3)
/-- All that rows and triples give. -/
def joinM (g : List Tri3) (p : Tri3) (rows : List RowV) : List RowV := rows.flatMap fun r => g.filterMap fun t => matchM r p t
def Even (rows : List RowV) : Prop := rows.Nodup ∧ (∀ r ∈ rows, Asc r) ∧ ∀ r ∈ rows, ∀ s ∈ rows, dom r = dom s
theorem joinM_mem {g : List Tri3} {p : Tri3} {rows : List RowV} {h : RowV} : h ∈ joinM g p rows ↔ ∃ r ∈ rows, ∃ t ∈ g, matchM r p t = some h := by
  unfold joinM
  rw [List.mem_flatMap]
  constructor
  · rintro ⟨r, hr, hh⟩
    obtain ⟨t, ht, e⟩ := List.mem_filterMap.1 hh
    exact ⟨r, hr, t, ht, e⟩
  · rintro ⟨r, hr, t, ht, e⟩
    exact ⟨r, hr, List.mem_filterMap.2 ⟨t, ht, e⟩⟩
theorem Even.join {g : List Tri3} {p : Tri3} {rows : List RowV} (hg : g.Nodup) (h : Even rows) : Even (joinM g p rows) := by
  obtain ⟨h1, h2, h3⟩ := h
  refine ⟨?_, fun r hr => ?_, fun r hr s hs => ?_⟩
  · unfold joinM List.Nodup
    rw [List.pairwise_flatMap]
    refine ⟨fun r hr => ?_, ?_⟩
    · rw [List.pairwise_filterMap]
      refine hg.imp ?_
      intro t u hne x hx y hy e
      subst e
      exact hne (matchM_inj rfl (h2 r hr) hx hy).2
    · refine List.Pairwise.imp_of_mem ?_ h1
      intro r s hr hs hne x hx y hy e
      subst e
      obtain ⟨t, _, e1⟩ := List.mem_filterMap.1 hx
      obtain ⟨u, _, e2⟩ := List.mem_filterMap.1 hy
      exact hne (matchM_inj (h3 r hr s hs) (h2 r hr) e1 e2).1
  · obtain ⟨q, hq, t, _, e⟩ := joinM_mem.1 hr
    exact matchM_asc (h2 q hq) e
  · obtain ⟨q, hq, t, _, e⟩ := joinM_mem.1 hr
    obtain ⟨q', hq', u, _, e'⟩ := joinM_mem.1 hs
    exact matchM_dom (h3 q hq q' hq') e e'
theorem Even.one (r : RowV) (h : Asc r) : Even [r] := ⟨by simp, by simpa using h, by simp⟩
/-- Rows without a byte 0. -/
def NoZs (rows : List RowV) : Prop := ∀ r ∈ rows, ∀ t ∈ r, NoZ t
theorem addAllS_self : ∀ {l ts : List Txt}, (ts ++ l).Nodup → addAllS ts l = ts ++ l
  | [], ts, _ => by simp [addAllS]
  | t :: l, ts, h => by
    show addAllS (addS ts t) l = _
    have hn : t ∉ ts := by
      have := (List.nodup_append.1 h).2.2
      exact fun ht => this t ht t (List.mem_cons_self ..) rfl
    unfold addS
    rw [if_neg hn, addAllS_self (by simpa using h)]
    simp
theorem keys_nodup {L : List RowV} (h : L.Nodup) (hz : NoZs L) : (L.map rowTextL).Nodup := by
  unfold List.Nodup at h ⊢
  rw [List.pairwise_map]
  exact List.Pairwise.imp_of_mem (fun hr hs hne e => hne (rowTextL_inj _ _ (hz _ hr) (hz _ hs) e)) h
theorem addAllR_perm {L : List RowV} (h : L.Nodup) (hz : NoZs L) : (addAllR [] L).Perm L := by
  obtain ⟨row, h1, h2⟩ := picked L hz
  rw [← h2, addAllS_self (by simpa using keys_nodup h hz), List.nil_append]
  refine ((List.mergeSort_perm _ leB).map row).trans ?_
  rw [List.map_map]
  have e : L.map (row ∘ rowTextL) = L := by
    conv => rhs; rw [← List.map_id L]
    exact List.map_congr_left fun r hr => h1 r hr
  rw [e]
theorem addAllR_same {L M : List RowV} (hz : NoZs L) (hz' : NoZs M) (he : ∀ r, r ∈ L ↔ r ∈ M) : addAllR [] L = addAllR [] M := by
  have hm : ∀ {L : List RowV}, NoZs L → ∀ r ∈ addAllR [] L, ∀ t ∈ r, NoZ t := fun {L} hz r hr => by
    rcases addAllR_mem hr with h | h
    · simp at h
    · exact hz r h
  refine rows_of_keys (hm hz) (hm hz') ?_
  rw [addAllR_keys, addAllR_keys]
  show putAllS [] (L.map rowTextL) = putAllS [] (M.map rowTextL)
  rw [← sorted_words (M.map rowTextL)]
  refine (mergeSort_is (addAllS_nodup _ [] List.nodup_nil) (putAllS_rising List.Pairwise.nil) (fun u => ?_)).symm
  rw [addAllS_mem, putAllS_mem]
  simp only [List.not_mem_nil, false_or, List.mem_map]
  exact ⟨fun ⟨r, hr, e⟩ => ⟨r, (he r).2 hr, e⟩, fun ⟨r, hr, e⟩ => ⟨r, (he r).1 hr, e⟩⟩
/-- All rows of patterns, one behind the other; none: they are too many behind one. -/
def contM (g : List Tri3) : List Tri3 → List RowV → Option (List RowV)
  | [], rows => some rows
  | p :: l, rows => if (joinM g p rows).length ≤ 300 then contM g l (joinM g p rows) else none
def solveM (g : List Tri3) : List Tri3 → List RowV → Option (List RowV)
  | [], rows => some rows
  | p :: l, rows => if (addAllR [] (joinM g p rows)).length ≤ 300 then solveM g l (addAllR [] (joinM g p rows)) else none
def NoZt (t : Tri3) : Prop := (0 : UInt8) ∉ t.1.data.toList ∧ (0 : UInt8) ∉ t.2.1.data.toList ∧ (0 : UInt8) ∉ t.2.2.data.toList
theorem NoZs.join {g : List Tri3} {p : Tri3} {rows : List RowV} (hg : ∀ t ∈ g, NoZt t) (hp : NoZt p) (h : NoZs rows) : NoZs (joinM g p rows) := by
  intro r hr u hu
  obtain ⟨q, hq, t, ht, e⟩ := joinM_mem.1 hr
  obtain ⟨a, b, c⟩ := hp
  obtain ⟨a', b', c'⟩ := hg t ht
  rcases matchM_mem e hu with hu | ⟨_, rfl | rfl | rfl⟩
  · exact h q hq u hu
  · exact ⟨a, a'⟩
  · exact ⟨b, b'⟩
  · exact ⟨c, c'⟩
theorem joinM_same {g : List Tri3} {p : Tri3} {rows rows' : List RowV} (h : ∀ r, r ∈ rows ↔ r ∈ rows') : ∀ r, r ∈ joinM g p rows ↔ r ∈ joinM g p rows' := by
  intro r
  rw [joinM_mem, joinM_mem]
  exact ⟨fun ⟨q, hq, x⟩ => ⟨q, (h q).1 hq, x⟩, fun ⟨q, hq, x⟩ => ⟨q, (h q).2 hq, x⟩⟩
theorem addAllR_iff {L : List RowV} (h : L.Nodup) (hz : NoZs L) : ∀ r, r ∈ addAllR [] L ↔ r ∈ L := fun _ => (addAllR_perm h hz).mem_iff
/-- Both ways tell the same rows. -/
theorem solve_is {g : List Tri3} (hg : g.Nodup) (hz : ∀ t ∈ g, NoZt t) : ∀ (l : List Tri3) (rows : List RowV), (∀ p ∈ l, NoZt p) → Even rows → NoZs rows → solveM g l (addAllR [] rows) = (contM g l rows).map (addAllR [])
  | [], rows, _, _, _ => rfl
  | p :: l, rows, hl, he, hn => by
    have hp := hl p (List.mem_cons_self ..)
    have hj := he.join (p := p) hg
    have hnj := hn.join hz hp
    have hn' : NoZs (addAllR [] rows) := fun r hr => hn r ((addAllR_iff he.1 hn r).1 hr)
    have e : addAllR [] (joinM g p (addAllR [] rows)) = addAllR [] (joinM g p rows) := addAllR_same (hn'.join hz hp) hnj (joinM_same (addAllR_iff he.1 hn))
    have el : (addAllR [] (joinM g p rows)).length = (joinM g p rows).length := (addAllR_perm hj.1 hnj).length_eq
    unfold solveM contM
    rw [e, el]
    by_cases hc : (joinM g p rows).length ≤ 300
    · rw [if_pos hc, if_pos hc]
      exact solve_is hg hz l _ (fun q hq => hl q (List.mem_cons_of_mem _ hq)) hj hnj
    · rw [if_neg hc, if_neg hc]; rfl
end Go.Proofs.YtiajdnhmjdfeeaaGreat
namespace Go.Proofs.YtiajdnhmjdfeeaaGreat
open Go.RowKit
def insP (q : RowV) (u : Pre2) : RowV := (q.take (posP u.1 q) ++ [u]) ++ q.drop (posP u.1 q)
theorem insP_mem {q : RowV} {u v : Pre2} : v ∈ insP q u ↔ v ∈ q ∨ v = u := by
  have e : v ∈ q ↔ v ∈ q.take (posP u.1 q) ∨ v ∈ q.drop (posP u.1 q) := by
    conv => lhs; rw [← List.take_append_drop (posP u.1 q) q]
    exact List.mem_append
  unfold insP
  rw [List.mem_append, List.mem_append, e, List.mem_singleton]
  constructor
  · rintro ((h | h) | h)
    · exact .inl (.inl h)
    · exact .inr h
    · exact .inl (.inr h)
  · rintro ((h | h) | h)
    · exact .inl (.inl h)
    · exact .inr h
    · exact .inl (.inr h)
theorem putP_out {q : RowV} {u : Pre2} (h : ∀ v ∈ q, v.1 ≠ u.1) : putP q u = some (insP q u) := putP_new rfl (fun v hv => h v (List.mem_of_getElem? hv))
theorem putP_in {q : RowV} {x v y : ByteArray} (ha : Asc q) (h : (x, v) ∈ q) : putP q (x, y) = if v = y then some q else none := by
  have ha' := asc_iff.1 ha
  obtain ⟨i, hi⟩ := List.mem_iff_getElem?.1 h
  have hil := (List.getElem?_eq_some_iff.1 hi).1
  have hp : posP (x, y).1 q = i := posP_is (fun j u hj hu => by
    have := ha j i u (x, v) hj hu hi
    rw [lessP_is] at this
    exact this) (by omega) (fun u hu => by
    rw [hi] at hu
    obtain rfl := Option.some.inj hu
    exact ltb_irrefl _)
  by_cases e : v = y
  · rw [if_pos e]
    exact putP_same hp hi rfl e
  · rw [if_neg e]
    exact putP_other hp hi rfl e
/-- What is asked of a place, and the term there. -/
def condM (prev : List Pre2) (a y : ByteArray) : Prop := (isVarK a.data.toList = true ∨ a = y) ∧ ∀ u ∈ prev, u.1 = a → u.2 = y
def inDom (q : RowV) (a : ByteArray) : Bool := q.any fun u => decide (u.1 = a)
theorem inDom_iff {q : RowV} {a : ByteArray} : inDom q a = true ↔ a ∈ dom q := by
  unfold inDom dom
  rw [List.any_eq_true, List.mem_map]
  exact ⟨fun ⟨u, hu, h⟩ => ⟨u, hu, of_decide_eq_true h⟩, fun ⟨u, hu, h⟩ => ⟨u, hu, decide_eq_true h⟩⟩
def stepB (q : RowV) (a y : ByteArray) : RowV := if isVarK a.data.toList = true ∧ inDom q a = false then insP q (a, y) else q
structure InvM (r q : RowV) (prev : List Pre2) : Prop where
  asc : Asc q
  sub : ∀ u ∈ r, u ∈ q
  src : ∀ u ∈ q, u ∈ r ∨ u ∈ prev
  put : ∀ u ∈ prev, isVarK u.1.data.toList = true → u ∈ q
  fit : ∀ u ∈ prev, isVarK u.1.data.toList = false → u.1 = u.2
  out : ∀ u ∈ prev, isVarK u.1.data.toList = true → ∀ v ∈ r, v.1 ≠ u.1
theorem InvM.start {r : RowV} (ha : Asc r) : InvM r r [] := ⟨ha, fun _ h => h, fun _ h => .inl h, by simp, by simp, by simp⟩
/-- Names are variables, terms are none. -/
def PlainV (r : RowV) : Prop := ∀ u ∈ r, isVarK u.1.data.toList = true ∧ isVarK u.2.data.toList = false
theorem seen_has {r : RowV} (x : ByteArray) : (∃ v, (x, v) ∈ r ∧ seen r x = v) ∨ ((∀ u ∈ r, u.1 ≠ x) ∧ seen r x = x) := by
  induction r with
  | nil => exact .inr ⟨by simp, rfl⟩
  | cons t r ih =>
    by_cases h : t.1 = x
    · exact .inl ⟨t.2, by rw [← h]; exact List.mem_cons_self .., by unfold seen; rw [if_pos h]⟩
    · have e : seen (t :: r) x = seen r x := by rw [seen, if_neg h]
      rcases ih with ⟨v, hv, hs⟩ | ⟨hn, hs⟩
      · exact .inl ⟨v, List.mem_cons_of_mem _ hv, by rw [e, hs]⟩
      · exact .inr ⟨fun u hu => by
          rcases List.mem_cons.1 hu with rfl | hu
          · exact h
          · exact hn u hu, by rw [e, hs]⟩
theorem stepM_is {r q : RowV} {prev : List Pre2} {x y : ByteArray} (hr : PlainV r) (hi : InvM r q prev) :
    (condM prev (seen r x) y → stepM q x y = some (stepB q (seen r x) y) ∧ InvM r (stepB q (seen r x) y) (prev ++ [(seen r x, y)])) ∧ (¬ condM prev (seen r x) y → stepM q x y = none) := by
  have keep : isVarK (seen r x).data.toList = false → seen r x = y → InvM r q (prev ++ [(seen r x, y)]) := fun hv he => by
    refine ⟨hi.asc, hi.sub, fun u hu => (hi.src u hu).imp id (List.mem_append_left _), fun u hu hk => ?_, fun u hu hk => ?_, fun u hu hk => ?_⟩
    · rcases List.mem_append.1 hu with hu | hu
      · exact hi.put u hu hk
      · obtain rfl := List.mem_singleton.1 hu
        rw [hv] at hk; cases hk
    · rcases List.mem_append.1 hu with hu | hu
      · exact hi.fit u hu hk
      · obtain rfl := List.mem_singleton.1 hu
        exact he
    · rcases List.mem_append.1 hu with hu | hu
      · exact hi.out u hu hk
      · obtain rfl := List.mem_singleton.1 hu
        rw [hv] at hk; cases hk
  have sb : isVarK (seen r x).data.toList = false → stepB q (seen r x) y = q := fun hv => by unfold stepB; rw [if_neg (by rw [hv]; simp)]
  have cond : isVarK (seen r x).data.toList = false → (condM prev (seen r x) y ↔ seen r x = y) := fun hv => by
    unfold condM
    constructor
    · rintro ⟨h | h, _⟩
      · rw [hv] at h; cases h
      · exact h
    · intro h
      exact ⟨.inr h, fun u hu e => by rw [← hi.fit u hu (by rw [e]; exact hv), e, h]⟩
  by_cases hx : isVarK x.data.toList = true
  · rcases seen_has (r := r) x with ⟨v, hv, hs⟩ | ⟨hn, hs⟩
    · have hvv := (hr _ hv).2
      dsimp only at hvv
      rw [hs] at keep sb cond ⊢
      have e : stepM q x y = if v = y then some q else none := by unfold stepM; rw [if_pos hx]; exact putP_in hi.asc (hi.sub _ hv)
      rw [cond hvv, sb hvv, e]
      exact ⟨fun h => ⟨by rw [if_pos h], keep hvv h⟩, fun h => by rw [if_neg h]⟩
    · rw [hs] at keep sb cond ⊢
      have e : stepM q x y = putP q (x, y) := by unfold stepM; rw [if_pos hx]
      rw [e]
      by_cases hd : x ∈ dom q
      · obtain ⟨u, hu, hux⟩ := List.mem_map.1 hd
        have hup : u ∈ prev := (hi.src u hu).resolve_left (fun h => hn u h hux)
        have hu' : (x, u.2) ∈ q := by rw [← hux]; exact hu
        have sb2 : stepB q x y = q := by unfold stepB; rw [if_neg (fun h => by rw [inDom_iff.2 hd] at h; cases h.2)]
        rw [putP_in hi.asc hu', sb2]
        have hn2 : u.2 = y → condM prev x y := fun e2 => ⟨.inl hx, fun w hw e3 => by
          have hwq := hi.put w hw (by rw [e3]; exact hx)
          have := asc_uniq hi.asc hwq hu (by rw [e3, hux])
          rw [this]; exact e2⟩
        refine ⟨fun h => ⟨by rw [if_pos (h.2 u hup hux)], ?_⟩, fun h => by rw [if_neg (fun e2 => h (hn2 e2))]⟩
        · have huy := h.2 u hup hux
          refine ⟨hi.asc, hi.sub, fun w hw => (hi.src w hw).imp id (List.mem_append_left _), fun w hw hk => ?_, fun w hw hk => ?_, fun w hw hk => ?_⟩
          · rcases List.mem_append.1 hw with hw | hw
            · exact hi.put w hw hk
            · obtain rfl := List.mem_singleton.1 hw
              rw [← huy]; exact hu'
          · rcases List.mem_append.1 hw with hw | hw
            · exact hi.fit w hw hk
            · obtain rfl := List.mem_singleton.1 hw
              rw [hx] at hk; cases hk
          · rcases List.mem_append.1 hw with hw | hw
            · exact hi.out w hw hk
            · obtain rfl := List.mem_singleton.1 hw
              exact hn
      · have hno : ∀ v ∈ q, v.1 ≠ (x, y).1 := fun v hv e2 => hd (List.mem_map.2 ⟨v, hv, e2⟩)
        have sb2 : stepB q x y = insP q (x, y) := by
          have g : inDom q x = false := by
            cases g : inDom q x
            · rfl
            · exact absurd (inDom_iff.1 g) hd
          unfold stepB
          rw [if_pos ⟨hx, g⟩]
        rw [putP_out hno, sb2]
        have hc : condM prev x y := ⟨.inl hx, fun w hw e3 => absurd e3 (hno w (hi.put w hw (by rw [e3]; exact hx)))⟩
        refine ⟨fun _ => ⟨rfl, ?_⟩, fun h => absurd hc h⟩
        · refine ⟨putP_asc hi.asc (putP_out hno), fun u hu => insP_mem.2 (.inl (hi.sub u hu)), fun u hu => ?_, fun w hw hk => ?_, fun w hw hk => ?_, fun w hw hk => ?_⟩
          · rcases insP_mem.1 hu with hu | rfl
            · exact (hi.src u hu).imp id (List.mem_append_left _)
            · exact .inr (List.mem_append_right _ (List.mem_singleton.2 rfl))
          · rcases List.mem_append.1 hw with hw | hw
            · exact insP_mem.2 (.inl (hi.put w hw hk))
            · exact insP_mem.2 (.inr (List.mem_singleton.1 hw))
          · rcases List.mem_append.1 hw with hw | hw
            · exact hi.fit w hw hk
            · obtain rfl := List.mem_singleton.1 hw
              rw [hx] at hk; cases hk
          · rcases List.mem_append.1 hw with hw | hw
            · exact hi.out w hw hk
            · obtain rfl := List.mem_singleton.1 hw
              exact hn
  · have hxf : isVarK x.data.toList = false := by simpa using hx
    have hs : seen r x = x := by
      rcases seen_has (r := r) x with ⟨v, hv, _⟩ | ⟨_, hs⟩
      · exact absurd (hr _ hv).1 hx
      · exact hs
    rw [hs] at keep sb cond ⊢
    have e : stepM q x y = if x = y then some q else none := by unfold stepM; rw [if_neg hx]
    rw [cond hxf, sb hxf, e]
    exact ⟨fun h => ⟨by rw [if_pos h], keep hxf h⟩, fun h => by rw [if_neg h]⟩
/-- The pattern as a row has it. -/
def askM (r : RowV) (p : Tri3) : Tri3 := (seen r p.1, seen r p.2.1, seen r p.2.2)
def fitsM (a t : Tri3) : Prop := (isVarK a.1.data.toList = true ∨ a.1 = t.1) ∧ (isVarK a.2.1.data.toList = true ∨ a.2.1 = t.2.1) ∧ (isVarK a.2.2.data.toList = true ∨ a.2.2 = t.2.2)
def alikeM (a t : Tri3) : Prop := (a.1 = a.2.1 → t.1 = t.2.1) ∧ (a.1 = a.2.2 → t.1 = t.2.2) ∧ (a.2.1 = a.2.2 → t.2.1 = t.2.2)
def boundM (r : RowV) (a t : Tri3) : RowV := stepB (stepB (stepB r a.1 t.1) a.2.1 t.2.1) a.2.2 t.2.2
theorem matchM_is {r : RowV} {p t : Tri3} (hr : PlainV r) (ha : Asc r) : (fitsM (askM r p) t ∧ alikeM (askM r p) t → matchM r p t = some (boundM r (askM r p) t)) ∧ (¬ (fitsM (askM r p) t ∧ alikeM (askM r p) t) → matchM r p t = none) := by
  obtain ⟨p1, p2, p3⟩ := p
  obtain ⟨t1, t2, t3⟩ := t
  unfold askM fitsM alikeM boundM matchM
  dsimp only
  obtain ⟨s1, n1⟩ := stepM_is (x := p1) (y := t1) hr (InvM.start ha)
  by_cases c1 : condM [] (seen r p1) t1
  · obtain ⟨e1, i1⟩ := s1 c1
    obtain ⟨s2, n2⟩ := stepM_is (x := p2) (y := t2) hr i1
    rw [e1, Option.bind_some]
    by_cases c2 : condM ([] ++ [(seen r p1, t1)]) (seen r p2) t2
    · obtain ⟨e2, i2⟩ := s2 c2
      obtain ⟨s3, n3⟩ := stepM_is (x := p3) (y := t3) hr i2
      rw [e2, Option.bind_some]
      by_cases c3 : condM ([] ++ [(seen r p1, t1)] ++ [(seen r p2, t2)]) (seen r p3) t3
      · obtain ⟨e3, _⟩ := s3 c3
        rw [e3]
        refine ⟨fun _ => rfl, fun h => absurd ⟨⟨c1.1, c2.1, c3.1⟩, fun e => ?_, fun e => ?_, fun e => ?_⟩ h⟩
        · exact c2.2 (seen r p1, t1) (by simp) e
        · exact c3.2 (seen r p1, t1) (by simp) e
        · exact c3.2 (seen r p2, t2) (by simp) e
      · rw [n3 c3]
        refine ⟨fun h => absurd ⟨h.1.2.2, fun u hu e => ?_⟩ c3, fun _ => rfl⟩
        simp at hu
        rcases hu with rfl | rfl
        · exact h.2.2.1 e
        · exact h.2.2.2 e
    · rw [n2 c2]
      refine ⟨fun h => absurd ⟨h.1.2.1, fun u hu e => ?_⟩ c2, fun _ => rfl⟩
      simp at hu
      subst hu
      exact h.2.1 e
  · rw [n1 c1]
    exact ⟨fun h => absurd ⟨h.1.1, by simp⟩ c1, fun _ => rfl⟩
theorem matchM_plain {r h : RowV} {p t : Tri3} (hr : PlainV r) (ht : isVarK t.1.data.toList = false ∧ isVarK t.2.1.data.toList = false ∧ isVarK t.2.2.data.toList = false) (e : matchM r p t = some h) : PlainV h := by
  intro u hu
  rcases matchM_mem e hu with hu | ⟨hv, rfl | rfl | rfl⟩
  · exact hr u hu
  · exact ⟨hv, ht.1⟩
  · exact ⟨hv, ht.2.1⟩
  · exact ⟨hv, ht.2.2⟩
end Go.Proofs.YtiajdnhmjdfeeaaGreat
namespace Go.Proofs.YtiajdnhmjdfeeaaGreat
open Go.RowKit Go.WideShapes
set_option maxRecDepth 100000 in
theorem implCmpPair (s p x : ByteArray) (w : World) :
    Calls Tryz.prog 123 #[.agg #[.string s, .string p], .string x] w fun e w' => e = .returned (.int .i64 (Lib.compareBytes s.data.toList x.data.toList)) ∧ Below w.heap.size w w' := by
  go_enter Tryz.func123, Tryz.ntmps123
  go_wp2_with fail
  refine (Tryz.strings_Compare s x _).mono ?_
  rintro e w1 ⟨rfl, rfl⟩
  go_wp2_with fail
  go_ret
  exact ⟨rfl, (Below.refl _ _).alloc (Nat.le_refl _) _⟩
def SearchPost (ts : List Pre2) (x : ByteArray) (w : World) (e : Ending) (w' : World) : Prop :=
  ∃ (lo : Nat) (f : Bool), e = .returned (.tuple #[.int .i64 lo, .bool f]) ∧ lo ≤ ts.length ∧ posP x ts = lo ∧ (f = true → ∃ t, ts[lo]? = some t ∧ t.1 = x) ∧ (f = false → ∀ t ∈ ts, t.1 ≠ x) ∧ Below w.heap.size w w'
theorem search_no {ts : List Pre2} {x : ByteArray} {lo : Nat} (ha : Asc ts) (h1 : ∀ (i : Nat) (t : Pre2), i < lo → ts[i]? = some t → Op.bytesLess t.1.data.toList x.data.toList = true)
    (h2 : ∀ t : Pre2, ts[lo]? = some t → Op.bytesLess x.data.toList t.1.data.toList = true) : ∀ t ∈ ts, t.1 ≠ x := by
  intro t ht hx
  obtain ⟨i, hi⟩ := List.mem_iff_getElem?.1 ht
  subst hx
  have hl := (List.getElem?_eq_some_iff.1 hi).1
  rcases Nat.lt_trichotomy i lo with h | rfl | h
  · have := h1 i t h hi
    rw [ltb_irrefl] at this; cases this
  · have := h2 t hi
    rw [ltb_irrefl] at this; cases this
  · have hm : ts[lo]? = some ts[lo] := List.getElem?_eq_getElem (by omega)
    have a := h2 _ hm
    have b := ha lo i _ _ h hm hi
    unfold lessP at b
    rw [ByteArray.toList_eq, ByteArray.toList_eq] at b
    have := ltb_trans _ _ _ a b
    rw [ltb_irrefl] at this; cases this
set_option maxRecDepth 100000 in
set_option maxHeartbeats 1600000 in
theorem implSearch (a : Option Addr) (len cap : Nat) (ts : List Pre2) (x : ByteArray) (w : World) (h : IsPres w a len cap ts) (ha : Asc ts) (hlen : len ≤ 1048576) :
    Calls Tryz.prog 122 #[.slice a len cap, .string x, .func (.func 123) #[] #[]] w (SearchPost ts x w) := by
  have HT := Lib.hid h.len
  have H := Lib.hid h
  have HA := Lib.hid ha
  clear h ha
  go_enter Tryz.func122, Tryz.ntmps122
  go_wp2_with fail
  go_loopw [9, 10] (fun s9 s10 wr => ∃ lo hi : Nat, s9 = .int .i64 lo ∧ s10 = .int .i64 hi ∧ lo ≤ hi ∧ hi ≤ len ∧ Below w.heap.size w wr ∧
    Hid ((∀ (i : Nat) (t : Pre2), i < lo → ts[i]? = some t → Op.bytesLess t.1.data.toList x.data.toList = true) ∧ (∀ (i : Nat) (t : Pre2), hi ≤ i → ts[i]? = some t → Op.bytesLess t.1.data.toList x.data.toList = false))) (fun s9 s10 _ => (intOf s10).toNat - (intOf s9).toNat)
  case atStart =>
    exact ⟨0, len, rfl, rfl, Nat.zero_le _, Nat.le_refl _, Below.refl _ _, Lib.hid ⟨fun i t hi => by omega, fun i t hi ht => by have := (List.getElem?_eq_some_iff.1 ht).1; have := HT.out; omega⟩⟩
  case round =>
    obtain ⟨lo, hi, rfl, rfl, hlh, hin, hnx, I⟩ := hrel
    by_cases hlt : lo < hi
    · obtain ⟨b, off, rfl, hb, hl, hm, hts, hc⟩ := H.out.cells (by omega)
      obtain ⟨m, hmd⟩ : ∃ m, (lo + hi) / 2 = m := ⟨_, rfl⟩
      have hm1 : lo ≤ m := by omega
      have hm2 : m < hi := by omega
      have hmi : ((lo : Int) + (hi : Int)) / 2 = (m : Int) := by omega
      have ht : ts[m]? = some ts[m] := List.getElem?_eq_getElem (by omega)
      obtain ⟨c0, c1, m0, m1⟩ := hc m _ ht
      clear m0 m1 hmd
      rw [← hnx.cell (p := ⟨b, _, none⟩) hb] at c0 c1
      obtain ⟨t, htt⟩ : ∃ t, ts[m] = t := ⟨_, rfl⟩
      rw [htt] at c0 c1 ht
      clear htt
      have C := Lib.hid (implCmpPair t.1 t.2 x)
      have hml : m < len := by omega
      have hk6 : (0 : Int) ≤ (m : Int) := by omega
      have hk7 : (m : Int) < (len : Int) := by omega
      clear hts hc hm
      have K : (Lib.compareBytes t.1.data.toList x.data.toList < 0 ∧ Op.bytesLess t.1.data.toList x.data.toList = true) ∨ (¬ Lib.compareBytes t.1.data.toList x.data.toList < 0 ∧ Op.bytesLess t.1.data.toList x.data.toList = false) := by
        rcases cmp_cases t.1.data.toList x.data.toList with ⟨g, g'⟩ | ⟨g, g'⟩ | ⟨g, g'⟩
        · exact .inl ⟨g, g'⟩
        · exact .inr ⟨by omega, by rw [g', ltb_irrefl]⟩
        · exact .inr ⟨by omega, ltb_asymm _ _ g'⟩
      rcases K with ⟨g, g'⟩ | ⟨g, g'⟩
      · have J : Hid ((∀ (i : Nat) (t : Pre2), i < m + 1 → ts[i]? = some t → Op.bytesLess t.1.data.toList x.data.toList = true) ∧ (∀ (i : Nat) (t : Pre2), hi ≤ i → ts[i]? = some t → Op.bytesLess t.1.data.toList x.data.toList = false)) := Lib.hid ⟨fun i u hi' hu => by
          rcases Nat.lt_or_eq_of_le (show i ≤ m by omega) with hlt' | rfl
          · have := HA.out i m u t hlt' hu ht
            unfold lessP at this
            rw [ByteArray.toList_eq, ByteArray.toList_eq] at this
            exact ltb_trans _ _ _ this g'
          · obtain rfl : u = t := by rw [hu] at ht; exact Option.some.inj ht
            exact g', I.out.2⟩
        clear g' ht
        generalize Lib.compareBytes t.1.data.toList x.data.toList = cc at C g
        go_wp2_with fail
        refine (C.out _).mono ?_
        rintro e w1 ⟨rfl, hb1⟩
        have B : Below w.heap.size w w1 := hnx.trans (hb1.mono hnx.size)
        clear hb1 hnx c0 c1
        go_wp2_with fail
        go_roundw
        case rel => exact ⟨m + 1, hi, by go_num, rfl, by omega, hin, B, J⟩
        case measure => simp [intOf]; omega
      · have J : Hid ((∀ (i : Nat) (t : Pre2), i < lo → ts[i]? = some t → Op.bytesLess t.1.data.toList x.data.toList = true) ∧ (∀ (i : Nat) (t : Pre2), m ≤ i → ts[i]? = some t → Op.bytesLess t.1.data.toList x.data.toList = false)) := Lib.hid ⟨I.out.1, fun i u hi' hu => by
          rcases Nat.lt_or_eq_of_le hi' with hlt' | rfl
          · have := HA.out m i t u hlt' ht hu
            unfold lessP at this
            rw [ByteArray.toList_eq, ByteArray.toList_eq] at this
            cases hux : Op.bytesLess u.1.data.toList x.data.toList
            · rfl
            · rw [ltb_trans _ _ _ this hux] at g'; cases g'
          · obtain rfl : u = t := by rw [hu] at ht; exact Option.some.inj ht
            exact g'⟩
        clear g' ht
        generalize Lib.compareBytes t.1.data.toList x.data.toList = cc at C g
        go_wp2_with fail
        refine (C.out _).mono ?_
        rintro e w1 ⟨rfl, hb1⟩
        have B : Below w.heap.size w w1 := hnx.trans (hb1.mono hnx.size)
        clear hb1 hnx c0 c1
        go_wp2_with fail
        go_roundw
        case rel => exact ⟨lo, m, rfl, rfl, by omega, by omega, B, J⟩
        case measure => simp [intOf]; omega
    · obtain rfl : lo = hi := by omega
      by_cases hll : lo < len
      · obtain ⟨b, off, rfl, hb, hl, hm, hts, hc⟩ := H.out.cells (by omega)
        have ht : ts[lo]? = some ts[lo] := List.getElem?_eq_getElem (by omega)
        obtain ⟨c0, c1, m0, m1⟩ := hc lo _ ht
        clear m0 m1
        rw [← hnx.cell (p := ⟨b, _, none⟩) hb] at c0 c1
        obtain ⟨t, htt⟩ : ∃ t, ts[lo] = t := ⟨_, rfl⟩
        rw [htt] at c0 c1 ht
        clear htt
        have C := Lib.hid (implCmpPair t.1 t.2 x)
        have hk6 : (0 : Int) ≤ (lo : Int) := by omega
        have hk7 : (lo : Int) < (len : Int) := by omega
        have hle : lo ≤ ts.length := by omega
        have HL := Lib.hid hle
        have HP := Lib.hid (posP_is I.out.1 hle (fun u hu => I.out.2 lo u (Nat.le_refl _) hu))
        clear hts hc hm hle
        have K : ((Lib.compareBytes t.1.data.toList x.data.toList == 0) = true ∧ t.1 = x) ∨ ((Lib.compareBytes t.1.data.toList x.data.toList == 0) = false ∧ Op.bytesLess x.data.toList t.1.data.toList = true) := by
          rcases cmp_cases t.1.data.toList x.data.toList with ⟨g, g'⟩ | ⟨g, g'⟩ | ⟨g, g'⟩
          · rw [I.out.2 lo t (Nat.le_refl _) ht] at g'; cases g'
          · exact .inl ⟨by rw [g]; rfl, data_inj g'⟩
          · exact .inr ⟨by rw [beq_eq_false_iff_ne]; omega, g'⟩
        rcases K with ⟨g, g'⟩ | ⟨g, g'⟩
        · have J : Hid (∃ t, ts[lo]? = some t ∧ t.1 = x) := Lib.hid ⟨t, ht, g'⟩
          clear g' ht
          generalize Lib.compareBytes t.1.data.toList x.data.toList = cc at C g
          go_wp2_with fail
          refine (C.out _).mono ?_
          rintro e w1 ⟨rfl, hb1⟩
          have B : Below w.heap.size w w1 := hnx.trans (hb1.mono hnx.size)
          clear hb1 hnx c0 c1
          go_wp2_with fail
          go_ret2
          exact ⟨lo, true, rfl, HL.out, HP.out, fun _ => J.out, (fun h => by cases h), B⟩
        · have J : Hid (∀ t ∈ ts, t.1 ≠ x) := Lib.hid (search_no HA.out I.out.1 (fun u hu => by
            obtain rfl : u = t := by rw [hu] at ht; exact Option.some.inj ht
            exact g'))
          clear g' ht
          generalize Lib.compareBytes t.1.data.toList x.data.toList = cc at C g
          go_wp2_with fail
          refine (C.out _).mono ?_
          rintro e w1 ⟨rfl, hb1⟩
          have B : Below w.heap.size w w1 := hnx.trans (hb1.mono hnx.size)
          clear hb1 hnx c0 c1
          go_wp2_with fail
          go_ret2
          exact ⟨lo, false, rfl, HL.out, HP.out, (fun h => by cases h), fun _ => J.out, B⟩
      · have HP := Lib.hid (posP_is I.out.1 (show lo ≤ ts.length by have := HT.out; omega) (fun u hu => I.out.2 lo u (Nat.le_refl _) hu))
        have J : Hid (lo ≤ ts.length ∧ ∀ t ∈ ts, t.1 ≠ x) := Lib.hid ⟨by have := HT.out; omega, search_no HA.out I.out.1 (fun u hu => by have := (List.getElem?_eq_some_iff.1 hu).1; have := HT.out; omega)⟩
        go_wp2_with fail
        go_ret2
        exact ⟨lo, false, rfl, J.out.1, HP.out, (fun h => by cases h), fun _ => J.out.2, hnx⟩
end Go.Proofs.YtiajdnhmjdfeeaaGreat
