/- Rows projected once more stay as they are: plain lists.; What the rows of right patterns have: plain facts.; Rows that are extended: plain facts. -/
import Derived.Test.YtiajdnhmjdfeeaaGreatK31
import Derived.Test.YtiajdnhmjdfeeaaGreatK25
import Derived.Test.YtiajdnhmjdfeeaaGreatK29
import Derived.Test.YtiajdnhmjdfeeaaGreatK37
import Derived.Test.YtiajdnhmjdfeeaaGreatK12
namespace Go.Proofs.YtiajdnhmjdfeeaaGreat
open Go.RowKit Go.WideShapes
theorem addAllR_back {L : List RowV} (hz : NoZs L) {r : RowV} (hr : r ∈ L) : r ∈ addAllR [] L := by
  have hk : rowTextL r ∈ (addAllR [] L).map rowTextL := by
    rw [addAllR_keys]
    show rowTextL r ∈ putAllS [] (L.map rowTextL)
    rw [putAllS_mem]
    exact .inr (List.mem_map_of_mem hr)
  obtain ⟨s, hs, e⟩ := List.mem_map.1 hk
  have hsL : s ∈ L := by
    rcases addAllR_mem hs with h | h
    · simp at h
    · exact h
  rw [← rowTextL_inj s r (hz s hsL) (hz r hr) e]
  exact hs
theorem addAllR_both {L : List RowV} (hz : NoZs L) : ∀ r, r ∈ addAllR [] L ↔ r ∈ L := fun r => ⟨fun h => by
  rcases addAllR_mem h with h | h
  · simp at h
  · exact h, addAllR_back hz⟩
theorem upto_of_pairs {ts : List Pre2} (ho : ∀ t ∈ ts, pairT t = true) (hr : Asc ts) : gUpto pairT lessP ts ts.length = true := by
  unfold gUpto
  rw [List.all_eq_true]
  intro i hi
  have hi := List.mem_range.1 hi
  unfold gAt
  rw [List.getElem?_eq_getElem hi]
  simp only [Bool.and_eq_true, Bool.or_eq_true, beq_iff_eq]
  refine ⟨ho _ (List.getElem_mem hi), ?_⟩
  by_cases h0 : i = 0
  · exact .inl h0
  · refine .inr ?_
    have hj : i - 1 < ts.length := by omega
    rw [List.getElem?_eq_getElem hj]
    exact hr (i - 1) i _ _ (by omega) (List.getElem?_eq_getElem hj) (List.getElem?_eq_getElem hi)
theorem rowOk_keep {names : List Txt} {r : RowV} (h : rowOk r = true) : rowOk (keepL names r) = true := by
  have h12 := rowOk_most h
  have h0 := h
  unfold rowOk at h ⊢
  rw [Bool.and_eq_true, decide_eq_true_eq] at h ⊢
  refine ⟨Nat.le_trans (keepL_len _ _) h12, upto_of_pairs (fun t ht => gUpto_mem h.2 t (List.mem_filter.1 ht).1) ?_⟩
  rw [asc_iff]
  have ha := asc_iff.1 (asc_of h.2)
  unfold AscP at ha ⊢
  exact List.Pairwise.sublist (List.filter_sublist ..) ha
end Go.Proofs.YtiajdnhmjdfeeaaGreat
namespace Go.Proofs.YtiajdnhmjdfeeaaGreat
open Go.RowKit Go.WideShapes Go.Maps Go.Sort Go.Shelf
/-- A place of a pattern is that of a triple, by a row. -/
def PlaceM (h : RowV) (p t : ByteArray) : Prop := (isVarK p.data.toList = true ∧ (p, t) ∈ h) ∨ (isVarK p.data.toList = false ∧ p = t)
def TellsM (h : RowV) (p t : Tri3) : Prop := PlaceM h p.1 t.1 ∧ PlaceM h p.2.1 t.2.1 ∧ PlaceM h p.2.2 t.2.2
theorem PlaceM.up {h k : RowV} (hs : ∀ u ∈ h, u ∈ k) {p t : ByteArray} (e : PlaceM h p t) : PlaceM k p t := by
  rcases e with ⟨a, b⟩ | e
  · exact .inl ⟨a, hs _ b⟩
  · exact .inr e
theorem TellsM.up {h k : RowV} (hs : ∀ u ∈ h, u ∈ k) {p t : Tri3} (e : TellsM h p t) : TellsM k p t := ⟨e.1.up hs, e.2.1.up hs, e.2.2.up hs⟩
theorem matchM_tells {r h : RowV} {p t : Tri3} (e : matchM r p t = some h) : TellsM h p t := by
  obtain ⟨a, b, e1, e2, e3⟩ := matchM_parts e
  have k1 : PlaceM a p.1 t.1 := stepM_place e1
  have k2 : PlaceM b p.2.1 t.2.1 := stepM_place e2
  have k3 : PlaceM h p.2.2 t.2.2 := stepM_place e3
  exact ⟨(k1.up (stepM_sub e2)).up (stepM_sub e3), k2.up (stepM_sub e3), k3⟩
def names (r : RowV) : List Txt := r.map fun u => u.1.data.toList
theorem mem_names {r : RowV} {x : Txt} : x ∈ names r ↔ ∃ u ∈ r, u.1.data.toList = x := by
  unfold names
  rw [List.mem_map]
theorem stepM_names {r h : RowV} {p t : ByteArray} (e : stepM r p t = some h) (x : Txt) : x ∈ names h ↔ x ∈ names r ∨ (isVarK p.data.toList = true ∧ x = p.data.toList) := by
  rw [mem_names, mem_names]
  constructor
  · rintro ⟨u, hu, rfl⟩
    rcases stepM_mem e hu with h' | ⟨rfl, hv⟩
    · exact .inl ⟨u, h', rfl⟩
    · exact .inr ⟨hv, rfl⟩
  · rintro (⟨u, hu, rfl⟩ | ⟨hv, rfl⟩)
    · exact ⟨u, stepM_sub e u hu, rfl⟩
    · rcases stepM_place e with ⟨_, h'⟩ | ⟨h', _⟩
      · exact ⟨_, h', rfl⟩
      · rw [hv] at h'; cases h'
theorem mem_varsIn {l : List ByteArray} {x : Txt} : x ∈ varsIn l ↔ (∃ s ∈ l, s.data.toList = x) ∧ isVarK x = true := by
  unfold varsIn
  rw [List.mem_filter, List.mem_map]
theorem matchM_names {r h : RowV} {p t : Tri3} (e : matchM r p t = some h) (x : Txt) : x ∈ names h ↔ x ∈ names r ∨ x ∈ varsIn (wordsT p) := by
  obtain ⟨a, b, e1, e2, e3⟩ := matchM_parts e
  rw [stepM_names e3, stepM_names e2, stepM_names e1, mem_varsIn]
  unfold wordsT
  constructor
  · rintro (((h | ⟨h1, rfl⟩) | ⟨h1, rfl⟩) | ⟨h1, rfl⟩)
    · exact .inl h
    · exact .inr ⟨⟨p.1, by simp, rfl⟩, h1⟩
    · exact .inr ⟨⟨p.2.1, by simp, rfl⟩, h1⟩
    · exact .inr ⟨⟨p.2.2, by simp, rfl⟩, h1⟩
  · rintro (h | ⟨⟨s, hs, rfl⟩, h1⟩)
    · exact .inl (.inl (.inl h))
    · simp only [List.mem_cons, List.not_mem_nil, or_false] at hs
      rcases hs with rfl | rfl | rfl
      · exact .inl (.inl (.inr ⟨h1, rfl⟩))
      · exact .inl (.inr ⟨h1, rfl⟩)
      · exact .inr ⟨h1, rfl⟩
/-- What each row has, of the patterns that are done. -/
def RowOf (gs done : List Tri3) (r : RowV) : Prop := (∀ x, x ∈ names r ↔ x ∈ varWords done) ∧ (∀ u ∈ r, pairT u = true) ∧ Asc r ∧ ∀ p ∈ done, ∃ t ∈ gs, TellsM r p t
theorem val_of {l : List UInt8} (h : kindL l = 1 ∨ kindL l = 2 ∨ kindL l = 3) : isValK l = true := by
  unfold isValK
  simp only [Bool.or_eq_true, decide_eq_true_eq]
  omega
theorem RowOf.join {gs done : List Tri3} {p : Tri3} {rows : List RowV} (hok : ∀ t ∈ gs, okT t = true) (h : ∀ r ∈ rows, RowOf gs done r) : ∀ r ∈ joinM gs p rows, RowOf gs (done ++ [p]) r := by
  intro r hr
  obtain ⟨q, hq, t, ht, e⟩ := joinM_mem.1 hr
  obtain ⟨h1, h2, h3, h4⟩ := h q hq
  refine ⟨fun x => ?_, fun u hu => ?_, matchM_asc h3 e, fun p' hp' => ?_⟩
  · rw [matchM_names e, h1, varWords_snoc, List.mem_append]
  · rcases matchM_mem e hu with hu | ⟨hv, hu⟩
    · exact h2 u hu
    · obtain ⟨k1, k2, k3⟩ := okT_kinds (hok t ht)
      unfold pairT
      rw [hv, Bool.true_and]
      rcases hu with rfl | rfl | rfl
      · exact val_of (by dsimp only; omega)
      · exact val_of (by dsimp only; omega)
      · exact val_of (by dsimp only; omega)
  · rcases List.mem_append.1 hp' with hp' | hp'
    · obtain ⟨t', ht', k⟩ := h4 p' hp'
      exact ⟨t', ht', k.up (matchM_sub e)⟩
    · obtain rfl := List.mem_singleton.1 hp'
      exact ⟨t, ht, matchM_tells e⟩
theorem contM_of {gs : List Tri3} (hok : ∀ t ∈ gs, okT t = true) : ∀ (l done : List Tri3) (rows R : List RowV), (∀ r ∈ rows, RowOf gs done r) → contM gs l rows = some R → ∀ r ∈ R, RowOf gs (done ++ l) r
  | [], done, rows, R, h, e => by
    unfold contM at e
    cases e
    simpa using h
  | p :: l, done, rows, R, h, e => by
    unfold contM at e
    by_cases hc : (joinM gs p rows).length ≤ 300
    · rw [if_pos hc] at e
      have := contM_of hok l (done ++ [p]) _ R (RowOf.join hok h) e
      rw [List.append_assoc] at this
      exact this
    · rw [if_neg hc] at e
      cases e
theorem contM_even {gs : List Tri3} (hg : gs.Nodup) : ∀ (l : List Tri3) (rows R : List RowV), Even rows → contM gs l rows = some R → Even R
  | [], rows, R, h, e => by
    unfold contM at e
    cases e
    exact h
  | p :: l, rows, R, h, e => by
    unfold contM at e
    by_cases hc : (joinM gs p rows).length ≤ 300
    · rw [if_pos hc] at e
      exact contM_even hg l _ R (h.join hg) e
    · rw [if_neg hc] at e
      cases e
theorem RowOf.nil (gs : List Tri3) : RowOf gs [] [] := ⟨fun x => by simp [names, varWords], fun u hu => by simp at hu, goodR_nil.1, fun p hp => by simp at hp⟩
theorem names_rising {r : RowV} (ha : Asc r) : RisingS (names r) := by
  have := asc_iff.1 ha
  unfold AscP at this
  unfold RisingS names
  rw [List.pairwise_map]
  exact this
theorem names_len {r : RowV} {vs : List Txt} (ha : Asc r) (h : ∀ x, x ∈ names r ↔ x ∈ vs) : r.length ≤ vs.length := by
  have h1 := (names_rising ha).nodup
  have h2 := List.Nodup.length_le_of_subset h1 (fun x hx => (h x).1 hx)
  unfold names at h2
  rwa [List.length_map] at h2
theorem RowOf.ok {gs done : List Tri3} {r : RowV} (h : RowOf gs done r) (hd : done.length ≤ 4) : rowOk r = true := by
  unfold rowOk
  rw [Bool.and_eq_true, decide_eq_true_eq]
  have h1 := names_len h.2.2.1 h.1
  have h2 := varWords_len done
  exact ⟨by omega, upto_of_pairs h.2.1 h.2.2.1⟩
def seenT (r : RowV) (p : Tri3) : Tri3 := (seen r p.1, seen r p.2.1, seen r p.2.2)
/-- The rows that are told. -/
theorem solR_cases {gs ls : List Tri3} (h : solOk gs ls = true) : graphOk gs = true ∧ bgpOk ls = true ∧ ∃ R, contM gs ls [[]] = some R ∧ solR gs ls = addAllR [] R ∧ R.Nodup ∧ NoZs R := by
  have h0 := h
  unfold solOk at h
  simp only [Bool.and_eq_true] at h
  obtain ⟨⟨hg, hl⟩, hs⟩ := h
  rw [solve_cont hg hl] at hs
  cases hc : contM gs ls [[]] with
  | none => rw [hc] at hs; simp at hs
  | some R =>
    obtain ⟨_, h2, h3⟩ := graphOk_iff.1 hg
    refine ⟨hg, hl, R, rfl, ?_, (contM_even h3.nodup ls _ R (Even.one [] goodR_nil.1) hc).1, ?_⟩
    · unfold solR
      rw [if_pos (by rw [hg, hl]; rfl), solve_cont hg hl, hc]
      rfl
    · have := contM_of h2 ls [] [[]] R (fun r hr => by obtain rfl : r = [] := by simpa using hr
                                                       exact RowOf.nil gs) hc
      intro r hr u hu
      have hp := (this r hr).2.1 u hu
      unfold pairT isVarK isValK at hp
      simp only [Bool.and_eq_true, Bool.or_eq_true, decide_eq_true_eq] at hp
      exact ⟨no_zero (by omega), no_zero (by omega)⟩
theorem solR_row {gs ls : List Tri3} (h : solOk gs ls = true) : ∀ r ∈ solR gs ls, RowOf gs ls r := by
  obtain ⟨hg, hl, R, hc, e, hn, hz⟩ := solR_cases h
  obtain ⟨_, h2, _⟩ := graphOk_iff.1 hg
  intro r hr
  rw [e] at hr
  have := contM_of h2 ls [] [[]] R (fun r hr => by obtain rfl : r = [] := by simpa using hr
                                                   exact RowOf.nil gs) hc r ((addAllR_iff hn hz r).1 hr)
  simpa using this
theorem solR_len {gs ls : List Tri3} : (solR gs ls).length ≤ 300 := by
  cases h : solOk gs ls
  · unfold solR
    by_cases hb : (graphOk gs && bgpOk ls) = true
    · rw [if_pos hb]
      unfold solOk at h
      rw [hb, Bool.true_and] at h
      cases hs : solveM gs ls [[]] with
      | none => simp
      | some R => rw [hs] at h; simp at h
    · rw [if_neg hb]; simp
  · obtain ⟨hg, hl, R, hc, e, hn, hz⟩ := solR_cases h
    rw [e, (addAllR_perm hn hz).length_eq]
    revert hc
    have key : ∀ (l : List Tri3) (rows : List RowV), rows.length ≤ 300 → contM gs l rows = some R → R.length ≤ 300 := by
      intro l
      induction l with
      | nil => intro rows hr e; unfold contM at e; cases e; exact hr
      | cons p l ih =>
        intro rows hr e
        unfold contM at e
        by_cases hc : (joinM gs p rows).length ≤ 300
        · rw [if_pos hc] at e; exact ih _ hc e
        · rw [if_neg hc] at e; cases e
    exact key ls _ (by simp)
end Go.Proofs.YtiajdnhmjdfeeaaGreat
namespace Go.Proofs.YtiajdnhmjdfeeaaGreat
open Go.RowKit Go.WideShapes Go.Maps Go.Sort Go.Shelf
/-- What one row gives: what comes of it, or itself. -/
def orOne (r : RowV) (M : List RowV) : List RowV := if M.length = 0 then [r] else M
def moreS (gs ls : List Tri3) (r : RowV) : Option (List RowV) := (solveM gs ls [r]).map (orOne r)
def moreC (gs ls : List Tri3) (r : RowV) : Option (List RowV) := (contM gs ls [r]).map (orOne r)
/-- What all rows give, one behind the other. -/
def allX (f : RowV → Option (List RowV)) : List RowV → Option (List RowV)
  | [] => some []
  | r :: rs => (f r).bind fun M => (allX f rs).map fun A => M ++ A
theorem allX_snoc (f : RowV → Option (List RowV)) (r : RowV) : ∀ rs : List RowV, allX f (rs ++ [r]) = (allX f rs).bind fun A => (f r).map fun M => A ++ M
  | [] => by
    show (f r).bind _ = _
    cases h : f r <;> simp [allX]
  | s :: rs => by
    show (f s).bind _ = _
    have e : allX f (s :: rs) = (f s).bind fun M => (allX f rs).map fun A => M ++ A := rfl
    rw [e]
    cases h : f s with
    | none => rfl
    | some M =>
      show (allX f (rs ++ [r])).map _ = _
      rw [allX_snoc f r rs]
      cases h2 : allX f rs with
      | none => simp
      | some A => cases h3 : f r <;> simp
theorem allX_none {f : RowV → Option (List RowV)} {r : RowV} (h : f r = none) : ∀ {rs : List RowV}, r ∈ rs → allX f rs = none
  | [], hr => by simp at hr
  | s :: rs, hr => by
    have e : allX f (s :: rs) = (f s).bind fun M => (allX f rs).map fun A => M ++ A := rfl
    rw [e]
    rcases List.mem_cons.1 hr with rfl | hr
    · rw [h]; rfl
    · rw [allX_none h hr]
      cases f s <;> rfl
theorem allX_mem {f : RowV → Option (List RowV)} : ∀ {rs A : List RowV}, allX f rs = some A → ∀ x, x ∈ A ↔ ∃ r ∈ rs, ∃ M, f r = some M ∧ x ∈ M
  | [], A, h, x => by
    have : A = [] := (Option.some.inj h).symm
    subst this
    simp
  | s :: rs, A, h, x => by
    have e : allX f (s :: rs) = (f s).bind fun M => (allX f rs).map fun A => M ++ A := rfl
    rw [e] at h
    cases h1 : f s with
    | none => rw [h1] at h; cases h
    | some M =>
      rw [h1] at h
      cases h2 : allX f rs with
      | none => rw [h2] at h; cases h
      | some B =>
        rw [h2] at h
        have : A = M ++ B := (Option.some.inj h).symm
        subst this
        rw [List.mem_append, allX_mem h2 x]
        constructor
        · rintro (hx | ⟨r, hr, N, hN, hx⟩)
          · exact ⟨s, List.mem_cons_self .., M, h1, hx⟩
          · exact ⟨r, List.mem_cons_of_mem _ hr, N, hN, hx⟩
        · rintro ⟨r, hr, N, hN, hx⟩
          rcases List.mem_cons.1 hr with rfl | hr
          · rw [h1] at hN
            cases hN
            exact .inl hx
          · exact .inr ⟨r, hr, N, hN, hx⟩
theorem allX_some {f : RowV → Option (List RowV)} : ∀ {rs : List RowV}, (∀ r ∈ rs, (f r).isSome = true) → (allX f rs).isSome = true
  | [], _ => rfl
  | s :: rs, h => by
    have e : allX f (s :: rs) = (f s).bind fun M => (allX f rs).map fun A => M ++ A := rfl
    rw [e]
    have h1 := h s (List.mem_cons_self ..)
    have h2 := allX_some (f := f) (rs := rs) (fun r hr => h r (List.mem_cons_of_mem _ hr))
    cases hf : f s with
    | none => rw [hf] at h1; cases h1
    | some M =>
      cases ha : allX f rs with
      | none => rw [ha] at h2; cases h2
      | some B => rfl
theorem allX_len {f : RowV → Option (List RowV)} {m : Nat} (hf : ∀ r M, f r = some M → M.length ≤ m) : ∀ {rs A : List RowV}, allX f rs = some A → A.length ≤ rs.length * m
  | [], A, h => by
    have : A = [] := (Option.some.inj h).symm
    subst this
    simp
  | s :: rs, A, h => by
    have e : allX f (s :: rs) = (f s).bind fun M => (allX f rs).map fun A => M ++ A := rfl
    rw [e] at h
    cases h1 : f s with
    | none => rw [h1] at h; cases h
    | some M =>
      rw [h1] at h
      cases h2 : allX f rs with
      | none => rw [h2] at h; cases h
      | some B =>
        rw [h2] at h
        have : A = M ++ B := (Option.some.inj h).symm
        subst this
        have := hf s M h1
        have := allX_len hf h2
        rw [List.length_append, List.length_cons, Nat.add_mul]
        omega
/-- Both ways give the same rows of a right row. -/
theorem more_same {gs ls : List Tri3} (hg : graphOk gs = true) (hl : bgpOk ls = true) {r : RowV} (hr : rowOk r = true) : (moreS gs ls r).isSome = (moreC gs ls r).isSome ∧ ∀ S C, moreS gs ls r = some S → moreC gs ls r = some C → ∀ x, x ∈ S ↔ x ∈ C := by
  obtain ⟨_, h2, h3⟩ := graphOk_iff.1 hg
  have ha := asc_ok hr
  have hz : NoZs [r] := fun s hs t ht => by
    obtain rfl : s = r := by simpa using hs
    have hp := gUpto_mem (by unfold rowOk at hr; simp only [Bool.and_eq_true] at hr; exact hr.2) t ht
    unfold pairT isVarK isValK at hp
    simp only [Bool.and_eq_true, Bool.or_eq_true, decide_eq_true_eq] at hp
    exact ⟨no_zero (by omega), no_zero (by omega)⟩
  have h := solve_is h3.nodup (fun t ht => okT_noZ (h2 t ht)) ls [r] (fun p hp => patT_noZ ((bgpOk_iff.1 hl).2 p hp)) (Even.one r ha) hz
  have e : addAllR [] [r] = [r] := addR_more (rs := []) (k := 0) rfl (by simp)
  rw [e] at h
  unfold moreS moreC
  rw [h]
  cases hc : contM gs ls [r] with
  | none => exact ⟨rfl, fun S C h => by cases h⟩
  | some R =>
    have hn := (contM_even h3.nodup ls _ R (Even.one r ha) hc).1
    have hzR : NoZs R := by
      have key : ∀ (l : List Tri3) (rows : List RowV), (∀ p ∈ l, patT p = true) → NoZs rows → contM gs l rows = some R → NoZs R := by
        intro l
        induction l with
        | nil => intro rows _ hz e; unfold contM at e; cases e; exact hz
        | cons p l ih =>
          intro rows hl hz e
          unfold contM at e
          by_cases hc : (joinM gs p rows).length ≤ 300
          · rw [if_pos hc] at e
            exact ih _ (fun q hq => hl q (List.mem_cons_of_mem _ hq)) (hz.join (fun t ht => okT_noZ (h2 t ht)) (patT_noZ (hl p (List.mem_cons_self ..)))) e
          · rw [if_neg hc] at e; cases e
      exact key ls [r] (bgpOk_iff.1 hl).2 hz hc
    refine ⟨rfl, fun S C hS hC x => ?_⟩
    have hS' : S = orOne r (addAllR [] R) := (Option.some.inj hS).symm
    have hC' : C = orOne r R := (Option.some.inj hC).symm
    rw [hS', hC']
    unfold orOne
    rw [(addAllR_perm hn hzR).length_eq]
    by_cases h0 : R.length = 0
    · rw [if_pos h0, if_pos h0]
    · rw [if_neg h0, if_neg h0]
      exact addAllR_iff hn hzR x
theorem addR_atleast (rs : List RowV) (r : RowV) : rs.length ≤ (addR rs r).length := by
  unfold addR
  split
  · exact Nat.le_refl _
  · simp only [List.length_append, List.length_take, List.length_cons, List.length_nil, List.length_drop]
    omega
theorem addAllR_atleast : ∀ (l rs : List RowV), rs.length ≤ (addAllR rs l).length
  | [], _ => Nat.le_refl _
  | r :: l, rs => Nat.le_trans (addR_atleast rs r) (addAllR_atleast l (addR rs r))
theorem addAllR_app2 (rs l m : List RowV) : addAllR rs (l ++ m) = addAllR (addAllR rs l) m := by unfold addAllR; rw [List.foldl_append]
def finX (o : Option (List RowV)) : Bool := match o with
  | some A => A.all rowOk && decide ((addAllR [] A).length ≤ 300)
  | none => false
def extA (gs : List Tri3) (rs : List RowV) (ls : List Tri3) : Option (List RowV) := allX (moreS gs ls) rs
def extOk (gs : List Tri3) (rs : List RowV) (ls : List Tri3) : Bool := graphOk gs && (rowsOkL rs && (bgpOk ls && finX (extA gs rs ls)))
def extR (gs : List Tri3) (rs : List RowV) (ls : List Tri3) : List RowV := if extOk gs rs ls = true then addAllR [] ((extA gs rs ls).getD []) else []
theorem extR_no {gs ls : List Tri3} {rs : List RowV} (h : extOk gs rs ls = false) : extR gs rs ls = [] := by
  unfold extR
  rw [h]
  rfl
/-- Where the rows up to a place are known, the rest is behind them. -/
theorem allX_part {f : RowV → Option (List RowV)} {rs A : List RowV} {k : Nat} (h : allX f (rs.take k) = some A) {B : List RowV} (hB : allX f rs = some B) : ∃ C, B = A ++ C := by
  have key : ∀ (xs ys A B : List RowV), allX f xs = some A → allX f (xs ++ ys) = some B → ∃ C, B = A ++ C := by
    intro xs
    induction xs with
    | nil => intro ys A B h1 h2; exact ⟨B, by rw [(Option.some.inj h1).symm]; rfl⟩
    | cons s xs ih =>
      intro ys A B h1 h2
      have e1 : allX f (s :: xs) = (f s).bind fun M => (allX f xs).map fun A => M ++ A := rfl
      have e2 : allX f (s :: xs ++ ys) = (f s).bind fun M => (allX f (xs ++ ys)).map fun A => M ++ A := rfl
      rw [e1] at h1
      rw [e2] at h2
      cases hf : f s with
      | none => rw [hf] at h1; cases h1
      | some M =>
        rw [hf] at h1 h2
        cases ha : allX f xs with
        | none => rw [ha] at h1; cases h1
        | some A' =>
          cases hb : allX f (xs ++ ys) with
          | none => rw [hb] at h2; cases h2
          | some B' =>
            rw [ha] at h1
            rw [hb] at h2
            obtain ⟨C, hC⟩ := ih ys A' B' ha hb
            refine ⟨C, ?_⟩
            rw [← Option.some.inj h1, ← Option.some.inj h2, hC, List.append_assoc]
  refine key (rs.take k) (rs.drop k) A B h ?_
  rwa [List.take_append_drop]
theorem allX_step {f : RowV → Option (List RowV)} {rs A M : List RowV} {r : RowV} {k : Nat} (hr : rs[k]? = some r) (h : allX f (rs.take k) = some A) (hM : f r = some M) : allX f (rs.take (k + 1)) = some (A ++ M) := by
  obtain ⟨hk, rfl⟩ := List.getElem?_eq_some_iff.1 hr
  rw [List.take_succ_eq_append_getElem hk, allX_snoc, h]
  show (f rs[k]).map _ = _
  rw [hM]
  rfl
/-- A part that is wrong makes the whole wrong. -/
theorem finX_row {f : RowV → Option (List RowV)} {rs A : List RowV} {k : Nat} {m : RowV} (h : allX f (rs.take k) = some A) (hm : m ∈ A) (hr : rowOk m = false) : finX (allX f rs) = false := by
  cases hB : allX f rs with
  | none => rfl
  | some B =>
    obtain ⟨C, rfl⟩ := allX_part h hB
    unfold finX
    have : (A ++ C).all rowOk = false := by
      rw [List.all_eq_false]
      exact ⟨m, List.mem_append_left _ hm, by rw [hr]; simp⟩
    simp only [this, Bool.false_and]
theorem finX_long {f : RowV → Option (List RowV)} {rs A : List RowV} {k : Nat} (h : allX f (rs.take k) = some A) (hl : 300 < (addAllR [] A).length) : finX (allX f rs) = false := by
  cases hB : allX f rs with
  | none => rfl
  | some B =>
    obtain ⟨C, rfl⟩ := allX_part h hB
    unfold finX
    have h1 := addAllR_atleast C (addAllR [] A)
    rw [← addAllR_app2] at h1
    simp only [decide_eq_false (by omega : ¬ (addAllR [] (A ++ C)).length ≤ 300), Bool.and_false]
theorem row_good {r : RowV} (hr : rowOk r = true) (hs : SmP r) : GoodK 12 r := by
  have hp := gUpto_mem (by unfold rowOk at hr; simp only [Bool.and_eq_true] at hr; exact hr.2 : gUpto pairT lessP r r.length = true)
  refine ⟨asc_ok hr, fun u hu => ?_, fun u hu => ?_, rowOk_most hr, hs⟩
  · have := hp u hu
    unfold pairT isValK at this
    simp only [Bool.and_eq_true, Bool.or_eq_true, decide_eq_true_eq] at this
    refine ⟨this.1, ?_⟩
    unfold isVarK
    rw [decide_eq_false_iff_not]
    omega
  · have := hp u hu
    unfold pairT isValK at this
    simp only [Bool.and_eq_true, Bool.or_eq_true, decide_eq_true_eq] at this
    exact kind_full (by omega)
/-- The rows that one right row gives are short. -/
theorem more_small {gs ls : List Tri3} (hg : graphOk gs = true) (hl : bgpOk ls = true) (hga : SmT gs) (hgb : SmT ls) {r : RowV} (hr : rowOk r = true) (hs : SmP r) : ∀ M, moreC gs ls r = some M → M.length ≤ 301 ∧ ∀ m ∈ M, SmP m ∧ m.length ≤ 24 ∧ (∀ t ∈ m, NoZ t) := by
  intro M hM
  obtain ⟨_, h2, h3⟩ := graphOk_iff.1 hg
  have h12 := rowOk_most hr
  have hp := gUpto_mem (by unfold rowOk at hr; simp only [Bool.and_eq_true] at hr; exact hr.2 : gUpto pairT lessP r r.length = true)
  have hz : NoZs [r] := fun s hs t ht => by
    obtain rfl : s = r := by simpa using hs
    have hp := hp t ht
    unfold pairT isVarK isValK at hp
    simp only [Bool.and_eq_true, Bool.or_eq_true, decide_eq_true_eq] at hp
    exact ⟨no_zero (by omega), no_zero (by omega)⟩
  have hgood : GoodK 12 r := row_good hr hs
  unfold moreC at hM
  cases hc : contM gs ls [r] with
  | none => rw [hc] at hM; cases hM
  | some R =>
    rw [hc] at hM
    have hM' : M = orOne r R := (Option.some.inj hM).symm
    obtain ⟨k1, k2, k3⟩ := contM_rows hga h2 ls [r] 12 hgb (bgpOk_iff.1 hl).2 hz (by simp) (fun s hs => by
      obtain rfl : s = r := by simpa using hs
      exact hgood) R hc
    have hl4 := (bgpOk_iff.1 hl).1
    rw [hM']
    unfold orOne
    split
    · refine ⟨by simp, fun m hm => ?_⟩
      obtain rfl : m = r := by simpa using hm
      exact ⟨hs, by omega, hz m (by simp)⟩
    · refine ⟨by omega, fun m hm => ⟨(k3 m hm).2.2.2.2, by have := (k3 m hm).2.2.2.1; omega, k1 m hm⟩⟩
end Go.Proofs.YtiajdnhmjdfeeaaGreat
