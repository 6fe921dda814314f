/- What the rows of right patterns have: plain facts. -/
import Derived.Test.YtmiiaebelncdhaaGreatG33
import Derived.Test.YtmiiaebelncdhaaGreatG26
import Derived.Test.YtmiiaebelncdhaaGreatG15
import Derived.Test.YtmiiaebelncdhaaGreatG22
import Derived.Test.YtmiiaebelncdhaaGreatG16
import Derived.Laws.StructEq
import Derived.Deep.QuietTactic
import Derived.BigQuiet
namespace Go.Proofs.YtmiiaebelncdhaaGreat
open Go.RowKit Go.WideShapes Go.Maps Go.Sort Go.Shelf
/-- A place of a pattern is that of a triple, by a row. -/
def PlaceM (h : RowV) (p t : ByteArray) : Prop := (isVarK p.data.toList = true ∧ (p, t) ∈ h) ∨ (isVarK p.data.toList = false ∧ p = t)
def TellsM (h : RowV) (p t : Tri3) : Prop := PlaceM h p.1 t.1 ∧ PlaceM h p.2.1 t.2.1 ∧ PlaceM h p.2.2 t.2.2
theorem PlaceM.up {h k : RowV} (hs : ∀ u ∈ h, u ∈ k) {p t : ByteArray} (e : PlaceM h p t) : PlaceM k p t := by
  rcases e with ⟨a, b⟩ | e
  · exact .inl ⟨a, hs _ b⟩
  · exact .inr e
theorem TellsM.up {h k : RowV} (hs : ∀ u ∈ h, u ∈ k) {p t : Tri3} (e : TellsM h p t) : TellsM k p t := ⟨e.1.up hs, e.2.1.up hs, e.2.2.up hs⟩
theorem matchM_tells {r h : RowV} {p t : Tri3} (e : matchM r p t = some h) : TellsM h p t := by
  obtain ⟨a, b, e1, e2, e3⟩ := matchM_parts e
  have k1 : PlaceM a p.1 t.1 := stepM_place e1
  have k2 : PlaceM b p.2.1 t.2.1 := stepM_place e2
  have k3 : PlaceM h p.2.2 t.2.2 := stepM_place e3
  exact ⟨(k1.up (stepM_sub e2)).up (stepM_sub e3), k2.up (stepM_sub e3), k3⟩
def names (r : RowV) : List Txt := r.map fun u => u.1.data.toList
theorem mem_names {r : RowV} {x : Txt} : x ∈ names r ↔ ∃ u ∈ r, u.1.data.toList = x := by
  unfold names
  rw [List.mem_map]
theorem stepM_names {r h : RowV} {p t : ByteArray} (e : stepM r p t = some h) (x : Txt) : x ∈ names h ↔ x ∈ names r ∨ (isVarK p.data.toList = true ∧ x = p.data.toList) := by
  rw [mem_names, mem_names]
  constructor
  · rintro ⟨u, hu, rfl⟩
    rcases stepM_mem e hu with h' | ⟨rfl, hv⟩
    · exact .inl ⟨u, h', rfl⟩
    · exact .inr ⟨hv, rfl⟩
  · rintro (⟨u, hu, rfl⟩ | ⟨hv, rfl⟩)
    · exact ⟨u, stepM_sub e u hu, rfl⟩
    · rcases stepM_place e with ⟨_, h'⟩ | ⟨h', _⟩
      · exact ⟨_, h', rfl⟩
      · rw [hv] at h'; cases h'
theorem mem_varsIn {l : List ByteArray} {x : Txt} : x ∈ varsIn l ↔ (∃ s ∈ l, s.data.toList = x) ∧ isVarK x = true := by
  unfold varsIn
  rw [List.mem_filter, List.mem_map]
theorem matchM_names {r h : RowV} {p t : Tri3} (e : matchM r p t = some h) (x : Txt) : x ∈ names h ↔ x ∈ names r ∨ x ∈ varsIn (wordsT p) := by
  obtain ⟨a, b, e1, e2, e3⟩ := matchM_parts e
  rw [stepM_names e3, stepM_names e2, stepM_names e1, mem_varsIn]
  unfold wordsT
  constructor
  · rintro (((h | ⟨h1, rfl⟩) | ⟨h1, rfl⟩) | ⟨h1, rfl⟩)
    · exact .inl h
    · exact .inr ⟨⟨p.1, by simp, rfl⟩, h1⟩
    · exact .inr ⟨⟨p.2.1, by simp, rfl⟩, h1⟩
    · exact .inr ⟨⟨p.2.2, by simp, rfl⟩, h1⟩
  · rintro (h | ⟨⟨s, hs, rfl⟩, h1⟩)
    · exact .inl (.inl (.inl h))
    · simp only [List.mem_cons, List.not_mem_nil, or_false] at hs
      rcases hs with rfl | rfl | rfl
      · exact .inl (.inl (.inr ⟨h1, rfl⟩))
      · exact .inl (.inr ⟨h1, rfl⟩)
      · exact .inr ⟨h1, rfl⟩
/-- What each row has, of the patterns that are done. -/
def RowOf (gs done : List Tri3) (r : RowV) : Prop := (∀ x, x ∈ names r ↔ x ∈ varWords done) ∧ (∀ u ∈ r, pairT u = true) ∧ Asc r ∧ ∀ p ∈ done, ∃ t ∈ gs, TellsM r p t
theorem val_of {l : List UInt8} (h : kindL l = 1 ∨ kindL l = 2 ∨ kindL l = 3) : isValK l = true := by
  unfold isValK
  simp only [Bool.or_eq_true, decide_eq_true_eq]
  omega
theorem RowOf.join {gs done : List Tri3} {p : Tri3} {rows : List RowV} (hok : ∀ t ∈ gs, okT t = true) (h : ∀ r ∈ rows, RowOf gs done r) : ∀ r ∈ joinM gs p rows, RowOf gs (done ++ [p]) r := by
  intro r hr
  obtain ⟨q, hq, t, ht, e⟩ := joinM_mem.1 hr
  obtain ⟨h1, h2, h3, h4⟩ := h q hq
  refine ⟨fun x => ?_, fun u hu => ?_, matchM_asc h3 e, fun p' hp' => ?_⟩
  · rw [matchM_names e, h1, varWords_snoc, List.mem_append]
  · rcases matchM_mem e hu with hu | ⟨hv, hu⟩
    · exact h2 u hu
    · obtain ⟨k1, k2, k3⟩ := okT_kinds (hok t ht)
      unfold pairT
      rw [hv, Bool.true_and]
      rcases hu with rfl | rfl | rfl
      · exact val_of (by dsimp only; omega)
      · exact val_of (by dsimp only; omega)
      · exact val_of (by dsimp only; omega)
  · rcases List.mem_append.1 hp' with hp' | hp'
    · obtain ⟨t', ht', k⟩ := h4 p' hp'
      exact ⟨t', ht', k.up (matchM_sub e)⟩
    · obtain rfl := List.mem_singleton.1 hp'
      exact ⟨t, ht, matchM_tells e⟩
theorem contM_of {gs : List Tri3} (hok : ∀ t ∈ gs, okT t = true) : ∀ (l done : List Tri3) (rows R : List RowV), (∀ r ∈ rows, RowOf gs done r) → contM gs l rows = some R → ∀ r ∈ R, RowOf gs (done ++ l) r
  | [], done, rows, R, h, e => by
    unfold contM at e
    cases e
    simpa using h
  | p :: l, done, rows, R, h, e => by
    unfold contM at e
    by_cases hc : (joinM gs p rows).length ≤ 300
    · rw [if_pos hc] at e
      have := contM_of hok l (done ++ [p]) _ R (RowOf.join hok h) e
      rw [List.append_assoc] at this
      exact this
    · rw [if_neg hc] at e
      cases e
theorem contM_even {gs : List Tri3} (hg : gs.Nodup) : ∀ (l : List Tri3) (rows R : List RowV), Even rows → contM gs l rows = some R → Even R
  | [], rows, R, h, e => by
    unfold contM at e
    cases e
    exact h
  | p :: l, rows, R, h, e => by
    unfold contM at e
    by_cases hc : (joinM gs p rows).length ≤ 300
    · rw [if_pos hc] at e
      exact contM_even hg l _ R (h.join hg) e
    · rw [if_neg hc] at e
      cases e
theorem RowOf.nil (gs : List Tri3) : RowOf gs [] [] := ⟨fun x => by simp [names, varWords], fun u hu => by simp at hu, goodR_nil.1, fun p hp => by simp at hp⟩
theorem names_rising {r : RowV} (ha : Asc r) : RisingS (names r) := by
  have := asc_iff.1 ha
  unfold AscP at this
  unfold RisingS names
  rw [List.pairwise_map]
  exact this
theorem names_len {r : RowV} {vs : List Txt} (ha : Asc r) (h : ∀ x, x ∈ names r ↔ x ∈ vs) : r.length ≤ vs.length := by
  have h1 := (names_rising ha).nodup
  have h2 := List.Nodup.length_le_of_subset h1 (fun x hx => (h x).1 hx)
  unfold names at h2
  rwa [List.length_map] at h2
theorem RowOf.ok {gs done : List Tri3} {r : RowV} (h : RowOf gs done r) (hd : done.length ≤ 4) : rowOk r = true := by
  unfold rowOk
  rw [Bool.and_eq_true, decide_eq_true_eq]
  have h1 := names_len h.2.2.1 h.1
  have h2 := varWords_len done
  exact ⟨by omega, upto_of_pairs h.2.1 h.2.2.1⟩
theorem RowOf.names_is {gs done : List Tri3} {r : RowV} (h : RowOf gs done r) (hd : bgpOk done = true) : names r = varsT done := by
  unfold varsT
  rw [if_pos hd]
  refine eq_of_risingS (names_rising h.2.2.1) (putAllS_rising List.Pairwise.nil) (fun x => ?_)
  rw [putAllS_mem, h.1]
  simp
theorem place_seen {r : RowV} (hv : ∀ u ∈ r, pairT u = true) (ha : Asc r) {p t : ByteArray} (h : PlaceM r p t) : seen r p = t := by
  rcases h with ⟨_, hm⟩ | ⟨hn, rfl⟩
  · obtain ⟨i, hi⟩ := List.mem_iff_getElem?.1 hm
    refine seen_at r p i (p, t) hi rfl (fun j u hj hu e => ?_)
    have := ha j i u (p, t) hj hu hi
    rw [lessP_is, e, ltb_irrefl] at this
    cases this
  · refine seen_no r p (fun u hu e => ?_)
    have := hv u hu
    unfold pairT at this
    rw [e, hn] at this
    cases this
def seenT (r : RowV) (p : Tri3) : Tri3 := (seen r p.1, seen r p.2.1, seen r p.2.2)
theorem RowOf.fills {gs done : List Tri3} {r : RowV} (h : RowOf gs done r) {p : Tri3} (hp : p ∈ done) : seenT r p ∈ gs := by
  obtain ⟨t, ht, k1, k2, k3⟩ := h.2.2.2 p hp
  have e : seenT r p = t := by
    unfold seenT
    rw [place_seen h.2.1 h.2.2.1 k1, place_seen h.2.1 h.2.2.1 k2, place_seen h.2.1 h.2.2.1 k3]
  rw [e]
  exact ht
/-- The rows that are told. -/
theorem solR_cases {gs ls : List Tri3} (h : solOk gs ls = true) : graphOk gs = true ∧ bgpOk ls = true ∧ ∃ R, contM gs ls [[]] = some R ∧ solR gs ls = addAllR [] R ∧ R.Nodup ∧ NoZs R := by
  have h0 := h
  unfold solOk at h
  simp only [Bool.and_eq_true] at h
  obtain ⟨⟨hg, hl⟩, hs⟩ := h
  rw [solve_cont hg hl] at hs
  cases hc : contM gs ls [[]] with
  | none => rw [hc] at hs; simp at hs
  | some R =>
    obtain ⟨_, h2, h3⟩ := graphOk_iff.1 hg
    refine ⟨hg, hl, R, rfl, ?_, (contM_even h3.nodup ls _ R (Even.one [] goodR_nil.1) hc).1, ?_⟩
    · unfold solR
      rw [if_pos (by rw [hg, hl]; rfl), solve_cont hg hl, hc]
      rfl
    · have := contM_of h2 ls [] [[]] R (fun r hr => by obtain rfl : r = [] := by simpa using hr
                                                       exact RowOf.nil gs) hc
      intro r hr u hu
      have hp := (this r hr).2.1 u hu
      unfold pairT isVarK isValK at hp
      simp only [Bool.and_eq_true, Bool.or_eq_true, decide_eq_true_eq] at hp
      exact ⟨no_zero (by omega), no_zero (by omega)⟩
theorem solR_none {gs ls : List Tri3} (h : solOk gs ls = false) : solR gs ls = [] := by
  unfold solR
  by_cases hb : (graphOk gs && bgpOk ls) = true
  · rw [if_pos hb]
    unfold solOk at h
    rw [hb, Bool.true_and] at h
    cases hs : solveM gs ls [[]] with
    | none => rfl
    | some R => rw [hs] at h; simp at h
  · rw [if_neg hb]
theorem solR_row {gs ls : List Tri3} (h : solOk gs ls = true) : ∀ r ∈ solR gs ls, RowOf gs ls r := by
  obtain ⟨hg, hl, R, hc, e, hn, hz⟩ := solR_cases h
  obtain ⟨_, h2, _⟩ := graphOk_iff.1 hg
  intro r hr
  rw [e] at hr
  have := contM_of h2 ls [] [[]] R (fun r hr => by obtain rfl : r = [] := by simpa using hr
                                                   exact RowOf.nil gs) hc r ((addAllR_iff hn hz r).1 hr)
  simpa using this
theorem solR_nodup {gs ls : List Tri3} (h : solOk gs ls = true) : (solR gs ls).Nodup := by
  obtain ⟨hg, hl, R, hc, e, hn, hz⟩ := solR_cases h
  rw [e]
  exact (addAllR_perm hn hz).nodup_iff.2 hn
theorem solR_len {gs ls : List Tri3} : (solR gs ls).length ≤ 300 := by
  cases h : solOk gs ls
  · unfold solR
    by_cases hb : (graphOk gs && bgpOk ls) = true
    · rw [if_pos hb]
      unfold solOk at h
      rw [hb, Bool.true_and] at h
      cases hs : solveM gs ls [[]] with
      | none => simp
      | some R => rw [hs] at h; simp at h
    · rw [if_neg hb]; simp
  · obtain ⟨hg, hl, R, hc, e, hn, hz⟩ := solR_cases h
    rw [e, (addAllR_perm hn hz).length_eq]
    revert hc
    have key : ∀ (l : List Tri3) (rows : List RowV), rows.length ≤ 300 → contM gs l rows = some R → R.length ≤ 300 := by
      intro l
      induction l with
      | nil => intro rows hr e; unfold contM at e; cases e; exact hr
      | cons p l ih =>
        intro rows hr e
        unfold contM at e
        by_cases hc : (joinM gs p rows).length ≤ 300
        · rw [if_pos hc] at e; exact ih _ hc e
        · rw [if_neg hc] at e; cases e
    exact key ls _ (by simp)
end Go.Proofs.YtmiiaebelncdhaaGreat
/- What is drawn to be solved and projected. -/
namespace Go.Proofs.YtmiiaebelncdhaaGreat
open Go.RowKit Go.WideShapes
theorem SmG.t {ts : List Tri3} (h : SmG ts) : SmT ts := fun t ht => by have := h.2 t ht; omega
theorem SmA.g {ps : List Tri3} (h : SmA ps) (hl : ps.length ≤ 3) : SmG ps := ⟨by omega, h⟩
/-- The rows that are told are of short texts. -/
theorem solR_small {gs ls : List Tri3} (hg : SmT gs) (hl : SmT ls) : ∀ r ∈ solR gs ls, SmP r := by
  cases h : solOk gs ls
  · intro r hr
    have := solR_none h
    rw [this] at hr
    simp at hr
  · obtain ⟨h1, h2, R, hc, e, hn, hz⟩ := solR_cases h
    obtain ⟨_, h3, _⟩ := graphOk_iff.1 h1
    have hk := (contM_rows hg h3 ls [[]] 12 hl (bgpOk_iff.1 h2).2 noZs_one (by simp) (fun r hr => by
      obtain rfl : r = [] := by simpa using hr
      exact goodK_nil) R hc).2.2
    intro r hr
    rw [e] at hr
    exact (hk r ((addAllR_iff hn hz r).1 hr)).2.2.2.2
theorem own_apartS {B g : Nat} {w w' : World} {v : Value} {ts : List ByteArray} (h : OwnS B w v ts) (hg : w.grownBy w' (some g)) (hB : g < B) : OwnS B w' v ts := by
  have hlt := fun j hj => (World.ownsRow.lt h j hj).1
  refine World.ownsRow.kept h hg ?_
  rcases hob : Value.ownBlock v with _ | j
  · exact .inl rfl
  · refine .inr fun e => ?_
    have := hlt j hob
    simp at e
    omega
set_option maxRecDepth 100000 in
set_option maxHeartbeats 1600000 in
theorem drawSolutions (w : World) (a : Option Addr) (len cap : Nat) (zs : List Int) (hrow : Frame.IsRow .u8 w a len cap zs) :
    Calls Tryz.prog 10 #[.slice a len cap] w fun e w' => ∃ (v u : Value) (gs ls : List Tri3), e = .returned (.tuple #[v, u]) ∧ GotG w' v gs ∧ GotG w' u ls ∧ (1 ≤ ls.length ∧ ls.length ≤ 3) ∧ w.grownBy w' none := by
  have HR := Lib.hid hrow
  clear hrow
  go_enter Tryz.func10, Tryz.ntmps10
  go_wp2_with fail
  refine (rdOpen _ _ _ _ _ HR.out).mono ?_
  rintro e w1 ⟨rfl, r1, g1⟩
  have l1 := r1.2.1
  go_wp2_with fail
  refine (rdGraph _ _ _ r1 9 (by omega)).mono ?_
  rintro e w2 ⟨v, ts, rfl, s2, o2, r2, g2⟩
  have G2 := grown_new g1 g2
  obtain ⟨x, c, rfl, _⟩ := o2.is s2.maxLen
  clear g1 g2 r1
  go_wp2_with fail
  refine (rdAsked _ w1.heap.size _ _ r2 _ ts o2 l1 s2).mono ?_
  rintro e w3 ⟨u, ps, rfl, hl, hs, o3, r3, g3⟩
  have G3 := grown_new G2 g3
  have O2 := Lib.hid (got_of (own_rd o2 g3 l1 (Nat.le_refl _)) s2)
  have O3 := Lib.hid (got_of o3 (hs.g hl.2))
  obtain ⟨y, d, rfl, _⟩ := o3.is (hs.g hl.2).maxLen
  clear g3 r2 r3 G2 o2 o3
  go_wp2_with fail
  go_ret2
  exact ⟨_, _, ts, ps, rfl, O2.out, O3.out, hl, G3⟩
set_option maxRecDepth 100000 in
set_option maxHeartbeats 3200000 in
theorem drawProjected (w : World) (a : Option Addr) (len cap : Nat) (zs : List Int) (hrow : Frame.IsRow .u8 w a len cap zs) :
    Calls Tryz.prog 28 #[.slice a len cap] w fun e w' => ∃ (x : Option Addr) (n c : Nat) (y : Option Addr) (m d : Nat) (rs : List RowV) (vs : List ByteArray), e = .returned (.tuple #[.slice x n c, .slice y m d]) ∧ IsRows w' x n c rs ∧ IsStrs w' y m d vs ∧ (rs.length ≤ 300 ∧ ∀ r ∈ rs, SmP r) ∧ (vs.length ≤ 3 ∧ ∀ t ∈ vs, t.size ≤ 6) ∧ w.grownBy w' none := by
  obtain ⟨i0, hi, hz0, hz1, hzB⟩ := info_parts infoStr
  have HR := Lib.hid hrow
  clear hrow
  go_enter Tryz.func28, Tryz.ntmps28
  go_wp2_with fail
  refine (rdOpen _ _ _ _ _ HR.out).mono ?_
  rintro e w1 ⟨rfl, r1, g1⟩
  have l1 := r1.2.1
  go_wp2_with fail
  refine (rdGraph _ _ _ r1 8 (by omega)).mono ?_
  rintro e w2 ⟨v, ts, rfl, s2, o2, r2, g2⟩
  have G2 := grown_new g1 g2
  have hz2 := g2.size
  obtain ⟨x, c, rfl, _⟩ := o2.is s2.maxLen
  clear g1 g2 r1
  go_wp2_with fail
  refine (rdAsked _ w1.heap.size _ _ r2 _ ts o2 l1 s2).mono ?_
  rintro e w3 ⟨u, ps, rfl, hl, hs, o3, r3, g3⟩
  have G3 := grown_new G2 g3
  have hz3 := g3.size
  have O2 := own_rd o2 g3 l1 (Nat.le_refl _)
  obtain ⟨x', c', e', i2⟩ := O2.is s2.maxLen
  cases e'
  obtain ⟨y, d, rfl, i3⟩ := o3.is (hs.g hl.2).maxLen
  have C := Lib.hid (fun W (h : Below w3.heap.size w3 W) => specSolutionsF x y _ c _ d ts ps W (i2.next h) (i3.next h) s2.t (hs.g hl.2).t)
  have HS : Hid ((solR ts ps).length ≤ 300 ∧ ∀ r ∈ solR ts ps, SmP r) := Lib.hid ⟨solR_len, solR_small s2.t (hs.g hl.2).t⟩
  have R3 := Lib.hid r3
  clear g3 r2 r3 G2 o2 o3 O2 i2 i3 hs s2 hl
  obtain ⟨n2, hn2⟩ : ∃ n, ts.length = n := ⟨_, rfl⟩
  obtain ⟨n3, hn3⟩ : ∃ n, ps.length = n := ⟨_, rfl⟩
  rw [hn2, hn3] at C
  rw [hn2, hn3]
  clear hn2 hn3
  go_wp2_with fail
  refine (C.out _ (by first | exact Below.refl _ _ | exact Below.drew (Below.refl _ _))).mono ?_
  rintro e w4 ⟨z, n, zc, rfl, o4, b4⟩
  generalize solR ts ps = rs at o4 HS
  generalize solOk ts ps = ok
  have b4' : Below w3.heap.size w3 w4 := by first | exact b4 | exact (Below.drew (Below.refl _ _)).trans b4
  have R4 := R3.out.grown (grown_of_below b4') (by simp)
  have G4 := G3.trans (grown_of_below b4')
  have hz4 := b4'.size
  have o4' : OwnF w3.heap.size w4 (.slice z n zc) rs := by first | exact o4 | exact o4
  have HG4 := Lib.hid G4
  clear b4 b4' C R3 G3 o4
  have R5 := R4.alloc (.cells #[] 9)
  have G5 := G4.trans (World.grownBy_alloc w4 (.cells #[] 9) none)
  have O5 : OwnS w4.heap.size (w4.alloc (.cells #[] 9)) (.slice (some ⟨w4.heap.size, 0, none⟩) 0 0) [] := World.ownsRow_lit (size := 1) (e := 9) w4 #[] 0 (Nat.le_refl _) (by decide) rfl
  have o5 := o4'.upto.kept (World.grownBy_alloc w4 (.cells #[] 9) none) (fun j hj => by cases hj)
  have HO5 := Lib.hid O5
  have Ho5 := Lib.hid o5
  have HB := Lib.hid (rdBelow _ _ _ R5 3 (by omega) (by omega))
  have HG5 := Lib.hid G5
  clear R4 R5 G4 G5 O5 o5 o4' HG4
  go_wp2_with fail
  refine HB.out.mono ?_
  rintro e w6 ⟨m, hm0, hm1, rfl, r6, g6⟩
  obtain ⟨m, rfl⟩ := Int.eq_ofNat_of_zero_le hm0
  have HO6 := Lib.hid (own_apartS HO5.out g6 (by omega))
  have Ho6 := Lib.hid (Ho5.out.kept g6 (fun j hj => by cases hj; exact .inl (by omega)))
  have hz6 := g6.size
  have hs6 : w4.heap.size ≤ w6.heap.size := by simp at hz6; omega
  have HG6 := Lib.hid (grown_new HG5.out g6)
  have HR6 := Lib.hid r6
  have hm2 : m ≤ 2 := by omega
  clear g6 r6 HB HO5 Ho5 HG5 hm0 hm1
  go_wp2_with fail
  go_loopw [8, 9] (fun v' i wr => ∃ (k : Nat) (v : Value) (vs : List ByteArray), k ≤ 3 ∧ i = .int .i64 k ∧ v = v' ∧ Hid (vs.length + k ≤ 2 ∧ ∀ t ∈ vs, t.size ≤ 6) ∧ Hid (OwnS w4.heap.size wr v vs) ∧ Hid (OwnFC w3.heap.size w4.heap.size wr (.slice z n zc) rs) ∧ Hid (Rd w.heap.size wr w.heap.size) ∧ w4.heap.size ≤ wr.heap.size ∧ Hid (w.grownBy wr none)) (fun _ i _ => (intOf i).toNat)
  case atStart => exact ⟨m, _, [], by omega, by go_num, rfl, Lib.hid ⟨by simp; omega, fun t ht => by simp at ht⟩, HO6, Ho6, HR6, hs6, HG6⟩
  case round =>
    obtain ⟨k, v, vs, hk, rfl, rfl, hsm, hown, hro, hrd, hsz, hg⟩ := hrel
    clear HO6 Ho6 HR6 HG6 hm2 hs6 hz6
    obtain ⟨L, hL⟩ : ∃ L, vs.length = L := ⟨_, rfl⟩
    obtain ⟨xa, xc, rfl, _⟩ := hown.out.is
    have HOW : Hid (wr.ownsRow w4.heap.size 9 1 (.slice xa L xc) L (vs.map strV)) := Lib.hid (by have h1 := hown.out; unfold OwnS at h1; rw [hL] at h1; exact h1)
    rw [hL]
    have HL := Lib.hid hL
    have hL3 : L + k ≤ 2 := by have := hsm.out.1; omega
    clear hL hown
    have hlt := fun q hq => (World.ownsRow.lt HOW.out q hq).1
    by_cases hk0 : 0 < k
    · have hk1 : (0 : Int) < (k : Int) := by omega
      have HV := Lib.hid (rdVariable _ _ wr hrd.out)
      go_wp2_with fail
      refine HV.out.mono ?_
      rintro e w7 ⟨s, z1, z2, rfl, r7, g7⟩
      have G7 := grown_new hg.out g7
      have O7 : w7.ownsRow w4.heap.size 9 1 (.slice xa L xc) L (vs.map strV) := World.ownsRow.kept HOW.out g7 (by
        rcases hv : (Value.slice xa L xc).ownBlock with _ | q
        · exact .inl rfl
        · refine .inr (fun e => ?_)
          have := hlt q hv
          cases e
          omega)
      have F7 := hro.out.kept g7 (fun j hj => by cases hj; exact .inl (by omega))
      have OA := Lib.hid (World.ownsRow.alloc O7 (.cells #[.string s] 9))
      have RA := Lib.hid (r7.alloc (.cells #[.string s] 9))
      have FA := Lib.hid (F7.kept (World.grownBy_alloc w7 (.cells #[.string s] 9) none) (fun j hj => by cases hj))
      have GA := G7.trans (World.grownBy_alloc w7 (.cells #[.string s] 9) none)
      have hz7 : w4.heap.size ≤ w7.heap.size := Nat.le_trans hsz g7.size
      have HH := Lib.hid (one_cell (w := w7) (u := .string s) (e := 9))
      clear hg g7 r7 hro hrd HV O7 F7 G7 HOW
      go_wp2_with (at_builtin; refine wpList_append_own _ rfl _ _ 30 rfl w4.heap.size 9 i0 (.string ⟨#[]⟩) 1 16 Tryz.underlying30 hi hz0 hz1 hzB rfl (by decide) _ _ _ rfl OA.out ⟨w7.heap.size, 0, none⟩ 1 _ [.string s] rfl rfl HH.out (by intro z hz; simp at hz; subst hz; rfl) ?h63 ?h48 ?hbs ?_)
      case h63 => unfold maxLen; omega
      case h48 => omega
      case hbs => simp only [World.size_alloc]; omega
      intro v5 w5 hown5 hg5 _
      have O5 : Hid (OwnS w4.heap.size w5 v5 (vs ++ [s])) := Lib.hid (ownS_snoc (t := s) (by rw [HL.out]; exact hown5))
      have R5 := Lib.hid (RA.out.grown hg5 (fun q e => by have := hlt q e; omega))
      have F5 := Lib.hid (FA.out.kept hg5 (fun q e => .inr (hlt q e)))
      have hz5 : w4.heap.size ≤ w5.heap.size := by have := hg5.size; simp at this; omega
      have G5 := Lib.hid (grown_off GA hg5 (fun q e => by have := hlt q e; omega))
      clear hown5 hg5 OA RA HH GA FA
      go_wp2_with fail
      go_roundw
      case rel => exact ⟨k - 1, v5, vs ++ [s], by omega, by rw [show ((k - 1 : Nat) : Int) = (k : Int) - 1 from by omega], rfl, Lib.hid ⟨by simp [HL.out]; omega, fun t ht => by
        rcases List.mem_append.1 ht with h | h
        · exact hsm.out.2 t h
        · obtain rfl := List.mem_singleton.1 h
          exact z2⟩, O5, F5, R5, hz5, G5⟩
      case measure => simp [intOf]; omega
    · obtain rfl : k = 0 := by omega
      have HO := Lib.hid (rdOnce _ _ wr hrd.out 20 (by omega) (by omega))
      have HOS : Hid (OwnS w4.heap.size wr (.slice xa L xc) vs) := Lib.hid (by unfold OwnS; rw [HL.out]; exact HOW.out)
      go_wp2_with fail
      refine HO.out.mono ?_
      rintro e w7 ⟨b, rfl, r7, g7⟩
      have G7 := grown_new hg.out g7
      have S7 := own_apartS HOS.out g7 (by omega)
      have F7 := hro.out.kept g7 (fun j hj => by cases hj; exact .inl (by omega))
      have hz7 : w4.heap.size ≤ w7.heap.size := Nat.le_trans hsz g7.size
      clear hg g7 r7 hro hrd HO HOS HOW
      have HS7 := Lib.hid S7
      have HF7 := Lib.hid F7
      cases b
      · clear S7 F7
        go_wp2_with fail
        go_ret2
        obtain ⟨ya, yc, e9, i9⟩ := HS7.out.is
        rw [HL.out] at e9 i9
        cases e9
        exact ⟨z, n, zc, _, _, _, rs, vs, rfl, HF7.out.f.isN, i9, HS.out, ⟨by rw [HL.out]; omega, hsm.out.2⟩, G7⟩
      · unfold OwnS at S7
        rw [HL.out] at S7
        have OA := Lib.hid (World.ownsRow.alloc S7 (.cells #[.string ⟨#[120]⟩] 9))
        have FA := Lib.hid (F7.kept (World.grownBy_alloc w7 (.cells #[.string ⟨#[120]⟩] 9) none) (fun j hj => by cases hj))
        have GA := G7.trans (World.grownBy_alloc w7 (.cells #[.string ⟨#[120]⟩] 9) none)
        have HH := Lib.hid (one_cell (w := w7) (u := .string ⟨#[120]⟩) (e := 9))
        clear S7 F7 HS7 HF7 G7
        go_wp2_with (at_builtin; refine wpList_append_own _ rfl _ _ 30 rfl w4.heap.size 9 i0 (.string ⟨#[]⟩) 1 16 Tryz.underlying30 hi hz0 hz1 hzB rfl (by decide) _ _ _ rfl OA.out ⟨w7.heap.size, 0, none⟩ 1 _ [.string ⟨#[120]⟩] rfl rfl HH.out (by intro z hz; simp at hz; subst hz; rfl) ?h63 ?h48 ?hbs ?_)
        case h63 => unfold maxLen; omega
        case h48 => omega
        case hbs => simp only [World.size_alloc]; omega
        intro v5 w5 hown5 hg5 _
        have O5 : Hid (OwnS w4.heap.size w5 v5 (vs ++ [⟨#[120]⟩])) := Lib.hid (ownS_snoc (t := ⟨#[120]⟩) (by rw [HL.out]; exact hown5))
        have F5 := Lib.hid (FA.out.kept hg5 (fun q e => .inr (hlt q e)))
        have G5 := Lib.hid (grown_off GA hg5 (fun q e => by have := hlt q e; omega))
        clear hown5 hg5 OA HH GA FA
        obtain ⟨ya, yc, rfl, i9⟩ := O5.out.is
        have I9 := Lib.hid i9
        clear i9
        go_wp2_with fail
        go_ret2
        exact ⟨z, n, zc, ya, _, yc, rs, _, rfl, F5.out.f.isN, I9.out, HS.out, ⟨by simp [HL.out]; omega, fun t ht => by
          rcases List.mem_append.1 ht with h | h
          · exact hsm.out.2 t h
          · obtain rfl := List.mem_singleton.1 h
            decide⟩, G5.out⟩
end Go.Proofs.YtmiiaebelncdhaaGreat
/- '!=' on pairs; the laws' way to hold two rows against each other. -/
namespace Go.Proofs.YtmiiaebelncdhaaGreat
open Go.RowKit Go.WideShapes
theorem pr_under : Tryz.prog.underlying 39 = some (.struct (Tryz.prog.fieldsOf 39)) := by kernel_rfl
theorem pr_stood : Tryz.prog.stoodInHeld 39 = false := by kernel_rfl
theorem pr_list : ((Tryz.prog.fieldsOf 39).toList.map fun f => (f.name, f.type, f.offset)) = [("Var", 9, 0), ("Term", 9, 1)] := by kernel_rfl
theorem prt0 (a b : ByteArray) (w : World) : (part 9 #[.string a, .string b] 0).run Tryz.prog w = .ok (.string a) w := by kernel_rfl
theorem prt1 (a b : ByteArray) (w : World) : (part 9 #[.string a, .string b] 1).run Tryz.prog w = .ok (.string b) w := by kernel_rfl
theorem pst_eq (a b : ByteArray) (w : World) : (Op.equalIn 9999 9 (.string a) (.string b)).run Tryz.prog w = .ok (a.toList == b.toList) w := run_equalIn_string w 9998 9 a b Tryz.underlying9
theorem pr_eq (s p s' p' : ByteArray) (w : World) : (Op.equalIn 10000 39 (.agg #[.string s, .string p]) (.agg #[.string s', .string p'])).run Tryz.prog w =
    .ok (s.toList == s'.toList && p.toList == p'.toList) w := by
  rw [run_equalIn_agg w 9999 39 _ _ pr_under pr_stood]
  have h := pr_list
  generalize (Tryz.prog.fieldsOf 39).toList = fs at h ⊢
  rcases fs with _ | ⟨f0, _ | ⟨f1, _ | ⟨f2, r⟩⟩⟩
  · simp at h
  · simp at h
  · simp only [List.map_cons, List.map_nil, List.cons.injEq, Prod.mk.injEq, and_true] at h
    obtain ⟨⟨n0, t0, o0⟩, ⟨n1, t1, o1⟩⟩ := h
    simp only [Op.eqFields, n0, n1, t0, t1, o0, o1]
    cases h1 : (s.toList == s'.toList) <;> cases h2 : (p.toList == p'.toList) <;> simp [prt0, prt1, pst_eq, h1, h2]
  · simp at h
theorem pr_ne (s p s' p' : ByteArray) (w : World) : (binOp .neq 39 (.agg #[.string s, .string p]) (.agg #[.string s', .string p'])).run Tryz.prog w =
    .ok (.bool !(s.toList == s'.toList && p.toList == p'.toList)) w := by
  rw [run_neq_struct, pr_eq]; rfl
theorem pr_same (s p : ByteArray) (w : World) : (binOp .neq 39 (.agg #[.string s, .string p]) (.agg #[.string s, .string p])).run Tryz.prog w = .ok (.bool false) w := by
  rw [pr_ne]; simp
set_option maxRecDepth 100000 in
set_option maxHeartbeats 1600000 in
theorem lawSameRow (a b : Option Addr) (la ca lb cb : Nat) (ts : List Pre2) (w : World) (h : IsPres w a la ca ts) (k : IsPres w b lb cb ts) (hl : la ≤ 1048576) :
    Calls Tryz.prog 23 #[.slice a la ca, .slice b lb cb] w fun e w' => e = .returned (.bool true) ∧ Below w.heap.size w w' := by
  have hlb : lb = la := by rw [← h.len, ← k.len]
  subst hlb
  have H := Lib.hid h
  have K := Lib.hid k
  clear h k
  go_enter Tryz.func23, Tryz.ntmps23
  go_wp2_with fail
  go_loopw [5] (fun i wr => ∃ j : Nat, j ≤ lb ∧ i = .int .i64 j ∧ Below w.heap.size w wr) (fun i _ => lb - (intOf i).toNat)
  case atStart => exact ⟨0, Nat.zero_le _, rfl, Below.refl _ _⟩
  case round =>
    obtain ⟨j, hj, rfl, hnx⟩ := hrel
    have hj6 : (0 : Int) ≤ (j : Int) := by omega
    by_cases hlt : j < lb
    · have hj7 : (j : Int) < (lb : Int) := by omega
      obtain ⟨b1, off, rfl, hb, hl1, hm1, hts, hcs⟩ := H.out.cells (by omega)
      obtain ⟨b2, off2, rfl, hb2, hl2, hm2, hts2, hcs2⟩ := K.out.cells (by omega)
      have ht : ts[j]? = some (ts[j]'(by omega)) := List.getElem?_eq_getElem (by omega)
      obtain ⟨c0, c1, m0, m1⟩ := hcs j _ ht
      obtain ⟨d0, d1, n0, n1⟩ := hcs2 j _ ht
      rw [← hnx.cell (p := ⟨b1, _, none⟩) hb] at c0 c1
      rw [← hnx.cell (p := ⟨b2, _, none⟩) hb2] at d0 d1
      generalize ts[j]'(by omega) = t at ht c0 c1 d0 d1 m0 m1 n0 n1
      have HB : Hid (∀ n, Below w.heap.size w (wr.drewN n)) := Lib.hid (fun n => below_drewN hnx n)
      have EQ := pr_same t.1 t.2
      clear ht hts hts2 hcs hcs2 hm1 hm2 m0 m1 n0 n1 hl1 hl2 hnx
      go_wp2_with fail
      go_quiet (fail)
      clear EQ
      go_wp2_with fail
      go_roundw
      case rel => exact ⟨j + 1, by omega, by go_num, HB.out _⟩
      case measure => simp [intOf]; omega
    · obtain rfl : j = lb := by omega
      go_wp2_with fail
      go_ret
      exact ⟨rfl, hnx⟩
end Go.Proofs.YtmiiaebelncdhaaGreat
