/- Disks: files in order, what an op does to them, what a right disk is. Plain facts. -/
import Derived.Test.YtamnlifdfhmbnaaG07
import Derived.Test.YtamnlifdfhmbnaaG08
import Derived.Test.YtamnlifdfhmbnaaG10
import Derived.Test.YtamnlifdfhmbnaaG09
import Derived.Deep.RegionHeld3
namespace Go.Proofs.Ytamnlifdfhmbnaa
open Go.Maps
def nmOk (s : ByteArray) : Bool := decide (1 ≤ s.size) && decide (s.size ≤ 100)
def filT (t : Pre2) : Bool := nmOk t.1
def totF (ts : List Pre2) : Nat := (ts.map fun t => t.2.size).sum
def fitsF (ts : List Pre2) : Bool := decide (ts.length ≤ 60) && decide (totF ts ≤ 200000)
/-- Right files. -/
def filesOk (ts : List Pre2) : Bool := gUpto filT lessP ts ts.length && fitsF ts
abbrev nmP (t : Pre2) : Txt := t.1.data.toList
theorem lessP_is (t u : Pre2) : lessP t u = lessS (nmP t) (nmP u) := by unfold lessP lessS; rw [ByteArray.toList_eq, ByteArray.toList_eq]
def RisP (l : List Pre2) : Prop := l.Pairwise (fun a b => lessS (nmP a) (nmP b) = true)
theorem nmP_inj {a b : ByteArray} (h : a.data.toList = b.data.toList) : a = b := by
  obtain ⟨⟨a⟩⟩ := a
  obtain ⟨⟨b⟩⟩ := b
  simp only at h
  rw [h]
theorem risP_keys {l : List Pre2} : RisingS (l.map nmP) ↔ RisP l := by unfold RisingS RisP; rw [List.pairwise_map]
theorem gUpto_ris (ts : List Pre2) : ∀ k, k ≤ ts.length → (gUpto filT lessP ts k = true ↔ RisP (ts.take k) ∧ ∀ t ∈ ts.take k, nmOk t.1 = true)
  | 0, _ => by simp [gUpto, RisP]
  | k + 1, hk => by
    have ih := gUpto_ris ts k (by omega)
    have ht : ts[k]? = some (ts[k]'(by omega)) := List.getElem?_eq_getElem _
    have e : ts.take (k + 1) = ts.take k ++ [ts[k]'(by omega)] := List.take_succ_eq_append_getElem (by omega)
    rw [gUpto_succ, Bool.and_eq_true, ih, e]
    generalize ts[k]'(by omega) = t at ht e
    unfold RisP
    rw [List.pairwise_append]
    rcases k with _ | j
    · rw [gAt_zero ht]
      simp [filT]
    · have hu : ts[j]? = some (ts[j]'(by omega)) := List.getElem?_eq_getElem _
      have e2 : ts.take (j + 1) = ts.take j ++ [ts[j]'(by omega)] := List.take_succ_eq_append_getElem (by omega)
      rw [gAt_next (by omega) ht hu, Bool.and_eq_true, lessP_is]
      constructor
      · rintro ⟨⟨h1, h2⟩, h3, h4⟩
        refine ⟨⟨h1, List.pairwise_singleton _ _, fun a ha b hb => ?_⟩, fun x hx => ?_⟩
        · obtain rfl := List.mem_singleton.1 hb
          rw [e2] at ha h1
          rcases List.mem_append.1 ha with ha | ha
          · exact lessS_trans ((List.pairwise_append.1 h1).2.2 a ha _ (by simp)) h4
          · obtain rfl := List.mem_singleton.1 ha
            exact h4
        · rcases List.mem_append.1 hx with hx | hx
          · exact h2 x hx
          · obtain rfl := List.mem_singleton.1 hx
            exact h3
      · rintro ⟨⟨h1, _, h3⟩, h4⟩
        refine ⟨⟨h1, fun x hx => h4 x (List.mem_append_left _ hx)⟩, h4 t (by simp), h3 _ ?_ t (by simp)⟩
        rw [e2]; exact List.mem_append_right _ (List.mem_singleton.2 rfl)
theorem filesOk_iff {ts : List Pre2} : filesOk ts = true ↔ RisP ts ∧ (∀ t ∈ ts, nmOk t.1 = true) ∧ fitsF ts = true := by
  have := gUpto_ris ts ts.length (Nat.le_refl _)
  rw [List.take_of_length_le (Nat.le_refl _)] at this
  unfold filesOk
  rw [Bool.and_eq_true, this, and_assoc]
theorem fitsF_iff {ts : List Pre2} : fitsF ts = true ↔ ts.length ≤ 60 ∧ totF ts ≤ 200000 := by unfold fitsF; simp
/-- A file at its place, in the place of one of that name. -/
def putFo (x : Pre2) : Bool → List Pre2 → List Pre2
  | done, [] => if done then [] else [x]
  | done, r :: rs => (if !done && !lessP r x then [x] else []) ++ ((if r.1 = x.1 then [] else [r]) ++ putFo x (done || !lessP r x) rs)
def putF (ts : List Pre2) (x : Pre2) : List Pre2 := putFo x false ts
def cutF (ts : List Pre2) (s : ByteArray) : List Pre2 := ts.filter fun t => !decide (t.1 = s)
def atF : List Pre2 → ByteArray → Option ByteArray
  | [], _ => none
  | t :: r, s => if t.1 = s then some t.2 else atF r s
def dataAt (ts : List Pre2) (s : ByteArray) : ByteArray := (atF ts s).getD ByteArray.empty
theorem putFo_mem (x y : Pre2) : ∀ (ts : List Pre2) (d : Bool), y ∈ putFo x d ts ↔ (d = false ∧ y = x) ∨ (y ∈ ts ∧ y.1 ≠ x.1)
  | [], d => by cases d <;> simp [putFo]
  | r :: rs, d => by
    have h := putFo_mem x y rs (d || !lessP r x)
    unfold putFo
    rw [List.mem_append, List.mem_append, h]
    have hq : (y ∈ (if r.1 = x.1 then [] else [r]) ∨ (y ∈ rs ∧ y.1 ≠ x.1)) ↔ (y ∈ r :: rs ∧ y.1 ≠ x.1) := by
      by_cases e : r.1 = x.1
      · rw [if_pos e]
        constructor
        · rintro (h | ⟨h1, h2⟩)
          · simp at h
          · exact ⟨List.mem_cons_of_mem _ h1, h2⟩
        · rintro ⟨h1, h2⟩
          rcases List.mem_cons.1 h1 with rfl | h1
          · exact absurd e h2
          · exact .inr ⟨h1, h2⟩
      · rw [if_neg e, List.mem_singleton]
        constructor
        · rintro (rfl | ⟨h1, h2⟩)
          · exact ⟨List.mem_cons_self .., e⟩
          · exact ⟨List.mem_cons_of_mem _ h1, h2⟩
        · rintro ⟨h1, h2⟩
          rcases List.mem_cons.1 h1 with rfl | h1
          · exact .inl rfl
          · exact .inr ⟨h1, h2⟩
    rw [← hq]
    generalize (y ∈ (if r.1 = x.1 then [] else [r])) = R
    generalize (y ∈ rs ∧ y.1 ≠ x.1) = S
    cases d <;> cases g : lessP r x <;> simp [or_left_comm]
theorem putF_mem {ts : List Pre2} {x y : Pre2} : y ∈ putF ts x ↔ y = x ∨ (y ∈ ts ∧ y.1 ≠ x.1) := by unfold putF; rw [putFo_mem]; simp
theorem putFo_ris (x : Pre2) : ∀ (ts : List Pre2) (d : Bool), RisP ts → RisP (putFo x d ts)
  | [], d, _ => by cases d <;> simp [putFo, RisP]
  | r :: rs, d, h => by
    unfold RisP at h
    rw [List.pairwise_cons] at h
    obtain ⟨h1, h2⟩ := h
    have ih := putFo_ris x rs (d || !lessP r x) h2
    unfold putFo
    unfold RisP at ih ⊢
    rw [List.pairwise_append, List.pairwise_append]
    refine ⟨by split <;> simp, ⟨by split <;> simp, ih, fun a ha b hb => ?_⟩, fun a ha b hb => ?_⟩
    · split at ha
      · simp at ha
      · rename_i e
        obtain rfl := List.mem_singleton.1 ha
        rcases (putFo_mem x b rs _).1 hb with ⟨hd, rfl⟩ | ⟨hb, _⟩
        · rw [Bool.or_eq_false_iff, Bool.not_eq_false', lessP_is] at hd
          exact hd.2
        · exact h1 b hb
    · split at ha
      · rename_i e
        obtain rfl := List.mem_singleton.1 ha
        rw [Bool.and_eq_true, Bool.not_eq_true', Bool.not_eq_true', lessP_is] at e
        have hr : ∀ q : Pre2, q.1 ≠ a.1 → (q = r ∨ q ∈ rs) → lessS (nmP a) (nmP q) = true := by
          intro q hne hq
          have hle : lessS (nmP q) (nmP a) = false := by
            cases hz : lessS (nmP q) (nmP a)
            · rfl
            · rcases hq with rfl | hq
              · rw [e.2] at hz; cases hz
              · rw [lessS_trans (h1 q hq) hz] at e; cases e.2
          cases hz : lessS (nmP a) (nmP q)
          · exact absurd (nmP_inj (lessS_one hle hz)) hne
          · rfl
        rcases List.mem_append.1 hb with hb | hb
        · split at hb
          · simp at hb
          · rename_i hne
            obtain rfl := List.mem_singleton.1 hb
            exact hr b hne (.inl rfl)
        · rcases (putFo_mem a b rs _).1 hb with ⟨hd, _⟩ | ⟨hb, hne⟩
          · rw [lessP_is, e.2] at hd
            simp at hd
          · exact hr b hne (.inr hb)
      · simp at ha
theorem putF_ris {ts : List Pre2} (x : Pre2) (h : RisP ts) : RisP (putF ts x) := putFo_ris x ts false h
theorem cutF_mem {ts : List Pre2} {s : ByteArray} {y : Pre2} : y ∈ cutF ts s ↔ y ∈ ts ∧ y.1 ≠ s := by unfold cutF; rw [List.mem_filter]; simp
theorem cutF_ris {ts : List Pre2} (s : ByteArray) (h : RisP ts) : RisP (cutF ts s) := List.Pairwise.filter _ h
theorem RisP.one {ts : List Pre2} (h : RisP ts) {a b : Pre2} (ha : a ∈ ts) (hb : b ∈ ts) (e : a.1 = b.1) : a = b := by
  induction ts with
  | nil => simp at ha
  | cons r rs ih =>
    unfold RisP at h
    rw [List.pairwise_cons] at h
    have no : ∀ q ∈ rs, q.1 ≠ r.1 := by
      intro q hq e
      have := h.1 q hq
      unfold nmP at this
      rw [e, lessS_irrefl] at this
      cases this
    rcases List.mem_cons.1 ha with ea | ha' <;> rcases List.mem_cons.1 hb with eb | hb'
    · rw [ea, eb]
    · exact absurd (e.symm.trans (by rw [ea])) (no b hb')
    · exact absurd (e.trans (by rw [eb])) (no a ha')
    · exact ih h.2 ha' hb'
theorem atF_mem : ∀ {ts : List Pre2} {s d : ByteArray}, atF ts s = some d → (s, d) ∈ ts
  | [], _, _, h => by cases h
  | t :: r, s, d, h => by
    unfold atF at h
    split at h
    · rename_i e
      cases h
      rw [← e]; simp
    · exact List.mem_cons_of_mem _ (atF_mem h)
theorem atF_none : ∀ {ts : List Pre2} {s : ByteArray}, atF ts s = none ↔ ∀ t ∈ ts, t.1 ≠ s
  | [], s => by simp [atF]
  | t :: r, s => by
    unfold atF
    split
    · rename_i e
      constructor
      · intro h; cases h
      · intro h; exact absurd e (h t (by simp))
    · rename_i e
      rw [atF_none]
      constructor
      · intro h q hq
        rcases List.mem_cons.1 hq with rfl | hq
        · exact e
        · exact h q hq
      · intro h q hq
        exact h q (List.mem_cons_of_mem _ hq)
theorem atF_of {ts : List Pre2} (h : RisP ts) {t : Pre2} (ht : t ∈ ts) : atF ts t.1 = some t.2 := by
  rcases e : atF ts t.1 with _ | d
  · exact absurd rfl (atF_none.1 e t ht)
  · have := h.one (atF_mem e) ht rfl
    rw [← this]
/-- What an op does to files; false: it finds no file. -/
def doF (ts : List Pre2) (op : OpV) : List Pre2 × Bool :=
  if op.1 = 1 then (putF ts (op.2.1, dataAt ts op.2.1 ++ op.2.2.2), true)
  else match atF ts op.2.1 with
    | none => (ts, false)
    | some e => (if op.1 = 2 then putF (cutF ts op.2.1) (op.2.2.1, e) else cutF ts op.2.1, true)
/-- An op of its form. -/
def formOk (op : OpV) : Bool := (decide (1 ≤ op.1) && decide (op.1 ≤ 3)) && (nmOk op.2.1 && (if op.1 = 2 then nmOk op.2.2.1 && decide (op.2.2.2.size = 0) else decide (op.2.2.1.size = 0) && (decide (op.1 = 1) || decide (op.2.2.2.size = 0))))
theorem doF_ris {ts : List Pre2} (h : RisP ts) (op : OpV) : RisP (doF ts op).1 := by
  unfold doF
  split
  · exact putF_ris _ h
  · split
    · exact h
    · simp only
      split
      · exact putF_ris _ (cutF_ris _ h)
      · exact cutF_ris _ h
theorem formOk_name {op : OpV} (h : formOk op = true) : nmOk op.2.1 = true := by
  unfold formOk at h
  simp only [Bool.and_eq_true] at h
  exact h.2.1
theorem doF_names {ts : List Pre2} (h : ∀ t ∈ ts, nmOk t.1 = true) {op : OpV} (hf : formOk op = true) : ∀ t ∈ (doF ts op).1, nmOk t.1 = true := by
  have hn := formOk_name hf
  intro t ht
  unfold doF at ht
  split at ht
  · rcases putF_mem.1 ht with rfl | ⟨ht, _⟩
    · exact hn
    · exact h t ht
  · split at ht
    · exact h t ht
    · simp only at ht
      split at ht
      · rename_i e2
        rcases putF_mem.1 ht with rfl | ⟨ht, _⟩
        · unfold formOk at hf
          simp only [if_pos e2, Bool.and_eq_true] at hf
          exact hf.2.2.1
        · exact h t (cutF_mem.1 ht).1
      · exact h t (cutF_mem.1 ht).1
theorem filesOk_do {ts : List Pre2} (h : filesOk ts = true) {op : OpV} (hf : formOk op = true) : filesOk (doF ts op).1 = fitsF (doF ts op).1 := by
  obtain ⟨h1, h2, _⟩ := filesOk_iff.1 h
  rw [Bool.eq_iff_iff, filesOk_iff]
  exact ⟨fun h => h.2.2, fun h => ⟨doF_ris h1 op, doF_names h2 hf, h⟩⟩
/-- What all these ops do, one behind the other; none: one of them is refused. -/
def playF : List Pre2 → List OpV → Option (List Pre2)
  | P, [] => some P
  | P, o :: os => if formOk o && ((doF P o).2 && fitsF (doF P o).1) then playF (doF P o).1 os else none
theorem playF_snoc : ∀ (P : List Pre2) (os : List OpV) (o : OpV), playF P (os ++ [o]) = (playF P os).bind fun Q => playF Q [o]
  | P, [], o => rfl
  | P, q :: os, o => by
    rw [List.cons_append]
    simp only [playF]
    split
    · exact playF_snoc _ os o
    · rfl
theorem playF_one (P : List Pre2) (o : OpV) : playF P [o] = if formOk o && ((doF P o).2 && fitsF (doF P o).1) then some (doF P o).1 else none := rfl
theorem playF_none {P : List Pre2} {os : List OpV} {k : Nat} (h : playF P (os.take k) = none) : playF P os = none := by
  have : ∀ (P : List Pre2) (a b : List OpV), playF P a = none → playF P (a ++ b) = none := by
    intro P a
    induction a generalizing P with
    | nil => intro b h; simp [playF] at h
    | cons o os ih =>
      intro b h
      simp only [List.cons_append, playF] at h ⊢
      split at h
      · rename_i g
        rw [if_pos g]; exact ih _ b h
      · rename_i g
        rw [if_neg g]
  rw [← List.take_append_drop k os]
  exact this P _ _ h
theorem playF_ok : ∀ {P Q : List Pre2} {os : List OpV}, filesOk P = true → playF P os = some Q → filesOk Q = true
  | P, Q, [], h, e => by cases e; exact h
  | P, Q, o :: os, h, e => by
    simp only [playF] at e
    split at e
    · rename_i g
      rw [Bool.and_eq_true, Bool.and_eq_true] at g
      exact playF_ok (by rw [filesOk_do h g.1]; exact g.2.2) e
    · cases e
/-- A right disk. -/
def diskOk (l s : List Pre2) (o : List OpV) : Bool := filesOk s && (decide (o.length ≤ 200) && decide (playF s o = some l))
theorem diskOk_parts {l s : List Pre2} {o : List OpV} (h : diskOk l s o = true) : filesOk s = true ∧ o.length ≤ 200 ∧ playF s o = some l ∧ filesOk l = true := by
  unfold diskOk at h
  rw [Bool.and_eq_true, Bool.and_eq_true, decide_eq_true_eq, decide_eq_true_eq] at h
  exact ⟨h.1, h.2.1, h.2.2, playF_ok h.1 h.2.2⟩
end Go.Proofs.Ytamnlifdfhmbnaa
/- A map from texts to slices of triples, of the program's own: what it holds; a store and a look. -/
namespace Go.Proofs.Ytamnlifdfhmbnaa
open Go.Maps
/-- One more: the value at the text is told anew where the text is there. -/
def addD (kvs : List (Txt × Value)) (t : Txt) (v : Value) : List (Txt × Value) :=
  if t ∈ kvs.map Prod.fst then kvs.map (fun p => if p.1 = t then (t, v) else p) else kvs ++ [(t, v)]
theorem addD_keys (kvs : List (Txt × Value)) (t : Txt) (v : Value) : (addD kvs t v).map Prod.fst = addS (kvs.map Prod.fst) t := by
  unfold addD addS
  split
  · rw [List.map_map]
    apply List.map_congr_left
    intro p _
    by_cases e : p.1 = t
    · simp [e]
    · simp [e]
  · simp
theorem addD_mem {kvs : List (Txt × Value)} {t : Txt} {v : Value} {p : Txt × Value} (h : p ∈ addD kvs t v) : p = (t, v) ∨ (p.1 ≠ t ∧ p ∈ kvs) := by
  unfold addD at h
  split at h
  · obtain ⟨q, hq, rfl⟩ := List.mem_map.1 h
    by_cases e : q.1 = t
    · left; simp [e]
    · right; simp [e, hq]
  · rename_i hn
    rcases List.mem_append.1 h with h | h
    · right
      exact ⟨fun e => hn (List.mem_map.2 ⟨p, h, e⟩), h⟩
    · left; simpa using h
/-- A map's datum is just these texts, each with its value. -/
structure MapOfD (D : DataW Value) (kvs : List (Txt × Value)) : Prop where
  nodup : (kvs.map Prod.fst).Nodup
  has : ∀ kl, Maps.has D kl = true ↔ ∃ t ∈ kvs.map Prod.fst, kl = litS t
  size : Maps.size D = kvs.length
  val : ∀ p ∈ kvs, ∀ z, D.atKey (litS p.1) z = .held p.2
section
variable {D : DataW Value} {kvs : List (Txt × Value)}
theorem MapOfD.empty : MapOfD (.map [] : DataW Value) [] := ⟨List.nodup_nil, fun kl => by simp [has_eq], rfl, by simp⟩
theorem MapOfD.mem (h : MapOfD D kvs) (t : Txt) : Maps.has D (litS t) = decide (t ∈ kvs.map Prod.fst) := by
  rw [Bool.eq_iff_iff, h.has, decide_eq_true_eq]
  exact ⟨fun ⟨u, hu, e⟩ => by rw [litS_inj e]; exact hu, fun g => ⟨t, g, rfl⟩⟩
theorem MapOfD.put (h : MapOfD D kvs) (hT : Tidy D) (t : Txt) (v : Value) : MapOfD (D.put (litS t) (.held v)) (addD kvs t v) := by
  have hm := h.mem t
  have hkk := addD_keys kvs t v
  have hhas : ∀ kl, Maps.has (D.put (litS t) (.held v)) kl = true ↔ ∃ u ∈ (addD kvs t v).map Prod.fst, kl = litS u := by
    intro kl
    rw [hkk]
    by_cases e : kl = litS t
    · subst e
      exact ⟨fun _ => ⟨t, addS_mem.2 (.inr rfl), rfl⟩, fun _ => has_put_same hT.isMap (litS_key t) _⟩
    · rw [has_put_other e, h.has]
      exact ⟨fun ⟨u, hu, hk⟩ => ⟨u, addS_mem.2 (.inl hu), hk⟩, fun ⟨u, hu, hk⟩ => by
        rcases addS_mem.1 hu with hu | rfl
        · exact ⟨u, hu, hk⟩
        · exact absurd hk e⟩
  have hval : ∀ p ∈ addD kvs t v, ∀ z, (D.put (litS t) (.held v)).atKey (litS p.1) z = .held p.2 := by
    intro p hp z
    rcases addD_mem hp with rfl | ⟨hne, hp⟩
    · exact atKey_put_same hT.isMap (litS_key t) _ _
    · rw [atKey_put_other (fun e => hne (litS_inj e))]
      exact h.val p hp z
  refine ⟨?_, hhas, ?_, hval⟩
  · rw [hkk]
    unfold addS
    split
    · exact h.nodup
    · rename_i hn
      exact List.nodup_append.2 ⟨h.nodup, by simp, fun a ha b hb => by simp at hb; subst hb; exact fun e => hn (e ▸ ha)⟩
  · rw [size_put hT, hm]
    unfold addD
    by_cases g : t ∈ kvs.map Prod.fst
    · rw [if_pos g, List.length_map, h.size]; simp [g]
    · rw [if_neg g, List.length_append, h.size]; simp [g]
end
open Go.RowKit Go.Maps
/-- Each value told by itself. -/
def valD (v : Value) : Option (DataW Value × List MemPlace) := some (.held v, [])
/-- Block b is a map of at most n entries that has just these texts, each with its value. -/
def OwnMapD (w : World) (b n : Nat) (kvs : List (Txt × Value)) : Prop := ∃ D : DataW Value, w.ownsMap Try.prog 9 valD b n D ∧ MapOfD D kvs
theorem OwnMapD.lt {w : World} {b n : Nat} {kvs : List (Txt × Value)} (h : OwnMapD w b n kvs) : b < w.heap.size := by obtain ⟨D, h, _⟩ := h; exact h.lt
theorem OwnMapD.kept {w w' : World} {b n : Nat} {kvs : List (Txt × Value)} {row : Option Nat} (h : OwnMapD w b n kvs) (hg : w.grownBy w' row) (hne : some b ≠ row) : OwnMapD w' b n kvs := by
  obtain ⟨D, h, hD⟩ := h
  exact ⟨D, h.kept hg hne, hD⟩
theorem OwnMapD.next {w w' : World} {b n : Nat} {kvs : List (Txt × Value)} (h : OwnMapD w b n kvs) (hb : Below w.heap.size w w') : OwnMapD w' b n kvs := h.kept (grown_of_below hb) (by simp)
theorem OwnMapD.alloc {w : World} {b n : Nat} {kvs : List (Txt × Value)} (h : OwnMapD w b n kvs) (o : Obj) : OwnMapD (w.alloc o) b n kvs := h.kept (World.grownBy_alloc w o none) (by simp)
theorem OwnMapD.drew {w : World} {b n : Nat} {kvs : List (Txt × Value)} (h : OwnMapD w b n kvs) : OwnMapD w.drew b n kvs := h
theorem OwnMapD.nodup {w : World} {b n : Nat} {kvs : List (Txt × Value)} (h : OwnMapD w b n kvs) : (kvs.map Prod.fst).Nodup := by obtain ⟨D, _, h⟩ := h; exact h.nodup
theorem OwnMapD.made (w : World) : OwnMapD (w.alloc (.map #[] 0)) w.heap.size 0 [] := ⟨_, World.ownsMap_made _ _ _ _, MapOfD.empty⟩
theorem OwnMapD.mono {w : World} {b n n' : Nat} {kvs : List (Txt × Value)} (h : OwnMapD w b n kvs) (hn : n ≤ n') : OwnMapD w b n' kvs := by
  obtain ⟨D, h, hD⟩ := h
  exact ⟨D, h.mono hn, hD⟩
section
variable (w : World) {ops : Array Oper} {rest : List Oper} {o : Oper} {a : Act} {Q : Exit → Act → World → Prop}
end
theorem cell_mapD {w : World} {b : Nat} {es : Array MapEntry} {c : Nat} (hb : w.heap[b]? = some (.map es c)) {a : Addr} {v : Value} (h : w.cell? a = some v) : some a.block ≠ some b := by
  intro e
  simp only [Option.some.injEq] at e
  simp [World.cell?, e, hb] at h
theorem OwnMapD.isMap {w : World} {b n : Nat} {kvs : List (Txt × Value)} (h : OwnMapD w b n kvs) : ∃ es c, w.heap[b]? = some (.map es c) := by
  obtain ⟨D, ⟨es, c, hb, _⟩, _⟩ := h
  exact ⟨es, c, hb⟩
end Go.Proofs.Ytamnlifdfhmbnaa
/- A slice of texts: what its cells hold; one of the call's own; the exact laws' comparison, marks and second look. -/
namespace Go.Proofs.Ytamnlifdfhmbnaa
open Go.RowKit Go.WideShapes
/-- The slice is nil, or its cells hold the texts ts. -/
def IsStrs (w : World) (a : Option Addr) (len cap : Nat) (ts : List ByteArray) : Prop :=
  (a = none ∧ len = 0 ∧ cap = 0 ∧ ts = []) ∨
  ∃ x, a = some x ∧ len ≤ cap ∧ cap ≤ maxLen ∧ ts.length = len ∧ ∀ (i : Nat) (t : ByteArray), ts[i]? = some t → w.cell? (x.add i) = some (.string t)
theorem IsStrs.cells {w : World} {a : Option Addr} {len cap : Nat} {ts : List ByteArray} (h : IsStrs w a len cap ts) (h0 : 0 < len) : ∃ b off, a = some ⟨b, off, none⟩ ∧ b < w.heap.size ∧ len ≤ cap ∧ cap ≤ maxLen ∧ ts.length = len ∧
    ∀ (i : Nat) (t : ByteArray), ts[i]? = some t → w.cell? ⟨b, off + i, none⟩ = some (.string t) := by
  rcases h with ⟨_, rfl, _⟩ | ⟨x, rfl, h1, h2, h3, h4⟩
  · omega
  · obtain ⟨b, off, spot⟩ := x
    have ht : ts[0]? = some ts[0] := List.getElem?_eq_getElem (by omega)
    have hc := h4 0 _ ht
    obtain rfl : spot = none := by simpa [Addr.add] using World.cell?_spot hc
    refine ⟨b, off, rfl, by have := World.block_lt_of_cell? _ _ hc; simpa [Addr.add] using this, h1, h2, h3, fun i t hi => ?_⟩
    have c0 := h4 i t hi
    rw [add_plain] at c0
    exact c0
theorem IsStrs.len {w : World} {a : Option Addr} {len cap : Nat} {ts : List ByteArray} (h : IsStrs w a len cap ts) : ts.length = len := by
  rcases h with ⟨_, rfl, _, rfl⟩ | ⟨_, _, _, _, h, _⟩
  · rfl
  · exact h
theorem IsStrs.maxl {w : World} {a : Option Addr} {len cap : Nat} {ts : List ByteArray} (h : IsStrs w a len cap ts) : len ≤ 9223372036854775807 := by
  rcases h with ⟨_, rfl, _, _⟩ | ⟨_, _, h1, h2, _⟩
  · omega
  · unfold maxLen at h2; omega
theorem IsStrs.next {w w' : World} {a : Option Addr} {len cap : Nat} {ts : List ByteArray} (h : IsStrs w a len cap ts) (hb : Below w.heap.size w w') : IsStrs w' a len cap ts := by
  rcases h with h | ⟨x, rfl, h2, h3, h4, h5⟩
  · exact .inl h
  · exact .inr ⟨x, rfl, h2, h3, h4, fun i t hi => by
      have c0 := h5 i t hi
      rw [hb.cell (World.block_lt_of_cell? _ _ c0)]; exact c0⟩
abbrev strV (t : ByteArray) : Value := .string t
/-- The call owns a slice of these texts. -/
def OwnS (B : Nat) (w : World) (v : Value) (ts : List ByteArray) : Prop := w.ownsRow B 9 1 v ts.length (ts.map strV)
theorem infoStr : (Try.prog.info? 9).map (fun i => (i.zero, i.size, i.bytes)) = some (some (.string ⟨#[]⟩), 1, 16) := by kernel_rfl
theorem OwnS.is {B : Nat} {w : World} {v : Value} {ts : List ByteArray} (h : OwnS B w v ts) : ∃ a cap, v = .slice a ts.length cap ∧ IsStrs w a ts.length cap ts := by
  have h0 := h
  obtain ⟨_, hc⟩ := h
  rcases hc with ⟨rfl, hl⟩ | ⟨g, cap, cur, rfl, _, hb, h1, h2, _⟩
  · exact ⟨none, 0, by rw [hl], .inl ⟨rfl, hl, rfl, List.length_eq_zero_iff.1 hl⟩⟩
  · refine ⟨_, cap, rfl, .inr ⟨⟨g, 0, none⟩, rfl, h1, h2, rfl, fun i t hi => ?_⟩⟩
    have hl : i < ts.length := (List.getElem?_eq_some_iff.1 hi).1
    have k0 := h0.cellAt i (by omega)
    have e : (⟨g, 0, none⟩ : Addr).add i = ⟨g, i, none⟩ := by rw [add_plain, Nat.zero_add]
    rw [e, k0, List.getElem?_map, hi]; rfl
theorem OwnS.kept {B : Nat} {w w' : World} {v : Value} {ts : List ByteArray} (h : OwnS B w v ts) (hb : Below w.heap.size w w') : OwnS B w' v ts := World.ownsRow.kept h (grown_of_below hb) (by
  rcases hv : v.ownBlock with _ | i
  · exact .inl rfl
  · exact .inr (by simp))
theorem ownS_snoc {B : Nat} {w : World} {v : Value} {ts : List ByteArray} {t : ByteArray} (h : w.ownsRow B 9 1 v (ts.length + 1) (ts.map strV ++ [.string t])) : OwnS B w v (ts ++ [t]) := by
  unfold OwnS; simpa using h
theorem ownS_base {B C : Nat} {w : World} {v : Value} {ts : List ByteArray} (h : OwnS B w v ts) (hc : C ≤ B) : OwnS C w v ts := by
  obtain ⟨h1, h2⟩ := h
  refine ⟨h1, ?_⟩
  rcases h2 with h2 | ⟨g, cap, cur, e, hB, r⟩
  · exact .inl h2
  · exact .inr ⟨g, cap, cur, e, Nat.le_trans hc hB, r⟩
def marksS (k n : Nat) : List ByteArray := (List.range n).map fun i => mark (k + i)
theorem marksS_succ (k n : Nat) : marksS k (n + 1) = marksS k n ++ [mark (k + n)] := by unfold marksS; rw [List.range_succ, List.map_append]; rfl
theorem marksS_len (k n : Nat) : (marksS k n).length = n := by simp [marksS]
theorem marksS_at {k n i : Nat} (h : i < n) : (marksS k n)[i]? = some (mark (k + i)) := by unfold marksS; rw [List.getElem?_map, List.getElem?_range h]; rfl
theorem set1 {xs l : List Value} {k : Nat} (a : Value) (h : xs.take k = l) (hl : k < xs.length) : (xs.set k a).take (k + 1) = l ++ [a] := by
  subst h
  rw [List.take_succ_eq_append_getElem (by simpa using hl), List.take_set_of_le (Nat.le_refl _)]
  simp
theorem own_keep1 {B e g n c : Nat} {w w' : World} {xs : List Value} (h : w.ownsRow B e 1 (.slice (some ⟨g, 0, none⟩) n c) n xs) (hb : Below w.heap.size w w') : w'.ownsRow B e 1 (.slice (some ⟨g, 0, none⟩) n c) n xs := h.kept (grown_of_below hb) (.inr (by simp [Value.ownBlock]))
end Go.Proofs.Ytamnlifdfhmbnaa
