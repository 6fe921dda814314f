/- The laws' own way to hold datasets against each other; the functions of datasets at drawn arguments. -/
import Derived.Test.YthnpchcfjkepaaaG22
import Derived.Test.YthnpchcfjkepaaaG26
namespace Go.Proofs.Ythnpchcfjkepaaa
open Go.RowKit Go.WideShapes
def GotResN (r : Option (List NamV)) (w : World) (e : Ending) (w' : World) : Prop := ∃ z, e = .returned (.tuple #[z, .bool r.isSome]) ∧ GotN w' z (r.getD []) ∧ Below w.heap.size w w'
theorem gotResN {r : Option (List NamV)} {w w' : World} {e : Ending} (hs : SmD (r.getD [])) (h : ResN r w e w') : GotResN r w e w' := by
  obtain ⟨v, he, ho, hb⟩ := h
  exact ⟨v, he, ho.rd.got hs, hb⟩
theorem SmD.without_ {ts : List NamV} (h : SmD ts) {s : ByteArray} {t : Tri3} (hs : s.size ≤ 20) : SmD ((dataWithout ts s t).getD []) := by
  unfold dataWithout
  split
  · rename_i hp
    have hw := (h.at s).less (t := t)
    cases hg : withoutT (graphAt ts s) t with
    | none => exact SmD.nil
    | some g =>
      rw [hg] at hw
      have h6 : ts.length ≤ 6 := by unfold dataOk at hp; rw [Bool.and_eq_true, decide_eq_true_eq] at hp; exact hp.1
      have h1 := putGo_len (s, g) ts (decide ((s, g).2.length = 0))
      exact h.put hs hw (by unfold putNam; refine Nat.le_trans h1 ?_; split <;> omega)
  · exact SmD.nil
theorem specDataWithN {v : Value} {ts : List NamV} {w : World} (h : GotN w v ts) {q s p o : ByteArray} (hq : q.size ≤ 20) (hs : s.size ≤ 20) (hp : p.size ≤ 20) (ho : o.size ≤ 20) : Calls Try.prog 93 #[v, .string q, .agg #[.string s, .string p, .string o]] w (GotResN (dataWith ts q (s, p, o)) w) := by
  obtain ⟨hd, a, c, rfl, i⟩ := h
  exact (specDataWith a _ c ts q s p o w i hd.smN (by omega) (by omega) (by have := hd.tot; omega)).mono fun e w' g => gotResN (hd.with_ hq ⟨hs, hp, ho⟩).1 g
/-- A graph that lies anywhere. -/
def GotT (w : World) (v : Value) (ts : List Tri3) : Prop := ∃ x cap, v = .slice x ts.length cap ∧ IsTris w x ts.length cap ts ∧ SmG ts
theorem GotT.next {w w' : World} {v : Value} {ts : List Tri3} (h : GotT w v ts) (hb : Below w.heap.size w w') : GotT w' v ts := by
  obtain ⟨x, cap, hv, hi, hs⟩ := h
  exact ⟨x, cap, hv, hi.next hb, hs⟩
theorem sameT {v u : Value} {ts us : List Tri3} {w : World} (h : GotT w v ts) (k : GotT w u us) : Calls Try.prog 11 #[v, u] w fun e w' => e = .returned (.bool (decide (ts = us))) ∧ Below w.heap.size w w' := by
  obtain ⟨x, c, rfl, hi, hs⟩ := h
  obtain ⟨y, d, rfl, ki, ks⟩ := k
  have := hs.1
  have := ks.1
  exact lawSame x y _ c _ d ts us w hi ki (by omega) (by omega)
theorem withinT {v u : Value} {ts us : List Tri3} {w : World} (h : GotT w v ts) (k : GotT w u us) : Calls Try.prog 12 #[v, u] w fun e w' => e = .returned (.bool (inAll ts us)) ∧ Below w.heap.size w w' := by
  obtain ⟨x, c, rfl, hi, hs⟩ := h
  obtain ⟨y, d, rfl, ki, ks⟩ := k
  have := hs.1
  have := ks.1
  exact lawWithin x y _ c _ d ts us w hi ki (by omega) (by omega)
theorem hasT {v : Value} {ts : List Tri3} {w : World} (h : GotT w v ts) (s p o : ByteArray) : Calls Try.prog 13 #[v, .agg #[.string s, .string p, .string o]] w fun e w' => e = .returned (.bool (decide ((s, p, o) ∈ ts))) ∧ Below w.heap.size w w' := by
  obtain ⟨x, c, rfl, hi, hs⟩ := h
  have := hs.1
  exact lawHas x _ c ts s p o w hi (by omega)
theorem graphOkT {v : Value} {ts : List Tri3} {w : World} (h : GotT w v ts) : Calls Try.prog 14 #[v] w fun e w' => e = .returned (.bool (graphOk ts)) ∧ Below w.heap.size w w' := by
  obtain ⟨x, c, rfl, hi, hs⟩ := h
  exact implGraphOk x _ c ts w hi hs.sm
theorem dataOkN {v : Value} {ts : List NamV} {w : World} (h : GotN w v ts) : Calls Try.prog 28 #[v] w fun e w' => e = .returned (.bool (dataOk ts)) ∧ Below w.heap.size w w' := by
  obtain ⟨hd, a, c, rfl, i⟩ := h
  exact implDataOk a _ c ts w i hd.smN
theorem specOkN {v : Value} {ts : List NamV} {w : World} (h : GotN w v ts) : Calls Try.prog 32 #[v] w fun e w' => e = .returned (.bool (dataOk ts)) ∧ Below w.heap.size w w' := by
  obtain ⟨hd, a, c, rfl, i⟩ := h
  exact specDataOk a _ c ts w i hd.smN
end Go.Proofs.Ythnpchcfjkepaaa
/- Plain facts of datasets: put in twice, taken out and put in again, what all graphs have. -/
namespace Go.Proofs.Ythnpchcfjkepaaa
open Go.RowKit Go.WideShapes
theorem nodup_sub_len {α : Type} [DecidableEq α] : ∀ {a b : List α}, a.Nodup → (∀ x ∈ a, x ∈ b) → a.length ≤ b.length
  | [], _, _, _ => Nat.zero_le _
  | x :: a, b, hn, hs => by
    obtain ⟨h1, h2⟩ := List.nodup_cons.1 hn
    have hx : x ∈ b := hs x (by simp)
    have hl := nodup_sub_len (b := b.erase x) h2 (fun y hy => (List.mem_erase_of_ne (a := y) (b := x) (fun e : y = x => h1 (by rw [← e]; exact hy))).2 (hs y (by simp [hy])))
    rw [List.length_erase_of_mem hx] at hl
    have := List.length_pos_of_mem hx
    rw [List.length_cons]; omega
theorem RisN.nodup {l : List NamV} (h : RisN l) : l.Nodup := List.Pairwise.imp (fun {a b : NamV} (h : lessS (nmT a) (nmT b) = true) (e : a = b) => lessS_ne h (by rw [e])) h
theorem eq_of_risN {a b : List NamV} (ha : RisN a) (hb : RisN b) (hm : ∀ r, r ∈ a ↔ r ∈ b) : a = b :=
  List.Perm.eq_of_pairwise (le := fun x y => lessS (nmT x) (nmT y) = true) (fun x y _ _ h1 h2 => by rw [lessS_asymm h1] at h2; cases h2) ha hb ((List.perm_ext_iff_of_nodup ha.nodup hb.nodup).2 hm)
theorem graphAt_of {P : List NamV} (hP : RisN P) {r : NamV} (hr : r ∈ P) : graphAt P r.1 = r.2 := graphAt_nodup P (risN_iff.2 hP).nodup r hr
theorem graphAt_is {P : List NamV} (hP : RisN P) {s : ByteArray} (h : graphAt P s ≠ []) : (s, graphAt P s) ∈ P := by
  rcases graphAt_or P s with e | ⟨t, ht, rfl⟩
  · exact absurd e h
  · rw [graphAt_of hP ht]; exact ht
theorem risN_same {P : List NamV} (hP : RisN P) {r q : NamV} (hr : r ∈ P) (hq : q ∈ P) (e : r.1 = q.1) : r = q := by
  have h1 := graphAt_of hP hr
  rw [e, graphAt_of hP hq] at h1
  exact Prod.ext e h1.symm
theorem graphAt_put {ts : List NamV} {s : ByteArray} {g : List Tri3} (h : dataOk ts = true) : graphAt (putNam ts (s, g)) s = g := by
  have hR := putNam_ris (s, g) h
  by_cases hg : g.length = 0
  · rw [List.length_eq_zero_iff.1 hg]
    refine graphAt_none _ _ (fun hm => ?_)
    obtain ⟨r, hr, e⟩ := List.mem_map.1 hm
    rcases putNam_mem.1 hr with ⟨h0, _⟩ | ⟨_, hne⟩
    · exact h0 rfl
    · exact hne (nm_inj e)
  · exact graphAt_of hR (r := (s, g)) (putNam_mem.2 (.inl ⟨hg, rfl⟩))
theorem dataWith_some {ts P : List NamV} {s : ByteArray} {t : Tri3} (h : dataWith ts s t = some P) : dataOk ts = true ∧ kindL s.data.toList = 1 ∧ ∃ g, withT (graphAt ts s) t = some g ∧ P = putNam ts (s, g) ∧ dataOk P = true ∧ g.length ≠ 0 := by
  unfold dataWith at h
  split at h
  · rename_i c
    split at h
    · cases h
    · rename_i g hg
      split at h
      · rename_i hp
        obtain rfl := Option.some.inj h
        refine ⟨c.1, c.2, g, hg, rfl, hp, fun e0 => ?_⟩
        obtain ⟨_, _, e, _⟩ := withT_some hg
        have hm : t ∈ g := by rw [e]; exact putT_mem.2 (.inl rfl)
        rw [List.length_eq_zero_iff.1 e0] at hm
        simp at hm
      · cases h
  · cases h
theorem dataWith_of {ts : List NamV} {s : ByteArray} {t : Tri3} {g : List Tri3} (h : dataOk ts = true) (hk : kindL s.data.toList = 1) (hg : withT (graphAt ts s) t = some g) (hp : dataOk (putNam ts (s, g)) = true) : dataWith ts s t = some (putNam ts (s, g)) := by
  unfold dataWith
  rw [if_pos ⟨h, hk⟩, hg]
  simp only
  rw [if_pos hp]
theorem dataWith_twice {ts P : List NamV} {s : ByteArray} {t : Tri3} (h : dataWith ts s t = some P) : dataWith P s t = some P := by
  obtain ⟨h1, h2, g, h3, rfl, h4, h5⟩ := dataWith_some h
  have hm : (s, g) ∈ putNam ts (s, g) := putNam_mem.2 (.inl ⟨h5, rfl⟩)
  have e : putNam (putNam ts (s, g)) (s, g) = putNam ts (s, g) := eq_of_risN (putNam_ris _ h4) (dataOk_ris h4) (fun r => by
    rw [putNam_mem (ts := putNam ts (s, g))]
    constructor
    · rintro (⟨_, rfl⟩ | ⟨c, _⟩)
      · exact hm
      · exact c
    · intro c
      by_cases q : r.1 = s
      · exact .inl ⟨h5, risN_same (dataOk_ris h4) c hm q⟩
      · exact .inr ⟨c, q⟩)
  have hw := dataWith_of (t := t) (g := g) h4 h2 (by rw [graphAt_put h1]; exact with_twice h3) (by rw [e]; exact h4)
  rw [e] at hw
  exact hw
theorem dataWithout_some {ts P : List NamV} {s : ByteArray} {t : Tri3} (h : dataWithout ts s t = some P) : dataOk ts = true ∧ ∃ g, withoutT (graphAt ts s) t = some g ∧ P = putNam ts (s, g) := by
  unfold dataWithout at h
  split at h
  · rename_i c
    split at h
    · cases h
    · rename_i g hg
      exact ⟨c, g, hg, (Option.some.inj h).symm⟩
  · cases h
theorem dataWithout_back {ts P : List NamV} {s : ByteArray} {t : Tri3} (h : dataWithout ts s t = some P) : dataOk P = true ∧ t ∉ dataGraph P s ∧ dataWith P s t = some ts := by
  obtain ⟨h1, g, h2, rfl⟩ := dataWithout_some h
  obtain ⟨b1, b2, b3, b4⟩ := without_back h2
  have hR := dataOk_ris h1
  have hin : graphAt ts s ≠ [] := by
    obtain ⟨_, hm, _⟩ := withoutT_some h2
    intro e
    rw [e] at hm
    simp at hm
  have hm := graphAt_is hR hin
  have hk : kindL s.data.toList = 1 := by
    have := dataOk_nam h1 _ hm
    unfold namT at this
    rw [Bool.and_eq_true, decide_eq_true_eq] at this
    exact this.1
  have h6 : ts.length ≤ 6 := (dataOk_parts h1).1
  have hl : (putNam ts (s, g)).length ≤ 6 := by
    have hn : ((putNam ts (s, g)).map nmT).Nodup := (risN_iff.2 (putNam_ris (s, g) h1)).nodup
    have := nodup_sub_len hn (b := ts.map nmT) (fun x hx => by
      obtain ⟨r, hr, rfl⟩ := List.mem_map.1 hx
      rcases putNam_mem.1 hr with ⟨_, rfl⟩ | ⟨hr, _⟩
      · exact List.mem_map.2 ⟨_, hm, rfl⟩
      · exact List.mem_map.2 ⟨_, hr, rfl⟩)
    rw [List.length_map, List.length_map] at this
    omega
  have hP : dataOk (putNam ts (s, g)) = true := by rw [dataOk_put h1 hk b4]; exact decide_eq_true hl
  have hg := graphAt_put (s := s) (g := g) h1
  have e : putNam (putNam ts (s, g)) (s, graphAt ts s) = ts := eq_of_risN (putNam_ris _ hP) hR (fun r => by
    rw [putNam_mem]
    constructor
    · rintro (⟨_, rfl⟩ | ⟨c, cn⟩)
      · exact hm
      · rcases putNam_mem.1 c with ⟨_, rfl⟩ | ⟨c, _⟩
        · exact absurd rfl cn
        · exact c
    · intro c
      by_cases q : r.1 = s
      · exact .inl ⟨fun e0 => hin (List.length_eq_zero_iff.1 e0), risN_same hR c hm q⟩
      · exact .inr ⟨putNam_mem.2 (.inr ⟨c, q⟩), q⟩)
  refine ⟨hP, ?_, ?_⟩
  · unfold dataGraph; rw [if_pos hP, hg]; exact b2
  · have hw := dataWith_of (t := t) (g := graphAt ts s) hP hk (by rw [hg]; exact b1) (by rw [e]; exact h1)
    rw [e] at hw
    exact hw
/-- What a graph put in leaves of the others, and has itself. -/
theorem dataWith_all {ts P : List NamV} {s : ByteArray} {t : Tri3} (h : dataWith ts s t = some P) : dataOk P = true ∧ t ∈ dataGraph P s ∧ (∀ r ∈ ts, r.1 ≠ s → dataGraph P r.1 = r.2) ∧ (∀ u ∈ mergeL ts, u ∈ mergeL P) ∧ t ∈ mergeL P ∧ (mergeL P).length ≤ (mergeL ts).length + 1 := by
  obtain ⟨h1, h2, g, h3, rfl, h4, h5⟩ := dataWith_some h
  obtain ⟨_, _, e, _⟩ := withT_some h3
  have hm : (s, g) ∈ putNam ts (s, g) := putNam_mem.2 (.inl ⟨h5, rfl⟩)
  have ht : t ∈ g := by rw [e]; exact putT_mem.2 (.inl rfl)
  have hR := dataOk_ris h1
  refine ⟨h4, ?_, fun r hr hne => ?_, fun u hu => ?_, mergeL_mem.2 ⟨_, hm, ht⟩, ?_⟩
  · unfold dataGraph; rw [if_pos h4, graphAt_put h1]; exact ht
  · unfold dataGraph; rw [if_pos h4]; exact graphAt_of (dataOk_ris h4) (putNam_mem.2 (.inr ⟨hr, hne⟩))
  · obtain ⟨r, hr, hur⟩ := mergeL_mem.1 hu
    by_cases q : r.1 = s
    · refine mergeL_mem.2 ⟨_, hm, ?_⟩
      show u ∈ g
      rw [e, ← q, graphAt_of hR hr]
      exact putT_mem.2 (.inr hur)
    · exact mergeL_mem.2 ⟨r, putNam_mem.2 (.inr ⟨hr, q⟩), hur⟩
  · have := nodup_sub_len (b := t :: mergeL ts) (mergeL_rising (putNam ts (s, g))).nodup (fun u hu => by
      obtain ⟨r, hr, hur⟩ := mergeL_mem.1 hu
      rcases putNam_mem.1 hr with ⟨_, rfl⟩ | ⟨hr, _⟩
      · have hug : u ∈ g := hur
        rw [e] at hug
        rcases putT_mem.1 hug with rfl | hug
        · simp
        · have hne : graphAt ts s ≠ [] := fun e0 => by rw [e0] at hug; simp at hug
          exact List.mem_cons_of_mem _ (mergeL_mem.2 ⟨_, graphAt_is hR hne, hug⟩)
      · exact List.mem_cons_of_mem _ (mergeL_mem.2 ⟨r, hr, hur⟩))
    rwa [List.length_cons] at this
end Go.Proofs.Ythnpchcfjkepaaa
/- The graphs of a dataset, and what all have, at drawn arguments. -/
namespace Go.Proofs.Ythnpchcfjkepaaa
open Go.RowKit Go.WideShapes
theorem SmD.graph {ts : List NamV} (h : SmD ts) (s : ByteArray) : SmG (dataGraph ts s) := by
  unfold dataGraph
  split
  · exact h.at s
  · exact ⟨by simp, by simp⟩
theorem gotT_of {B : Nat} {w : World} {v : Value} {ts : List Tri3} (h : OwnT B w v ts) (hs : SmG ts) : GotT w v ts := by
  obtain ⟨x, cap, hv, hi⟩ := h.is hs.maxLen
  exact ⟨x, cap, hv, hi, hs⟩
theorem GotT.shape {w : World} {v : Value} {ts : List Tri3} (h : GotT w v ts) : ∃ x c, v = .slice x ts.length c := by
  obtain ⟨x, c, hv, _⟩ := h
  exact ⟨x, c, hv⟩
theorem GotN.shape {w : World} {v : Value} {ts : List NamV} (h : GotN w v ts) : ∃ x c, v = .slice x ts.length c := by
  obtain ⟨_, x, c, hv, _⟩ := h
  exact ⟨x, c, hv⟩
theorem mergeO_some {ts : List NamV} {u : List Tri3} (h : mergeO ts = some u) : dataOk ts = true ∧ u = mergeL ts ∧ u.length ≤ 80 := by
  unfold mergeO at h
  split at h
  · rename_i c
    obtain rfl := Option.some.inj h
    exact ⟨c.1, rfl, c.2⟩
  · cases h
theorem SmD.merged {ts : List NamV} (h : SmD ts) : SmG ((mergeO ts).getD []) := by
  cases e : mergeO ts with
  | none => exact ⟨by simp, by simp⟩
  | some u =>
    obtain ⟨_, rfl, hl⟩ := mergeO_some e
    refine ⟨by simp only [Option.getD_some]; omega, fun t ht => ?_⟩
    obtain ⟨r, hr, hu⟩ := mergeL_mem.1 ht
    exact (h.2 r hr).2.2 t hu
def GotResT (r : Option (List Tri3)) (w : World) (e : Ending) (w' : World) : Prop := ∃ z, e = .returned (.tuple #[z, .bool r.isSome]) ∧ GotT w' z (r.getD []) ∧ Below w.heap.size w w'
theorem implMergedN {v : Value} {ts : List NamV} {w : World} (h : GotN w v ts) : Calls Try.prog 9 #[v] w (GotResT (mergeO ts) w) := by
  obtain ⟨hd, a, c, rfl, i⟩ := h
  exact (implDataMerged a _ c ts w i hd.smN).mono fun e w' ⟨v, he, ho, hb⟩ => ⟨v, he, gotT_of ho hd.merged, hb⟩
theorem specMergedN {v : Value} {ts : List NamV} {w : World} (h : GotN w v ts) : Calls Try.prog 10 #[v] w (GotResT (mergeO ts) w) := by
  obtain ⟨hd, a, c, rfl, i⟩ := h
  exact (specDataMerged a _ c ts w i hd.smN).mono fun e w' ⟨v, he, ho, hb⟩ => ⟨v, he, gotT_of ho hd.merged, hb⟩
end Go.Proofs.Ythnpchcfjkepaaa
