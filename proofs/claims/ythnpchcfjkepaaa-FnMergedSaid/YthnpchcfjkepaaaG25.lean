/- A dataset in order of its names: the program. -/
import Derived.Test.YthnpchcfjkepaaaG24
import Derived.Test.YthnpchcfjkepaaaG13
import Derived.Sort.EveryDepth
import Derived.StillTailTactics
import Derived.Test.YthnpchcfjkepaaaG23
import Derived.Test.YthnpchcfjkepaaaG20
import Derived.Test.YthnpchcfjkepaaaG22
namespace Go.Proofs.Ythnpchcfjkepaaa
open Go.RowKit Go.Maps Go.Sort Go.Shelf
theorem map_keysD {w : World} {b n : Nat} {D : DataW Value} {R : Value → Option (DataW Value × List MemPlace)} {kvs : List (Txt × Value)} {ts : List Txt} (hown : w.ownsMap Try.prog 9 R b n D) (hD : MapOfD D kvs) (hts : kvs.map Prod.fst = ts) : ts.Perm (strKeys D) := by
  subst hts
  exact Collected.perm (left := fun _ => false) ⟨hD.nodup, fun x => by have := hD.mem x; unfold litS at this; rw [this]; simp⟩ hown lawTxt Try.underlying9 (fun _ => rfl)
open Go.RowKit Go.WideShapes Go.Maps
end Go.Proofs.Ythnpchcfjkepaaa
/- A graph put in among the others: what is there then, that the names rise, that the dataset is right. -/
namespace Go.Proofs.Ythnpchcfjkepaaa
open Go.RowKit Go.WideShapes
theorem nm_inj {a b : ByteArray} (h : a.data.toList = b.data.toList) : a = b := by rw [← bs_of a, h, bs_of]
theorem putGo_mem' (x y : NamV) : ∀ (ts : List NamV) (d : Bool), y ∈ putGo x d ts ↔ (d = false ∧ y = x) ∨ (y ∈ ts ∧ y.1 ≠ x.1)
  | [], d => by cases d <;> simp [putGo]
  | r :: rs, d => by
    have h := putGo_mem' x y rs (d || lessN x r)
    unfold putGo
    rw [List.mem_append, List.mem_append, h]
    by_cases e : r.1 = x.1
    · have hne : lessN x r = false := by unfold lessN; rw [e]; exact ltb_irrefl _
      rw [hne, if_pos e]
      have hq : (y ∈ r :: rs ∧ y.1 ≠ x.1) ↔ (y ∈ rs ∧ y.1 ≠ x.1) := by
        constructor
        · rintro ⟨h1, h2⟩
          rcases List.mem_cons.1 h1 with rfl | h1
          · exact absurd e h2
          · exact ⟨h1, h2⟩
        · rintro ⟨h1, h2⟩
          exact ⟨List.mem_cons_of_mem _ h1, h2⟩
      rw [hq]
      cases d <;> simp
    · rw [if_neg e]
      have hq : (y ∈ r :: rs ∧ y.1 ≠ x.1) ↔ (y = r ∨ (y ∈ rs ∧ y.1 ≠ x.1)) := by
        constructor
        · rintro ⟨h1, h2⟩
          rcases List.mem_cons.1 h1 with rfl | h1
          · exact .inl rfl
          · exact .inr ⟨h1, h2⟩
        · rintro (rfl | ⟨h1, h2⟩)
          · exact ⟨List.mem_cons_self .., e⟩
          · exact ⟨List.mem_cons_of_mem _ h1, h2⟩
      rw [hq]
      cases d <;> cases hl : lessN x r <;> simp
      · constructor
        · rintro (h | h | h)
          · exact .inr (.inl h)
          · exact .inl h
          · exact .inr (.inr h)
        · rintro (h | h | h)
          · exact .inr (.inl h)
          · exact .inl h
          · exact .inr (.inr h)
def RisN (l : List NamV) : Prop := l.Pairwise (fun a b => lessS (nmT a) (nmT b) = true)
theorem risN_iff {l : List NamV} : RisingS (l.map nmT) ↔ RisN l := by unfold RisingS RisN; rw [List.pairwise_map]
theorem putGo_rising (x : NamV) : ∀ (ts : List NamV) (d : Bool), RisN ts → RisN (putGo x d ts)
  | [], d, _ => by cases d <;> simp [putGo, RisN]
  | r :: rs, d, h => by
    unfold RisN at h
    rw [List.pairwise_cons] at h
    obtain ⟨h1, h2⟩ := h
    have ih := putGo_rising x rs (d || lessN x r) h2
    unfold putGo
    unfold RisN at ih ⊢
    rw [List.pairwise_append, List.pairwise_append]
    refine ⟨by split <;> simp, ⟨by split <;> simp, ih, fun a ha b hb => ?_⟩, fun a ha b hb => ?_⟩
    · split at ha
      · simp at ha
      · rename_i e
        obtain rfl := List.mem_singleton.1 ha
        rcases (putGo_mem' x b rs _).1 hb with ⟨hd, rfl⟩ | ⟨hb, _⟩
        · rw [Bool.or_eq_false_iff, lessN_is] at hd
          cases g : lessS (nmT a) (nmT b)
          · exact absurd (nm_inj (lessS_one g hd.2)) e
          · rfl
        · exact h1 b hb
    · split at ha
      · rename_i e
        obtain rfl := List.mem_singleton.1 ha
        rw [Bool.and_eq_true, lessN_is] at e
        have hxr := e.2
        have hb' : b = r ∨ b ∈ rs := by
          rcases List.mem_append.1 hb with hb | hb
          · split at hb
            · simp at hb
            · exact .inl (List.mem_singleton.1 hb)
          · rcases (putGo_mem' a b rs _).1 hb with ⟨hd, _⟩ | ⟨hb, _⟩
            · rw [lessN_is, hxr] at hd; simp at hd
            · exact .inr hb
        rcases hb' with rfl | hb'
        · exact hxr
        · exact lessS_trans hxr (h1 b hb')
      · simp at ha
theorem upto_of_risN {ts : List NamV} (ho : ∀ t ∈ ts, namT t = true) (hr : RisN ts) : gUpto namT lessN ts ts.length = true := by
  unfold RisN at hr
  rw [List.pairwise_iff_getElem] at hr
  refine List.all_eq_true.2 fun i hi => ?_
  have hi := List.mem_range.1 hi
  have hoi : namT ts[i] = true := ho _ (List.getElem_mem hi)
  rcases Nat.eq_zero_or_pos i with rfl | h0
  · rw [gAt_zero (List.getElem?_eq_getElem hi)]; exact hoi
  · rw [gAt_next (t := ts[i]) (u := ts[i - 1]) h0 (List.getElem?_eq_getElem hi) (List.getElem?_eq_getElem (by omega)), hoi, lessN_is, hr (i - 1) i (by omega) hi (by omega)]; rfl
theorem dataOk_ris {ts : List NamV} (h : dataOk ts = true) : RisN ts := risN_iff.1 (dataOk_parts h).2
theorem dataOk_nam {ts : List NamV} (h : dataOk ts = true) : ∀ r ∈ ts, namT r = true := by
  unfold dataOk at h
  rw [Bool.and_eq_true, decide_eq_true_eq] at h
  exact gUpto_mem h.2
theorem putNam_ris {ts : List NamV} (x : NamV) (h : dataOk ts = true) : RisN (putNam ts x) := putGo_rising x ts _ (dataOk_ris h)
theorem putNam_mem {ts : List NamV} {x y : NamV} : y ∈ putNam ts x ↔ (x.2.length ≠ 0 ∧ y = x) ∨ (y ∈ ts ∧ y.1 ≠ x.1) := by
  unfold putNam
  rw [putGo_mem', decide_eq_false_iff_not]
/-- A right dataset with a right graph put in is right, if there is room. -/
theorem dataOk_put {ts : List NamV} {s : ByteArray} {g : List Tri3} (h : dataOk ts = true) (hk : kindL s.data.toList = 1) (hg : graphOk g = true) : dataOk (putNam ts (s, g)) = decide ((putNam ts (s, g)).length ≤ 6) := by
  have hu : gUpto namT lessN (putNam ts (s, g)) (putNam ts (s, g)).length = true := upto_of_risN (fun y hy => by
    rcases putNam_mem.1 hy with ⟨h1, rfl⟩ | ⟨h1, _⟩
    · unfold namT
      simp only [Bool.and_eq_true, decide_eq_true_eq]
      exact ⟨hk, hg, Nat.pos_of_ne_zero h1⟩
    · exact dataOk_nam h y h1) (putNam_ris _ h)
  unfold dataOk
  rw [hu, Bool.and_true]
end Go.Proofs.Ythnpchcfjkepaaa
/- A triple put into a dataset's graph: the program. -/
namespace Go.Proofs.Ythnpchcfjkepaaa
open Go.RowKit Go.WideShapes Go.Maps
theorem addD_self {kvs : List (Txt × Value)} {t : Txt} {v : Value} : (t, v) ∈ addD kvs t v := by
  unfold addD
  split
  · rename_i h
    obtain ⟨p, hp, rfl⟩ := List.mem_map.1 h
    exact List.mem_map.2 ⟨p, hp, by simp⟩
  · simp
theorem addD_old {kvs : List (Txt × Value)} {t : Txt} {v : Value} {p : Txt × Value} (h : p ∈ kvs) (hn : p.1 ≠ t) : p ∈ addD kvs t v := by
  unfold addD
  split
  · exact List.mem_map.2 ⟨p, h, by simp [hn]⟩
  · exact List.mem_append_left _ h
theorem kvsD_inv : ∀ {ts : List NamV} {us : List Value} {p : Txt × Value}, p ∈ kvsD ts us → ∃ (i : Nat) (t : NamV), ts[i]? = some t ∧ us[i]? = some p.2 ∧ p.1 = nmT t
  | [], _, p, h => by simp [kvsD] at h
  | _ :: _, [], p, h => by simp [kvsD] at h
  | t :: ts, u :: us, p, h => by
    unfold kvsD at h
    rcases List.mem_cons.1 h with rfl | h
    · exact ⟨0, t, rfl, rfl, rfl⟩
    · obtain ⟨i, t', h1, h2, h3⟩ := kvsD_inv h
      exact ⟨i + 1, t', h1, h2, h3⟩
/-- The map's values are these graphs, each in a block of its own. -/
def MapIs (B : Nat) (w : World) (kvs : List (Txt × Value)) (P : List NamV) : Prop :=
  (∀ t, t ∈ kvs.map Prod.fst ↔ t ∈ P.map nmT) ∧ (∀ r ∈ P, ∃ u, (nmT r, u) ∈ kvs ∧ OwnT B w u r.2) ∧ ∀ p ∈ kvs, ∀ q ∈ kvs, p.1 ≠ q.1 → ∀ j, p.2.ownBlock = some j → q.2.ownBlock ≠ some j
theorem mapIs_put {B : Nat} {w : World} {ts : List NamV} {us : List Value} {s : ByteArray} {v : Value} {g : List Tri3} (hI : InnN B w ts us) (hv : OwnT B w v g) (hfar : ∀ u ∈ us, ∀ j, u.ownBlock = some j → v.ownBlock ≠ some j) (hg : g.length ≠ 0) : MapIs B w (addD (kvsD ts us) s.data.toList v) (putNam ts (s, g)) := by
  have hx : (s, g) ∈ putNam ts (s, g) := putNam_mem.2 (.inl ⟨hg, rfl⟩)
  refine ⟨fun t => ?_, fun r hr => ?_, fun p hp q hq hpq j hj e => ?_⟩
  · rw [addD_keys, addS_mem, kvsD_keys _ _ hI.1]
    constructor
    · rintro (h | rfl)
      · obtain ⟨r, hr, rfl⟩ := List.mem_map.1 h
        by_cases es : r.1 = s
        · exact List.mem_map.2 ⟨(s, g), hx, by simp [nmT, es]⟩
        · exact List.mem_map.2 ⟨r, putNam_mem.2 (.inr ⟨hr, es⟩), rfl⟩
      · exact List.mem_map.2 ⟨(s, g), hx, rfl⟩
    · intro h
      obtain ⟨r, hr, rfl⟩ := List.mem_map.1 h
      rcases putNam_mem.1 hr with ⟨_, rfl⟩ | ⟨hr, _⟩
      · exact .inr rfl
      · exact .inl (List.mem_map.2 ⟨r, hr, rfl⟩)
  · rcases putNam_mem.1 hr with ⟨_, rfl⟩ | ⟨hr, hne⟩
    · exact ⟨v, addD_self, hv⟩
    · obtain ⟨i, hi⟩ := List.mem_iff_getElem?.1 hr
      have hil : i < us.length := by rw [hI.1]; exact (List.getElem?_eq_some_iff.1 hi).1
      have hu : us[i]? = some (us[i]'hil) := List.getElem?_eq_getElem _
      exact ⟨_, addD_old (kvsD_mem ts us hI.1 i r _ hi hu) (fun e => hne (nm_inj e)), hI.2.1 i _ r hu hi⟩
  · rcases addD_mem hp with rfl | ⟨_, hp⟩
    · rcases addD_mem hq with rfl | ⟨_, hq⟩
      · exact hpq rfl
      · obtain ⟨i, t, h1, h2, h3⟩ := kvsD_inv hq
        exact hfar _ (List.mem_of_getElem? h2) j e hj
    · obtain ⟨i, t, h1, h2, h3⟩ := kvsD_inv hp
      rcases addD_mem hq with rfl | ⟨_, hq⟩
      · exact hfar _ (List.mem_of_getElem? h2) j hj e
      · obtain ⟨i', t', h1', h2', h3'⟩ := kvsD_inv hq
        have hne : i ≠ i' := by
          rintro rfl
          rw [h1] at h1'
          obtain rfl := Option.some.inj h1'
          exact hpq (h3.trans h3'.symm)
        have hpw := List.pairwise_iff_getElem.1 hI.2.2
        obtain ⟨l1, e1⟩ := List.getElem?_eq_some_iff.1 h2
        obtain ⟨l2, e2⟩ := List.getElem?_eq_some_iff.1 h2'
        rcases Nat.lt_or_gt_of_ne hne with z | z
        · exact hpw i i' l1 l2 z j (by rw [e1]; exact hj) (by rw [e2]; exact e)
        · exact hpw i' i l2 l1 z j (by rw [e2]; exact e) (by rw [e1]; exact hj)
theorem MapIs.update {B b : Nat} {w w' : World} {kvs : List (Txt × Value)} {P : List NamV} (h : MapIs B w kvs P) (hg : w.grownBy w' (some b)) (hb : ∃ es c, w.heap[b]? = some (.map es c)) : MapIs B w' kvs P :=
  ⟨h.1, fun r hr => by
    obtain ⟨u, h1, h2⟩ := h.2.1 r hr
    exact ⟨u, h1, World.ownsRow.kept h2 hg (row_no_map h2 hb)⟩, h.2.2⟩
theorem mapIs_len {w : World} {b n B : Nat} {kvs : List (Txt × Value)} {P : List NamV} (hM : OwnMapD w b n kvs) (h : MapIs B w kvs P) (hR : RisN P) : kvs.length = P.length := by
  have := ((List.perm_ext_iff_of_nodup hM.nodup (risN_iff.2 hR).nodup).2 h.1).length_eq
  rwa [List.length_map, List.length_map] at this
theorem graphAt_or : ∀ (ts : List NamV) (s : ByteArray), graphAt ts s = [] ∨ ∃ t ∈ ts, t.1 = s
  | [], _ => .inl rfl
  | r :: rs, s => by
    unfold graphAt
    split
    · exact .inr ⟨r, by simp, by assumption⟩
    · rcases graphAt_or rs s with h | ⟨t, ht, e⟩
      · exact .inl h
      · exact .inr ⟨t, by simp [ht], e⟩
section
variable (w : World) {ops : Array Oper} {rest : List Oper} {o : Oper} {a : Act} {Q : Exit → Act → World → Prop}
end
end Go.Proofs.Ythnpchcfjkepaaa
