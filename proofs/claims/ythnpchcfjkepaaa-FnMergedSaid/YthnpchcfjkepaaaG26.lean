/- A triple taken out of a dataset's graph: the program. -/
import Derived.Test.YthnpchcfjkepaaaG25
import Derived.Test.YthnpchcfjkepaaaG17
import Derived.Test.YthnpchcfjkepaaaG12
import Derived.Test.YthnpchcfjkepaaaG22
import Derived.Test.YthnpchcfjkepaaaG23
import Derived.Maps.RangeWalk
import Derived.Test.YthnpchcfjkepaaaG13
import Derived.Deep.AppendLies
import Derived.Laws.AppendOwnNone
namespace Go.Proofs.Ythnpchcfjkepaaa
open Go.RowKit Go.WideShapes Go.Maps
theorem filtD_len {t : Txt} : ∀ {kvs : List (Txt × Value)}, (kvs.map Prod.fst).Nodup → t ∈ kvs.map Prod.fst → (kvs.filter (fun p => decide (p.1 ≠ t))).length + 1 = kvs.length
  | [], _, h => by simp at h
  | x :: r, hn, h => by
    rw [List.map_cons] at hn h
    obtain ⟨h1, h2⟩ := List.nodup_cons.1 hn
    by_cases e : x.1 = t
    · have : r.filter (fun p => decide (p.1 ≠ t)) = r := List.filter_eq_self.2 fun p hp => decide_eq_true (fun g => h1 (List.mem_map.2 ⟨p, hp, by rw [g, e]⟩))
      rw [List.filter_cons, if_neg (by simp [e]), this]
      rfl
    · have hr : t ∈ r.map Prod.fst := by
        rcases List.mem_cons.1 h with h | h
        · exact absurd h.symm e
        · exact h
      have := filtD_len h2 hr
      rw [List.filter_cons, if_pos (by simp [e]), List.length_cons, List.length_cons]
      omega
/-- The entries without a text's. -/
def strikeD (kvs : List (Txt × Value)) (t : Txt) : List (Txt × Value) := kvs.filter (fun p => decide (p.1 ≠ t))
theorem filtD_none {t : Txt} {kvs : List (Txt × Value)} (h : t ∉ kvs.map Prod.fst) : kvs.filter (fun p => decide (p.1 ≠ t)) = kvs := List.filter_eq_self.2 fun p hp => decide_eq_true (fun e => h (List.mem_map.2 ⟨p, hp, e⟩))
theorem MapOfD.del {D : DataW Value} {kvs : List (Txt × Value)} (h : MapOfD D kvs) (hT : Tidy D) (t : Txt) : MapOfD (D.del (litS t)) (strikeD kvs t) := by
  unfold strikeD
  have hm := h.mem t
  have hin : ∀ p, p ∈ kvs.filter (fun p => decide (p.1 ≠ t)) ↔ p ∈ kvs ∧ p.1 ≠ t := fun p => by rw [List.mem_filter, decide_eq_true_eq]
  refine ⟨(List.filter_sublist.map Prod.fst).nodup h.nodup, fun kl => ?_, ?_, fun p hp z => ?_⟩
  · by_cases e : kl = litS t
    · subst e
      rw [has_del_same]
      refine ⟨(fun h => by cases h), fun ⟨u, hu, hk⟩ => ?_⟩
      obtain ⟨p, hp, rfl⟩ := List.mem_map.1 hu
      exact absurd (litS_inj hk).symm ((hin p).1 hp).2
    · rw [has_del_other e, h.has]
      constructor
      · rintro ⟨u, hu, rfl⟩
        obtain ⟨p, hp, rfl⟩ := List.mem_map.1 hu
        exact ⟨p.1, List.mem_map.2 ⟨p, (hin p).2 ⟨hp, fun g => e (by rw [g])⟩, rfl⟩, rfl⟩
      · rintro ⟨u, hu, rfl⟩
        obtain ⟨p, hp, rfl⟩ := List.mem_map.1 hu
        exact ⟨p.1, List.mem_map.2 ⟨p, ((hin p).1 hp).1, rfl⟩, rfl⟩
  · have := size_del (k := litS t) hT
    rw [hm, h.size] at this
    by_cases g : t ∈ kvs.map Prod.fst
    · have := filtD_len h.nodup g
      simp only [g, decide_true, if_true] at *; omega
    · rw [filtD_none g]
      simp only [g, decide_false, Bool.false_eq_true, if_false] at *; omega
  · obtain ⟨h1, h2⟩ := (hin p).1 hp
    rw [atKey_del_other (fun e => h2 (litS_inj e))]
    exact h.val p h1 z
section
variable (w : World) {ops : Array Oper} {rest : List Oper} {o : Oper} {a : Act} {Q : Exit → Act → World → Prop}
end
theorem mapIs_less {B : Nat} {w : World} {ts : List NamV} {us : List Value} {s : ByteArray} {v : Value} {g : List Tri3} (hI : InnN B w ts us) (hg : g.length = 0) : MapIs B w (strikeD (addD (kvsD ts us) s.data.toList v) s.data.toList) (putNam ts (s, g)) := by
  unfold strikeD
  have hin : ∀ p, p ∈ (addD (kvsD ts us) s.data.toList v).filter (fun p => decide (p.1 ≠ s.data.toList)) → p ∈ kvsD ts us ∧ p.1 ≠ s.data.toList := fun p hp => by
    rw [List.mem_filter, decide_eq_true_eq] at hp
    rcases addD_mem hp.1 with rfl | ⟨_, h⟩
    · exact absurd rfl hp.2
    · exact ⟨h, hp.2⟩
  have hput : ∀ r, r ∈ putNam ts (s, g) ↔ r ∈ ts ∧ r.1 ≠ s := fun r => by
    rw [putNam_mem]
    exact ⟨fun h => by rcases h with ⟨h, _⟩ | h; exact absurd hg h; exact h, .inr⟩
  have hval : ∀ r ∈ ts, r.1 ≠ s → ∃ u, (nmT r, u) ∈ (addD (kvsD ts us) s.data.toList v).filter (fun p => decide (p.1 ≠ s.data.toList)) ∧ OwnT B w u r.2 := fun r hr hne => by
    obtain ⟨i, hi⟩ := List.mem_iff_getElem?.1 hr
    have hil : i < us.length := by rw [hI.1]; exact (List.getElem?_eq_some_iff.1 hi).1
    have hu : us[i]? = some (us[i]'hil) := List.getElem?_eq_getElem _
    have hn : nmT r ≠ s.data.toList := fun e => hne (nm_inj e)
    exact ⟨_, List.mem_filter.2 ⟨addD_old (kvsD_mem ts us hI.1 i r _ hi hu) hn, decide_eq_true hn⟩, hI.2.1 i _ r hu hi⟩
  refine ⟨fun t => ⟨fun h => ?_, fun h => ?_⟩, fun r hr => hval r ((hput r).1 hr).1 ((hput r).1 hr).2, fun p hp q hq hpq j hj e => ?_⟩
  · obtain ⟨p, hp, rfl⟩ := List.mem_map.1 h
    obtain ⟨hp, hne⟩ := hin p hp
    obtain ⟨i, r, h1, h2, h3⟩ := kvsD_inv hp
    exact List.mem_map.2 ⟨r, (hput r).2 ⟨List.mem_of_getElem? h1, fun e => hne (by rw [h3, nmT, e])⟩, h3.symm⟩
  · obtain ⟨r, hr, rfl⟩ := List.mem_map.1 h
    obtain ⟨u, h1, _⟩ := hval r ((hput r).1 hr).1 ((hput r).1 hr).2
    exact List.mem_map.2 ⟨_, h1, rfl⟩
  · obtain ⟨i, t, h1, h2, h3⟩ := kvsD_inv (hin p hp).1
    obtain ⟨i', t', h1', h2', h3'⟩ := kvsD_inv (hin q hq).1
    have hne : i ≠ i' := by
      rintro rfl
      rw [h1] at h1'
      obtain rfl := Option.some.inj h1'
      exact hpq (h3.trans h3'.symm)
    have hpw := List.pairwise_iff_getElem.1 hI.2.2
    obtain ⟨l1, e1⟩ := List.getElem?_eq_some_iff.1 h2
    obtain ⟨l2, e2⟩ := List.getElem?_eq_some_iff.1 h2'
    rcases Nat.lt_or_gt_of_ne hne with z | z
    · exact hpw i i' l1 l2 z j (by rw [e1]; exact hj) (by rw [e2]; exact e)
    · exact hpw i' i l2 l1 z j (by rw [e2]; exact e) (by rw [e1]; exact hj)
end Go.Proofs.Ythnpchcfjkepaaa
/- A dataset's graphs merged: plain, and the program. -/
namespace Go.Proofs.Ythnpchcfjkepaaa
open Go.RowKit Go.WideShapes Go.Maps
/-- All its graphs in one. -/
def mergeL (rs : List NamV) : List Tri3 := rs.foldl (fun g r => unionT g r.2) []
def mergeO (rs : List NamV) : Option (List Tri3) := if dataOk rs = true ∧ (mergeL rs).length ≤ 80 then some (mergeL rs) else none
theorem mergeL_snoc (rs : List NamV) (r : NamV) : mergeL (rs ++ [r]) = unionT (mergeL rs) r.2 := by unfold mergeL; rw [List.foldl_append]; rfl
theorem merge_from {u : Tri3} : ∀ (rs : List NamV) (g : List Tri3), u ∈ rs.foldl (fun g r => unionT g r.2) g ↔ u ∈ g ∨ ∃ r ∈ rs, u ∈ r.2
  | [], g => by simp
  | r :: rs, g => by
    rw [List.foldl_cons, merge_from rs, unionT_mem]
    constructor
    · rintro ((h | h) | ⟨q, hq, h⟩)
      · exact .inl h
      · exact .inr ⟨r, by simp, h⟩
      · exact .inr ⟨q, by simp [hq], h⟩
    · rintro (h | ⟨q, hq, h⟩)
      · exact .inl (.inl h)
      · rcases List.mem_cons.1 hq with rfl | hq
        · exact .inl (.inr h)
        · exact .inr ⟨q, hq, h⟩
theorem mergeL_mem {rs : List NamV} {u : Tri3} : u ∈ mergeL rs ↔ ∃ r ∈ rs, u ∈ r.2 := by unfold mergeL; rw [merge_from]; simp
theorem merge_rising : ∀ (rs : List NamV) (g : List Tri3), Rising g → Rising (rs.foldl (fun g r => unionT g r.2) g)
  | [], _, h => h
  | _ :: rs, _, h => merge_rising rs _ (unionT_rising h)
theorem mergeL_rising (rs : List NamV) : Rising (mergeL rs) := merge_rising rs [] (by unfold Rising; exact List.Pairwise.nil)
theorem merge_len : ∀ (rs : List NamV) (g : List Tri3), (∀ r ∈ rs, r.2.length ≤ 80) → (rs.foldl (fun g r => unionT g r.2) g).length ≤ g.length + 80 * rs.length
  | [], g, _ => by simp
  | r :: rs, g, h => by
    have h1 := merge_len rs (unionT g r.2) (fun q hq => h q (by simp [hq]))
    have h2 := unionT_len r.2 g
    have h3 := h r (by simp)
    rw [List.foldl_cons, List.length_cons]
    omega
theorem mergeL_len {rs : List NamV} (h : ∀ r ∈ rs, r.2.length ≤ 80) : (mergeL rs).length ≤ 80 * rs.length := by
  have := merge_len rs [] h
  rw [List.length_nil] at this
  unfold mergeL; omega
theorem dataOk_six {rs : List NamV} (h : dataOk rs = true) : rs.length ≤ 6 := by
  unfold dataOk at h
  rw [Bool.and_eq_true, decide_eq_true_eq] at h
  exact h.1
theorem dataOk_80 {rs : List NamV} (h : dataOk rs = true) : ∀ r ∈ rs, r.2.length ≤ 80 := by
  unfold dataOk at h
  rw [Bool.and_eq_true, decide_eq_true_eq] at h
  intro r hr
  have := gUpto_mem h.2 r hr
  unfold namT at this
  rw [Bool.and_eq_true, Bool.and_eq_true] at this
  exact graphOk_len this.2.1
theorem ofSet_merge {rs : List NamV} {us : List Tri3} (h : dataOk rs = true) (hn : us.Nodup) (hm : ∀ u, u ∈ us ↔ ∃ r ∈ rs, u ∈ r.2) : ofSet us = mergeO rs := by
  have e : sortT us = mergeL rs := sortT_is hn (mergeL_rising rs) (fun u => by rw [hm, mergeL_mem])
  have l : us.length = (mergeL rs).length := by rw [← e, sortT_len]
  unfold ofSet mergeO
  by_cases c : us.length ≤ 80
  · rw [if_pos c, if_pos ⟨h, by omega⟩, e]
  · rw [if_neg c, if_neg (fun h => c (by omega))]
/-- One set's triples put into another. -/
theorem addAll_one (us : List Tri3) (t : Tri3) (ts : List Tri3) : addT (addAll ts us) t = addAll ts (us ++ [t]) := (addAll_snoc ts us t).symm
set_option maxRecDepth 100000 in
set_option maxHeartbeats 3200000 in
theorem implCopyT (bd nd bs ns : Nat) (ss ts : List Tri3) (w : World) (hd : OwnSet w bd nd ss) (hs : OwnSet w bs ns ts) (hne : bd ≠ bs) (hroom : nd + ts.length ≤ 100000) :
    Calls Try.prog 29 #[.map (some bd), .map (some bs)] w fun e w' => (∃ v, e = .returned v) ∧ ∃ us : List Tri3, us.Perm ts ∧ OwnSet w' bd (nd + ts.length) (addAll ss us) ∧ w.grownBy w' (some bd) := by
  obtain ⟨f0, f1, f2, S⟩ := keyTri
  obtain ⟨D0, hown, hD⟩ := hs
  have hbd := hd.lt
  have hbs := hown.lt
  go_enter Try.func29, Try.ntmps29
  go_wp2_with (first
    | (at_range; refine wpList_range_own _ rfl _ 57 rfl 34 4 lawTri Try.underlying57 _ bs ns _ rfl hown ?_; intro w0 hrg0 hg0 hs0)
    | go_in)
  go_frame
  go_loopw [8] (fun _ wr => ∃ (left : Lit → Bool) (cnt : Nat) (us : List Tri3), wr.ranges Try.prog 34 (plainElem (H := Unit) Try.prog 4) bs w.heap.size ns D0 left cnt ∧ us.length + cnt ≤ ts.length ∧ CollT D0 left us ∧
      OwnSet wr bd (nd + us.length) (addAll ss us) ∧ w.grownBy wr (some bd))
    (fun _ wr => wr.rangeLeft bs w.heap.size)
  case atStart =>
    exact ⟨_, _, [], hrg0, by rw [hD.size]; simp, CollT.start D0, hd.kept hg0 (by simp), hg0.but _⟩
  case round =>
    obtain ⟨left, cnt, us, hrg, hcs, hC, hout, hgw⟩ := hrel
    go_wp2_with (first
      | (at_next; refine wpList_next_ranges _ rfl _ rfl 34 lawTri _ strT id (fun key kl hk => by obtain ⟨x, hx, _⟩ := S.inv hk; exact ⟨x, hx⟩) (fun v _ _ => ⟨v, rfl⟩) bs w.heap.size ns _ _ _ rfl hrg ?_ ?_)
      | go_in)
    · -- NOTHING IS LEFT
      intro hc0 hl0
      go_wp2
      go_end0
      have hp := hC.perm S lawTri hD hl0
      refine ⟨⟨_, rfl⟩, us, hp, ?_, hgw⟩
      have := hp.length_eq
      rw [← this]; exact hout
    · -- AN ENTRY HAS COME
      intro x1 x2 x3 c kl yd yp w2 cnt2 hkey hlk hv hat hrg2 hlt hg2 hs2 hen
      obtain ⟨x', ex, hx', rfl⟩ := S.inv hkey
      obtain rfl : (x1, x2, x3) = x' := strT_inj ex
      obtain ⟨y, hy, e⟩ := bool_elem_inv Try.underlying4 hv
      have hbs' : bs < w.heap.size := hbs
      have hin : (x1, x2, x3) ∈ ts := by
        obtain ⟨t, ht, et⟩ := (hD.has _).1 (has_true_of_atKey hat)
        rw [S.inj lawTri hx' (hD.small t ht) et]; exact ht
      have hyt : y = true := by
        have e1 := hat (.lit (.bool false))
        rw [hD.val _ hin, e] at e1
        simpa using e1.symm
      subst hyt
      (try simp only [id] at hy)
      subst hy
      have hout4 := Lib.hid ((hout.kept hg2 (fun e => by have := Option.some.inj e; omega)).alloc (.cells #[.string x1, .string x2, .string x3] 34))
      have hrg4 := Lib.hid (hrg2.alloc (.cells #[.string x1, .string x2, .string x3] 34))
      have hw2 : w.heap.size < w2.heap.size := by have := hrg2.lt; exact this
      have hng : nd + us.length < maxLen := by unfold maxLen; omega
      have HX := Lib.hid hx'
      have HG := Lib.hid ((hgw.andThen hg2 (fun j hj => .inl (by cases hj; exact Nat.le_refl _))).andThen (World.grownBy_alloc w2 (.cells #[.string x1, .string x2, .string x3] 34) none) (fun j hj => by cases hj))
      have HH := Lib.hid (And.intro hrg (And.intro hlt (And.intro hcs (hC.step S lawTri hx' hlk hat))))
      have X0 := Box.new w2 (.string x1) (.string x2) (.string x3) 34
      obtain ⟨c0, c1, c2⟩ := X0.cells
      clear hout hgw hlt hcs hC hlk hat hv hkey hg2 hrg hrg2 hs2 hin hx' X0
      simp only [strT] at hen ⊢
      go_wp2_with (at_mapUpdate; refine wpList_putG _ rfl _ _ _ rfl bd (nd + us.length) (addAll ss us) rfl hout4.out hng (x1, x2, x3) HX.out rfl rfl ?_; intro w5 hown5 hg5)
      obtain ⟨hrg, hlt, hcs, hC⟩ := HH.out
      have hrg5 := hrg4.out.kept hg5 (fun e => hne (Option.some.inj e).symm) (fun e => by have := Option.some.inj e; omega)
      rw [addAll_one] at hown5
      go_roundw
      case rel => exact ⟨_, cnt2, hrg5, us ++ [(x1, x2, x3)], by simp; omega, hC, by rw [List.length_append]; exact hown5, HG.out.andThen hg5 (fun j hj => .inr hj)⟩
      case measure => rw [hrg5.left_eq, hrg.left_eq]; exact hlt
theorem addAll_len : ∀ (us ss : List Tri3), (addAll ss us).length ≤ ss.length + us.length
  | [], ss => by simp [addAll]
  | t :: us, ss => by
    have h1 := addAll_len us (addT ss t)
    have h2 := addT_len ss t
    have e : addAll ss (t :: us) = addAll (addT ss t) us := rfl
    rw [e, List.length_cons]
    omega
/-- A slice put into a variadic call's own row becomes a set. -/
theorem implSetOne (a : Option Addr) (len cap : Nat) (ts : List Tri3) (V : World) (h : IsTris V a len cap ts) (hl : len ≤ 1000) :
    Calls Try.prog 30 #[.slice (some ⟨V.heap.size, 0, none⟩) 1 1] (V.alloc (.cells #[.slice a len cap] 26)) fun e w' => ∃ b m, e = .returned (.map (some b)) ∧ V.heap.size < b ∧ OwnSet w' b m (addAll [] ts) ∧ Below (V.heap.size + 1) (V.alloc (.cells #[.slice a len cap] 26)) w' := by
  have T := implTripleSet V.heap.size 1 [(a, len, cap, ts)] (V.alloc (.cells #[.slice a len cap] 26)) rfl (by simp) (by omega) (by rw [allT_one]; have := h.len; omega) (fun i x hx => by
    match i, hx with
    | 0, hx =>
      simp at hx; subst hx
      exact ⟨by simp, h.next ((Below.refl V.heap.size V).alloc (Nat.le_refl _) _)⟩)
  rw [allT_one] at T
  refine T.mono fun e w' ⟨b, m, he, hb, _, ho, hbl⟩ => ⟨b, m, he, ?_, ho, ?_⟩
  · rw [World.size_alloc] at hb; exact hb
  · rw [World.size_alloc] at hbl; exact hbl
set_option maxRecDepth 100000 in
set_option maxHeartbeats 3200000 in
theorem implDataMerged (a : Option Addr) (len cap : Nat) (ts : List NamV) (w : World) (h : IsNams w a len cap ts) (hs : SmN ts) :
    Calls Try.prog 9 #[.slice a len cap] w (ResPost (mergeO ts) w) := by
  have C := implDataOk a len cap ts w h hs
  have HT := Lib.hid h.len
  have H := Lib.hid h
  cases hq : dataOk ts
  · rw [hq] at C
    have HC := Lib.hid C
    have HG : Hid (mergeO ts = none) := Lib.hid (by unfold mergeO; rw [if_neg]; intro h; rw [hq] at h; exact Bool.noConfusion h.1)
    clear C hq h
    go_enter Try.func9, Try.ntmps9
    go_wp2_with fail
    refine HC.out.mono ?_
    rintro e w1 ⟨rfl, hb1⟩
    go_wp2_with fail
    go_ret2
    rw [HG.out]
    exact ResPost.no hb1
  rw [hq] at C
  have HC := Lib.hid C
  have h6 := dataOk_six hq
  have H80 := Lib.hid (dataOk_80 hq)
  have HW : Hid (∀ us : List Tri3, us.Nodup → (∀ u, u ∈ us ↔ ∃ r ∈ ts, u ∈ r.2) → ofSet us = mergeO ts) := Lib.hid (fun us hn hm => ofSet_merge hq hn hm)
  have h6' : len ≤ 6 := by rw [← h.len]; exact h6
  have hmm := @run_makeMap Try.prog
  clear C h hs hq h6
  go_enter Try.func9, Try.ntmps9
  go_wp2_with fail
  refine HC.out.mono ?_
  rintro e w1 ⟨rfl, hb1⟩
  have hz1 := hb1.size
  have M0 := Lib.hid (OwnSet.made w1)
  have B0 : Below w.heap.size w (w1.alloc (.map #[] 0)) := hb1.trans (((Below.refl w1.heap.size w1).alloc (Nat.le_refl _) (.map #[] 0)).mono hb1.size)
  go_wp2_with fail
  clear hmm
  go_loopw [13] (fun i wr => ∃ k : Nat, k ≤ len ∧ i = .int .i64 k ∧ Hid (∃ n ss, n ≤ 80 * k ∧ OwnSet wr w1.heap.size n ss ∧ ∀ u, u ∈ ss ↔ ∃ r ∈ ts.take k, u ∈ r.2) ∧ Below w.heap.size w wr) (fun i _ => len - (intOf i).toNat)
  case atStart => exact ⟨0, Nat.zero_le _, rfl, Lib.hid ⟨0, [], by omega, M0.out, by simp⟩, B0⟩
  case round =>
    obtain ⟨k, hk, rfl, HQ, hnx⟩ := hrel
    clear M0 B0
    have hk6 : (0 : Int) ≤ (k : Int) := by omega
    by_cases hlt : k < len
    · have hk7 : (k : Int) < (len : Int) := by omega
      obtain ⟨b, off, rfl, hb, hll, hm, hts, hc⟩ := (H.out.next hnx).cells (by omega)
      have ht : ts[k]? = some (ts[k]'(by omega)) := List.getElem?_eq_getElem (by omega)
      have HK : Hid (ts.take (k + 1) = ts.take k ++ [ts[k]'(by omega)]) := Lib.hid (List.take_succ_eq_append_getElem (by omega))
      obtain ⟨ga, gn, gc, c0, c1, hz, m0⟩ := hc k _ ht
      have h80 := H80.out _ (List.mem_of_getElem? ht)
      generalize ts[k]'(by omega) = t at ht HK c0 c1 hz m0 h80
      obtain ⟨s, g⟩ := t
      simp only at c0 c1 hz m0 h80
      have T0 := NamK.Box2.new wr (.string s) (.slice ga gn gc) 31
      obtain ⟨x0, x1⟩ := T0.cells
      have BW := hnx.alloc hnx.size (.cells #[.string s, .slice ga gn gc] 31)
      obtain ⟨n, ss, hn, hown, hmem⟩ := HQ.out
      have hbd := hown.lt
      have hall : (allT [(ga, gn, gc, g)]).length ≤ 1000 := by rw [allT_one]; omega
      have z1 := hz.next ((Below.refl wr.heap.size wr).alloc (Nat.le_refl _) (.cells #[.string s, .slice ga gn gc] 31))
      have o1 := hown.alloc (.cells #[.string s, .slice ga gn gc] 31)
      have hbd1 := o1.lt
      have hsz : w.heap.size ≤ (wr.alloc (.cells #[.string s, .slice ga gn gc] 31)).heap.size := BW.size
      have CT0 := implSetOne ga gn gc g _ z1 (by have := hz.len; omega)
      rw [World.size_alloc] at CT0 hsz
      have CT := Lib.hid CT0
      clear CT0 z1 hall hz hts hc hm ht m0
      go_wp2_with fail
      refine CT.out.mono ?_
      rintro e w3 ⟨bs, m, rfl, hbs, os, hb3⟩
      have B3 := (BW.alloc BW.size (.cells #[.slice ga gn gc] 26)).trans (hb3.mono (by omega))
      have o3 := (o1.alloc (.cells #[.slice ga gn gc] 26)).next (hb3.mono (by rw [World.size_alloc, World.size_alloc]; exact Nat.le_refl _))
      have hla := addAll_len g []
      rw [List.length_nil] at hla
      have CC := Lib.hid (implCopyT w1.heap.size n bs m ss (addAll [] g) w3 o3 os (by omega) (by omega))
      have HN : Hid (n + (addAll [] g).length ≤ 80 * (k + 1)) := Lib.hid (by omega)
      clear hb3 o3 os o1 hown HQ hla BW hnx x0 x1 T0
      go_wp2_with fail
      refine CC.out.mono ?_
      rintro e w4 ⟨⟨v4, rfl⟩, us, hp, o4, hg4⟩
      have B4 := B3.grown hg4 B3.size (fun r e => by cases e; exact hz1)
      have HQ4 : Hid (∃ n ss, n ≤ 80 * (k + 1) ∧ OwnSet w4 w1.heap.size n ss ∧ ∀ u, u ∈ ss ↔ ∃ r ∈ ts.take (k + 1), u ∈ r.2) := Lib.hid ⟨_, _, HN.out, o4, fun u => by
        rw [addAll_mem, hmem, hp.mem_iff, addAll_mem, HK.out]
        constructor
        · rintro (⟨r, hr, h⟩ | h | h)
          · exact ⟨r, by simp [hr], h⟩
          · simp at h
          · exact ⟨(s, g), by simp, h⟩
        · rintro ⟨r, hr, h⟩
          rcases List.mem_append.1 hr with hr | hr
          · exact .inl ⟨r, hr, h⟩
          · obtain rfl := List.mem_singleton.1 hr
            exact .inr (.inr h)⟩
      clear hp o4 hg4 B3 HN CC CT HK
      go_wp2_with fail
      go_roundw
      case rel => exact ⟨k + 1, by omega, by go_num, HQ4, B4⟩
      case measure => simp [intOf]; omega
    · obtain rfl : k = len := by omega
      obtain ⟨n, ss, hn, hown, hmem⟩ := HQ.out
      have G := implGraphOf w1.heap.size n ss wr hown (by omega)
      rw [HW.out _ hown.nodup (fun u => by rw [hmem, List.take_of_length_le (by rw [HT.out]; exact Nat.le_refl _)])] at G
      have CG := Lib.hid G
      clear G hown hmem HQ
      go_wp2_with fail
      refine CG.out.mono ?_
      rintro e w6 hr
      obtain ⟨v, rfl, hv⟩ := hr.far hnx
      go_wp2_with fail
      go_ret2
      exact ⟨v, rfl, hv⟩
end Go.Proofs.Ythnpchcfjkepaaa
/- A dataset's graphs merged: the specification. -/
namespace Go.Proofs.Ythnpchcfjkepaaa
open Go.RowKit Go.WideShapes
theorem plainOwn {B : Nat} {w : World} {v : Value} {ts : List Tri3} (h : OwnT B w v ts) (hm : ∀ t ∈ ts, t.1.size ≤ maxLen ∧ t.2.1.size ≤ maxLen ∧ t.2.2.size ≤ maxLen) : ∃ a cap, v = .slice a ts.length cap ∧ IsTris w a ts.length cap ts ∧ Plain a := by
  obtain ⟨a, cap, hv, hi⟩ := h.is hm
  refine ⟨a, cap, hv, hi, ?_⟩
  rcases h.2 with ⟨e, _⟩ | ⟨g, c, cur, e, _⟩
  · rw [hv] at e
    simp only [Value.slice.injEq] at e
    exact .inl e.1
  · rw [hv] at e
    simp only [Value.slice.injEq] at e
    exact .inr ⟨g, 0, e.1⟩
set_option maxRecDepth 100000 in
set_option maxHeartbeats 1600000 in
theorem specUnionW (a b : Option Addr) (la ca lb cb : Nat) (ts us : List Tri3) (w : World) (h : IsTris w a la ca ts) (hp : Plain a) (k : IsTris w b lb cb us) (hla : la ≤ 1000) (hlb : lb ≤ 80) :
    Calls Try.prog 33 #[.slice a la ca, .slice b lb cb] w fun e w' => ∃ v, e = .returned v ∧ OwnT w.heap.size w' v (unionT ts us) ∧ Below w.heap.size w w' := by
  obtain ⟨i0, hi, hz0, hz1, hz2⟩ := info_parts infoTri
  have HS : Hid (∀ us' : List Tri3, (∀ u ∈ us', u ∈ us) → ∀ t ∈ unionT ts us', t.1.size ≤ maxLen ∧ t.2.1.size ≤ maxLen ∧ t.2.2.size ≤ maxLen) := Lib.hid (fun us' hu t ht => by
    rcases unionT_mem.1 ht with g | g
    · exact h.small t g
    · exact k.small t (hu t g))
  have HL := Lib.hid h.len
  have KL := Lib.hid k.len
  have K := Lib.hid k
  have O0 : OwnT w.heap.size (w.alloc (.cells #[] 34)) (.slice (some ⟨w.heap.size, 0, none⟩) 0 0) [] := World.ownsRow_lit (size := 3) (e := 34) w #[] 0 (Nat.le_refl _) (by decide) rfl
  have BA := (Below.refl w.heap.size w).alloc (Nat.le_refl _) (.cells #[] 34)
  have hA := h.next BA
  have HO := Lib.hid O0
  clear k O0 h
  have main : ∀ (v : Value) (w1 : World), OwnT w.heap.size w1 v ts → Below w.heap.size w w1 → True := fun _ _ _ _ => trivial
  clear main
  rcases hp with rfl | ⟨bb, off, rfl⟩
  · rcases hA with ⟨_, rfl, rfl, rfl⟩ | ⟨x, hx, _⟩
    rotate_left
    · cases hx
    go_enter Try.func33, Try.ntmps33
    go_wp2_with (at_builtin; refine wpList_append_own_none rfl _ _ 26 rfl w.heap.size 34 i0 3 Try.underlying26 hi _ _ _ rfl HO.out rfl ?_)
    go_wp2_with fail
    have O1 := HO.out
    have B1 := BA
    go_loopw [5, 6] (fun v' i wr => ∃ (j : Nat) (v : Value), j ≤ lb ∧ i = .int .i64 j ∧ v = v' ∧ Hid (OwnT w.heap.size wr v (unionT ([] : List Tri3) (us.take j))) ∧ Below w.heap.size w wr) (fun _ i _ => lb - (intOf i).toNat)
    case atStart => exact ⟨0, _, Nat.zero_le _, rfl, rfl, Lib.hid (by simpa [unionT] using O1), B1⟩
    case round =>
      obtain ⟨j, v, hj, rfl, rfl, hown, hnx⟩ := hrel
      clear O1 B1 BA
      have hj6 : (0 : Int) ≤ (j : Int) := by omega
      by_cases hlt : j < lb
      · have hj7 : (j : Int) < (lb : Int) := by omega
        obtain ⟨b', off', rfl, hb, hl', hm, hts, hcs⟩ := K.out.cells (by omega)
        have ht : us[j]? = some (us[j]'(by omega)) := List.getElem?_eq_getElem (by omega)
        have HT : Hid (us.take (j + 1) = us.take j ++ [us[j]'(by omega)]) := Lib.hid (List.take_succ_eq_append_getElem (by omega))
        obtain ⟨d0, d1, d2, m0, m1, m2⟩ := hcs j _ ht
        rw [← hnx.cell (p := ⟨b', _, none⟩) hb] at d0 d1 d2
        generalize us[j]'(by omega) = u at ht d0 d1 d2 m0 m1 m2 HT
        obtain ⟨u0, u1, u2⟩ := u
        simp only at d0 d1 d2
        have HN : Hid (unionT ([] : List Tri3) (us.take (j + 1)) = putT (unionT ([] : List Tri3) (us.take j)) (u0, u1, u2)) := Lib.hid (by rw [HT.out, unionT_snoc])
        obtain ⟨xv, yv, rfl, iv, pv⟩ := plainOwn hown.out (HS.out _ (fun u hu => List.mem_of_mem_take hu))
        have hul := unionT_len (us.take j) ([] : List Tri3)
        rw [List.length_take, List.length_nil] at hul
        have C := specPutAny xv _ yv _ u0 u1 u2 wr iv pv (by omega)
        obtain ⟨uj, huj⟩ : ∃ l, unionT ([] : List Tri3) (us.take j) = l := ⟨_, rfl⟩
        rw [huj] at C HN ⊢
        have HC := Lib.hid C
        clear C iv pv hown hul huj ht HT hts hcs hm m0 m1 m2 hl'
        go_wp2_with fail
        refine HC.out.mono ?_
        rintro e w2 ⟨v2, rfl, ho2, hb2⟩
        have O2 := Lib.hid (own_base ho2 hnx.size)
        rw [← HN.out] at O2
        have B2 := hnx.trans (hb2.mono hnx.size)
        clear ho2 hb2 HC HN d0 d1 d2
        go_wp2_with fail
        go_roundw
        case rel => exact ⟨j + 1, _, by omega, by go_num, rfl, O2, B2⟩
        case measure => simp [intOf]; omega
      · obtain rfl : j = lb := by omega
        have HO2 : Hid (OwnT w.heap.size wr v (unionT ([] : List Tri3) us)) := Lib.hid (by
          have := hown.out
          rwa [List.take_of_length_le (by rw [KL.out]; exact Nat.le_refl _)] at this)
        clear hown
        go_wp2_with fail
        go_ret
        exact ⟨v, rfl, HO2.out, hnx⟩
  · have F1 := hA.front la
    rw [List.take_of_length_le (by rw [HL.out]; exact Nat.le_refl _)] at F1
    have HF1 := Lib.hid F1
    clear F1 hA
    go_enter Try.func33, Try.ntmps33
    go_wp2_with (at_builtin; refine wpList_append_own _ rfl _ _ 26 rfl w.heap.size 34 i0 (.agg #[.string ⟨#[]⟩, .string ⟨#[]⟩, .string ⟨#[]⟩]) 3 48 Try.underlying26 hi hz0 hz1 hz2 rfl (by decide) _ _ _ rfl HO.out ⟨bb, off, none⟩ la _ (flat ts) rfl (by rw [flat_len, HL.out]) HF1.out (by first | exact flat_one _ | (intro x hx; simp at hx; rcases hx with rfl | rfl | rfl <;> rfl)) ?h63a ?h48a ?hbsa ?_)
    case h63a => rw [List.length_nil]; unfold maxLen; omega
    case h48a => rw [List.length_nil]; omega
    case hbsa => simp only [World.size_alloc]; omega
    intro v1 w1 hown1 hg1 _
    have O1 : OwnT w.heap.size w1 v1 ts := by unfold OwnT; rw [HL.out]; simpa [show flat ([] : List Tri3) = [] from rfl] using hown1
    have B1 : Below w.heap.size w w1 := BA.grown hg1 BA.size (fun j hj => by simp [Value.ownBlock] at hj; omega)
    clear hown1 hg1 HO HF1
    go_wp2_with fail
    go_loopw [5, 6] (fun v' i wr => ∃ (j : Nat) (v : Value), j ≤ lb ∧ i = .int .i64 j ∧ v = v' ∧ Hid (OwnT w.heap.size wr v (unionT ts (us.take j))) ∧ Below w.heap.size w wr) (fun _ i _ => lb - (intOf i).toNat)
    case atStart => exact ⟨0, _, Nat.zero_le _, rfl, rfl, Lib.hid (by simpa [unionT] using O1), B1⟩
    case round =>
      obtain ⟨j, v, hj, rfl, rfl, hown, hnx⟩ := hrel
      clear O1 B1 BA
      have hj6 : (0 : Int) ≤ (j : Int) := by omega
      by_cases hlt : j < lb
      · have hj7 : (j : Int) < (lb : Int) := by omega
        obtain ⟨b', off', rfl, hb, hl', hm, hts, hcs⟩ := K.out.cells (by omega)
        have ht : us[j]? = some (us[j]'(by omega)) := List.getElem?_eq_getElem (by omega)
        have HT : Hid (us.take (j + 1) = us.take j ++ [us[j]'(by omega)]) := Lib.hid (List.take_succ_eq_append_getElem (by omega))
        obtain ⟨d0, d1, d2, m0, m1, m2⟩ := hcs j _ ht
        rw [← hnx.cell (p := ⟨b', _, none⟩) hb] at d0 d1 d2
        generalize us[j]'(by omega) = u at ht d0 d1 d2 m0 m1 m2 HT
        obtain ⟨u0, u1, u2⟩ := u
        simp only at d0 d1 d2
        have HN : Hid (unionT ts (us.take (j + 1)) = putT (unionT ts (us.take j)) (u0, u1, u2)) := Lib.hid (by rw [HT.out, unionT_snoc])
        obtain ⟨xv, yv, rfl, iv, pv⟩ := plainOwn hown.out (HS.out _ (fun u hu => List.mem_of_mem_take hu))
        have hul := unionT_len (us.take j) ts
        rw [HL.out, List.length_take] at hul
        have C := specPutAny xv _ yv _ u0 u1 u2 wr iv pv (by omega)
        obtain ⟨uj, huj⟩ : ∃ l, unionT ts (us.take j) = l := ⟨_, rfl⟩
        rw [huj] at C HN ⊢
        have HC := Lib.hid C
        clear C iv pv hown hul huj ht HT hts hcs hm m0 m1 m2 hl'
        go_wp2_with fail
        refine HC.out.mono ?_
        rintro e w2 ⟨v2, rfl, ho2, hb2⟩
        have O2 := Lib.hid (own_base ho2 hnx.size)
        rw [← HN.out] at O2
        have B2 := hnx.trans (hb2.mono hnx.size)
        clear ho2 hb2 HC HN d0 d1 d2
        go_wp2_with fail
        go_roundw
        case rel => exact ⟨j + 1, _, by omega, by go_num, rfl, O2, B2⟩
        case measure => simp [intOf]; omega
      · obtain rfl : j = lb := by omega
        have HO2 : Hid (OwnT w.heap.size wr v (unionT ts us)) := Lib.hid (by
          have := hown.out
          rwa [List.take_of_length_le (by rw [KL.out]; exact Nat.le_refl _)] at this)
        clear hown
        go_wp2_with fail
        go_ret
        exact ⟨v, rfl, HO2.out, hnx⟩
set_option maxRecDepth 100000 in
set_option maxHeartbeats 1600000 in
theorem specDataMerged (a : Option Addr) (len cap : Nat) (ts : List NamV) (w : World) (h : IsNams w a len cap ts) (hs : SmN ts) :
    Calls Try.prog 10 #[.slice a len cap] w (ResPost (mergeO ts) w) := by
  have C := specDataOk a len cap ts w h hs
  have HT := Lib.hid h.len
  have H := Lib.hid h
  cases hq : dataOk ts
  · rw [hq] at C
    have HC := Lib.hid C
    have HG : Hid (mergeO ts = none) := Lib.hid (by unfold mergeO; rw [if_neg]; intro h; rw [hq] at h; exact Bool.noConfusion h.1)
    clear C hq h
    go_enter Try.func10, Try.ntmps10
    go_wp2_with fail
    refine HC.out.mono ?_
    rintro e w1 ⟨rfl, hb1⟩
    go_wp2_with fail
    go_ret2
    rw [HG.out]
    exact ResPost.no hb1
  rw [hq] at C
  have HC := Lib.hid C
  have h6 := dataOk_six hq
  have H80 := Lib.hid (dataOk_80 hq)
  have HQ0 : Hid (mergeO ts = if (mergeL ts).length ≤ 80 then some (mergeL ts) else none) := Lib.hid (by unfold mergeO; rw [hq]; simp)
  have h6' : len ≤ 6 := by rw [← h.len]; exact h6
  have HS : Hid (∀ rs : List NamV, (∀ r ∈ rs, r ∈ ts) → ∀ t ∈ mergeL rs, t.1.size ≤ maxLen ∧ t.2.1.size ≤ maxLen ∧ t.2.2.size ≤ maxLen) := Lib.hid (fun rs hr t ht => by
    obtain ⟨r, h1, h2⟩ := mergeL_mem.1 ht
    have := hs.sm (hr r h1) t h2
    unfold maxLen
    omega)
  clear C h hs hq h6
  go_enter Try.func10, Try.ntmps10
  go_wp2_with fail
  refine HC.out.mono ?_
  rintro e w1 ⟨rfl, hb1⟩
  have hz1 := hb1.size
  have O0 : Hid (OwnT w.heap.size (w1.alloc (.cells #[] 34)) (.slice (some ⟨w1.heap.size, 0, none⟩) 0 0) []) := Lib.hid (own_base (World.ownsRow_lit (size := 3) (e := 34) w1 #[] 0 (Nat.le_refl _) (by decide) rfl) hz1)
  have B0 := hb1.alloc hz1 (.cells #[] 34)
  go_wp2_with fail
  go_loopw [4, 5] (fun v' i wr => ∃ (k : Nat) (v : Value), k ≤ len ∧ i = .int .i64 k ∧ v = v' ∧ Hid (OwnT w.heap.size wr v (mergeL (ts.take k))) ∧ Below w.heap.size w wr) (fun _ i _ => len - (intOf i).toNat)
  case atStart => exact ⟨0, _, Nat.zero_le _, rfl, rfl, Lib.hid (by simpa [mergeL] using O0.out), B0⟩
  case round =>
    obtain ⟨k, v, hk, rfl, rfl, hown, hnx⟩ := hrel
    clear O0 B0
    have hk6 : (0 : Int) ≤ (k : Int) := by omega
    have hk8 : ¬ (k : Int) < 0 := by omega
    by_cases hlt : k < len
    · have hk7 : (k : Int) < (len : Int) := by omega
      obtain ⟨b, off, rfl, hb, hll, hm, hts, hc⟩ := (H.out.next hnx).cells (by omega)
      have ht : ts[k]? = some (ts[k]'(by omega)) := List.getElem?_eq_getElem (by omega)
      have HK : Hid (mergeL (ts.take (k + 1)) = unionT (mergeL (ts.take k)) (ts[k]'(by omega)).2) := Lib.hid (by rw [List.take_succ_eq_append_getElem (by omega), mergeL_snoc])
      obtain ⟨ga, gn, gc, c0, c1, hz, m0⟩ := hc k _ ht
      have h80 := H80.out _ (List.mem_of_getElem? ht)
      generalize ts[k]'(by omega) = t at ht HK c0 c1 hz m0 h80
      obtain ⟨s, g⟩ := t
      simp only at c0 c1 hz m0 h80 HK
      obtain ⟨xv, yv, rfl, iv, pv⟩ := plainOwn hown.out (HS.out _ (fun r hr => List.mem_of_mem_take hr))
      have hml := mergeL_len (rs := ts.take k) (fun r hr => H80.out r (List.mem_of_mem_take hr))
      rw [List.length_take] at hml
      have hgl := hz.len
      have HU := Lib.hid (specUnionW xv ga _ yv gn gc (mergeL (ts.take k)) g wr iv pv hz (by omega) (by omega))
      generalize mergeL (ts.take k) = acc at hown HU HK iv
      generalize acc.length = al at hown HU iv
      clear hown iv pv hml hgl hz hts hc hm m0 c0 ht
      go_wp2_with fail
      refine HU.out.mono ?_
      rintro e w2 ⟨v2, rfl, ho2, hb2⟩
      have O2 := Lib.hid (own_base ho2 hnx.size)
      rw [← HK.out] at O2
      have B2 := hnx.trans (hb2.mono hnx.size)
      clear ho2 hb2 HK HU
      go_wp2_with fail
      go_roundw
      case rel => exact ⟨k + 1, _, by omega, by go_num, rfl, O2, B2⟩
      case measure => simp [intOf]; omega
    · obtain rfl : k = len := by omega
      have HO : Hid (OwnT w.heap.size wr v (mergeL ts)) := Lib.hid (by
        have := hown.out
        rwa [List.take_of_length_le (by rw [HT.out]; exact Nat.le_refl _)] at this)
      clear hown
      obtain ⟨xv, yv, rfl, _, _⟩ := plainOwn HO.out (HS.out _ (fun r hr => hr))
      have hml := mergeL_len (rs := ts) H80.out
      rw [HT.out] at hml
      generalize mergeL ts = acc at HO HQ0 hml
      by_cases h80 : acc.length ≤ 80
      · have HR : Hid (mergeO ts = some acc) := Lib.hid (by rw [HQ0.out, if_pos h80])
        have h81 : ¬ (80 : Int) < (acc.length : Int) := by omega
        go_wp2_with fail
        go_ret2
        rw [HR.out]
        exact ResPost.yes HO.out hnx
      · have HR : Hid (mergeO ts = none) := Lib.hid (by rw [HQ0.out, if_neg h80])
        have h81 : (80 : Int) < (acc.length : Int) := by omega
        go_wp2_with fail
        go_ret2
        rw [HR.out]
        exact ResPost.no hnx
end Go.Proofs.Ythnpchcfjkepaaa
