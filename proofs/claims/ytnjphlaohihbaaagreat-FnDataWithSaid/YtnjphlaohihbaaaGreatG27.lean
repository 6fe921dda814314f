/- With and Without at slices that are held by their triples, and what holds of the two together. -/
import Derived.Test.YtnjphlaohihbaaaGreatG23
import Derived.Test.YtnjphlaohihbaaaGreatG22
import Derived.Test.YtnjphlaohihbaaaGreatG26
import Derived.Test.YtnjphlaohihbaaaGreatG21
import Derived.Test.YtnjphlaohihbaaaGreatG10
import Derived.Test.YtnjphlaohihbaaaGreatG13
import Derived.Maps.RangeWalk
import Derived.Test.YtnjphlaohihbaaaGreatG14
import Derived.Deep.AppendLies
import Derived.Laws.AppendOwnNone
namespace Go.Proofs.YtnjphlaohihbaaaGreat
open Go.RowKit Go.WideShapes
theorem implWithG {v : Value} {ts : List Tri3} {w : World} (h : GotG w v ts) {s p o : ByteArray} (hs : s.size ≤ 20) (hp : p.size ≤ 20) (ho : o.size ≤ 20) : Calls Tryz.prog 37 #[v, .agg #[.string s, .string p, .string o]] w (GotRes (withT ts (s, p, o)) w) := by
  obtain ⟨x, c, rfl, hi, hp', hsm⟩ := h
  exact (implWith x _ c ts s p o w hi hsm.sm (by omega) (by omega) (by omega)).mono fun e w' g => gotRes (hsm.with_ (t := (s, p, o)) ⟨hs, hp, ho⟩).1 g
theorem specWithG {v : Value} {ts : List Tri3} {w : World} (h : GotG w v ts) {s p o : ByteArray} (hs : s.size ≤ 20) (hp : p.size ≤ 20) (ho : o.size ≤ 20) : Calls Tryz.prog 40 #[v, .agg #[.string s, .string p, .string o]] w (GotRes (withT ts (s, p, o)) w) := by
  obtain ⟨x, c, rfl, hi, hp', hsm⟩ := h
  exact (specWith x _ c ts s p o w hi hp' hsm.sm (by omega) (by omega) (by omega)).mono fun e w' g => gotRes (hsm.with_ (t := (s, p, o)) ⟨hs, hp, ho⟩).1 g
theorem implWithoutG {v : Value} {ts : List Tri3} {w : World} (h : GotG w v ts) {s p o : ByteArray} (hs : s.size ≤ 20) (hp : p.size ≤ 20) (ho : o.size ≤ 20) : Calls Tryz.prog 49 #[v, .agg #[.string s, .string p, .string o]] w (GotRes (withoutT ts (s, p, o)) w) := by
  obtain ⟨x, c, rfl, hi, hp', hsm⟩ := h
  exact (implWithout x _ c ts s p o w hi hsm.sm (by omega) (by omega) (by omega)).mono fun e w' g => gotRes hsm.less g
theorem specWithoutG {v : Value} {ts : List Tri3} {w : World} (h : GotG w v ts) {s p o : ByteArray} (hs : s.size ≤ 20) (hp : p.size ≤ 20) (ho : o.size ≤ 20) : Calls Tryz.prog 50 #[v, .agg #[.string s, .string p, .string o]] w (GotRes (withoutT ts (s, p, o)) w) := by
  obtain ⟨x, c, rfl, hi, hp', hsm⟩ := h
  exact (specWithout x _ c ts s p o w hi hp' hsm.sm (by omega) (by omega) (by omega)).mono fun e w' g => gotRes hsm.less g
theorem GotG.shape {w : World} {v : Value} {ts : List Tri3} (h : GotG w v ts) : ∃ x c, v = .slice x ts.length c := by
  obtain ⟨x, c, hv, _⟩ := h
  exact ⟨x, c, hv⟩
theorem with_twice {ts n : List Tri3} {t : Tri3} (h : withT ts t = some n) : withT n t = some n := by
  obtain ⟨h1, h2, rfl, h4⟩ := withT_some h
  have e : putT (putT ts t) t = putT ts t := eq_of_rising (putT_rising (graphOk_rising h4)) (graphOk_rising h4) (fun u => by rw [putT_mem, putT_mem]; exact ⟨fun c => c.elim .inl id, .inr⟩)
  unfold withT
  rw [e, if_pos ⟨h4, h2, graphOk_len h4⟩]
theorem with_swap {ts n x m : List Tri3} {t u : Tri3} (h : withT ts t = some n) (hx : withT n u = some x) (hm : withT ts u = some m) : withT m t = some x := by
  obtain ⟨h1, h2, rfl, h4⟩ := withT_some h
  obtain ⟨x1, x2, rfl, x4⟩ := withT_some hx
  obtain ⟨m1, m2, rfl, m4⟩ := withT_some hm
  have e : putT (putT ts u) t = putT (putT ts t) u := eq_of_rising (putT_rising (graphOk_rising m4)) (graphOk_rising x4) (fun v => by
    simp only [putT_mem]
    exact ⟨fun c => by rcases c with c | c | c <;> simp [c], fun c => by rcases c with c | c | c <;> simp [c]⟩)
  unfold withT
  rw [e, if_pos ⟨m4, h2, graphOk_len x4⟩]
theorem with_less {ts h : List Tri3} {t : Tri3} (e : withT ts t = some h) : withoutT h t = some (lessT h t) ∧ t ∈ h ∧ h.length ≤ ts.length + 1 ∧ (lessT h t).length + 1 = h.length ∧ (∀ u ∈ ts, u ∈ h) ∧ (∀ u ∈ lessT h t, u ∈ ts) ∧ t ∉ lessT h t ∧ graphOk h = true := by
  obtain ⟨h1, h2, rfl, h4⟩ := withT_some e
  have hm : t ∈ putT ts t := putT_mem.2 (.inl rfl)
  refine ⟨by unfold withoutT; rw [if_pos ⟨h4, hm⟩], hm, putT_len ts t, lessT_len_mem (graphOk_rising h4).nodup hm, fun u hu => putT_mem.2 (.inr hu), fun u hu => ?_, fun c => (lessT_mem.1 c).1 rfl, h4⟩
  obtain ⟨a, b⟩ := lessT_mem.1 hu
  exact (putT_mem.1 b).resolve_left a
theorem without_back {ts h : List Tri3} {t : Tri3} (e : withoutT ts t = some h) : withT h t = some ts ∧ t ∉ h ∧ (∀ u ∈ h, u ∈ ts) ∧ graphOk h = true := by
  obtain ⟨h1, h2, rfl, h4⟩ := withoutT_some e
  have e2 : putT (lessT ts t) t = ts := eq_of_rising (putT_rising (graphOk_rising h4)) (graphOk_rising h1) (fun u => by
    rw [putT_mem, lessT_mem]
    constructor
    · rintro (rfl | ⟨_, c⟩)
      · exact h2
      · exact c
    · intro c
      by_cases g : u = t
      · exact .inl g
      · exact .inr ⟨g, c⟩)
  refine ⟨?_, fun c => (lessT_mem.1 c).1 rfl, fun u hu => (lessT_mem.1 hu).2, h4⟩
  unfold withT
  rw [e2, if_pos ⟨h4, graphOk_okT h1 t h2, graphOk_len h1⟩]
end Go.Proofs.YtnjphlaohihbaaaGreat
/- A dataset's graphs merged: plain, and the program. -/
namespace Go.Proofs.YtnjphlaohihbaaaGreat
open Go.RowKit Go.WideShapes Go.Maps
/-- All its graphs in one. -/
def mergeL (rs : List NamV) : List Tri3 := rs.foldl (fun g r => unionT g r.2) []
def mergeO (rs : List NamV) : Option (List Tri3) := if dataOk rs = true ∧ (mergeL rs).length ≤ 80 then some (mergeL rs) else none
theorem mergeL_snoc (rs : List NamV) (r : NamV) : mergeL (rs ++ [r]) = unionT (mergeL rs) r.2 := by unfold mergeL; rw [List.foldl_append]; rfl
theorem merge_from {u : Tri3} : ∀ (rs : List NamV) (g : List Tri3), u ∈ rs.foldl (fun g r => unionT g r.2) g ↔ u ∈ g ∨ ∃ r ∈ rs, u ∈ r.2
  | [], g => by simp
  | r :: rs, g => by
    rw [List.foldl_cons, merge_from rs, unionT_mem]
    constructor
    · rintro ((h | h) | ⟨q, hq, h⟩)
      · exact .inl h
      · exact .inr ⟨r, by simp, h⟩
      · exact .inr ⟨q, by simp [hq], h⟩
    · rintro (h | ⟨q, hq, h⟩)
      · exact .inl (.inl h)
      · rcases List.mem_cons.1 hq with rfl | hq
        · exact .inl (.inr h)
        · exact .inr ⟨q, hq, h⟩
theorem mergeL_mem {rs : List NamV} {u : Tri3} : u ∈ mergeL rs ↔ ∃ r ∈ rs, u ∈ r.2 := by unfold mergeL; rw [merge_from]; simp
theorem merge_rising : ∀ (rs : List NamV) (g : List Tri3), Rising g → Rising (rs.foldl (fun g r => unionT g r.2) g)
  | [], _, h => h
  | _ :: rs, _, h => merge_rising rs _ (unionT_rising h)
theorem mergeL_rising (rs : List NamV) : Rising (mergeL rs) := merge_rising rs [] (by unfold Rising; exact List.Pairwise.nil)
theorem merge_len : ∀ (rs : List NamV) (g : List Tri3), (∀ r ∈ rs, r.2.length ≤ 80) → (rs.foldl (fun g r => unionT g r.2) g).length ≤ g.length + 80 * rs.length
  | [], g, _ => by simp
  | r :: rs, g, h => by
    have h1 := merge_len rs (unionT g r.2) (fun q hq => h q (by simp [hq]))
    have h2 := unionT_len r.2 g
    have h3 := h r (by simp)
    rw [List.foldl_cons, List.length_cons]
    omega
theorem mergeL_len {rs : List NamV} (h : ∀ r ∈ rs, r.2.length ≤ 80) : (mergeL rs).length ≤ 80 * rs.length := by
  have := merge_len rs [] h
  rw [List.length_nil] at this
  unfold mergeL; omega
theorem dataOk_six {rs : List NamV} (h : dataOk rs = true) : rs.length ≤ 6 := by
  unfold dataOk at h
  rw [Bool.and_eq_true, decide_eq_true_eq] at h
  exact h.1
theorem dataOk_80 {rs : List NamV} (h : dataOk rs = true) : ∀ r ∈ rs, r.2.length ≤ 80 := by
  unfold dataOk at h
  rw [Bool.and_eq_true, decide_eq_true_eq] at h
  intro r hr
  have := gUpto_mem h.2 r hr
  unfold namT at this
  rw [Bool.and_eq_true, Bool.and_eq_true] at this
  exact graphOk_len this.2.1
theorem ofSet_merge {rs : List NamV} {us : List Tri3} (h : dataOk rs = true) (hn : us.Nodup) (hm : ∀ u, u ∈ us ↔ ∃ r ∈ rs, u ∈ r.2) : ofSet us = mergeO rs := by
  have e : sortT us = mergeL rs := sortT_is hn (mergeL_rising rs) (fun u => by rw [hm, mergeL_mem])
  have l : us.length = (mergeL rs).length := by rw [← e, sortT_len]
  unfold ofSet mergeO
  by_cases c : us.length ≤ 80
  · rw [if_pos c, if_pos ⟨h, by omega⟩, e]
  · rw [if_neg c, if_neg (fun h => c (by omega))]
/-- One set's triples put into another. -/
theorem addAll_one (us : List Tri3) (t : Tri3) (ts : List Tri3) : addT (addAll ts us) t = addAll ts (us ++ [t]) := (addAll_snoc ts us t).symm
set_option maxRecDepth 100000 in
set_option maxHeartbeats 3200000 in
theorem implCopyT (bd nd bs ns : Nat) (ss ts : List Tri3) (w : World) (hd : OwnSet w bd nd ss) (hs : OwnSet w bs ns ts) (hne : bd ≠ bs) (hroom : nd + ts.length ≤ 100000) :
    Calls Tryz.prog 45 #[.map (some bd), .map (some bs)] w fun e w' => (∃ v, e = .returned v) ∧ ∃ us : List Tri3, us.Perm ts ∧ OwnSet w' bd (nd + ts.length) (addAll ss us) ∧ w.grownBy w' (some bd) := by
  obtain ⟨f0, f1, f2, S⟩ := keyTri
  obtain ⟨D0, hown, hD⟩ := hs
  have hbd := hd.lt
  have hbs := hown.lt
  go_enter Tryz.func45, Tryz.ntmps45
  go_wp2_with (first
    | (at_range; refine wpList_range_own _ rfl _ 66 rfl 26 4 lawTri Tryz.underlying66 _ bs ns _ rfl hown ?_; intro w0 hrg0 hg0 hs0)
    | go_in)
  go_frame
  go_loopw [8] (fun _ wr => ∃ (left : Lit → Bool) (cnt : Nat) (us : List Tri3), wr.ranges Tryz.prog 26 (plainElem (H := Unit) Tryz.prog 4) bs w.heap.size ns D0 left cnt ∧ us.length + cnt ≤ ts.length ∧ CollT D0 left us ∧
      OwnSet wr bd (nd + us.length) (addAll ss us) ∧ w.grownBy wr (some bd))
    (fun _ wr => wr.rangeLeft bs w.heap.size)
  case atStart =>
    exact ⟨_, _, [], hrg0, by rw [hD.size]; simp, CollT.start D0, hd.kept hg0 (by simp), hg0.but _⟩
  case round =>
    obtain ⟨left, cnt, us, hrg, hcs, hC, hout, hgw⟩ := hrel
    go_wp2_with (first
      | (at_next; refine wpList_next_ranges _ rfl _ rfl 26 lawTri _ strT id (fun key kl hk => by obtain ⟨x, hx, _⟩ := S.inv hk; exact ⟨x, hx⟩) (fun v _ _ => ⟨v, rfl⟩) bs w.heap.size ns _ _ _ rfl hrg ?_ ?_)
      | go_in)
    · -- NOTHING IS LEFT
      intro hc0 hl0
      go_wp2
      go_end0
      have hp := hC.perm S lawTri hD hl0
      refine ⟨⟨_, rfl⟩, us, hp, ?_, hgw⟩
      have := hp.length_eq
      rw [← this]; exact hout
    · -- AN ENTRY HAS COME
      intro x1 x2 x3 c kl yd yp w2 cnt2 hkey hlk hv hat hrg2 hlt hg2 hs2 hen
      obtain ⟨x', ex, hx', rfl⟩ := S.inv hkey
      obtain rfl : (x1, x2, x3) = x' := strT_inj ex
      obtain ⟨y, hy, e⟩ := bool_elem_inv Tryz.underlying4 hv
      have hbs' : bs < w.heap.size := hbs
      have hin : (x1, x2, x3) ∈ ts := by
        obtain ⟨t, ht, et⟩ := (hD.has _).1 (has_true_of_atKey hat)
        rw [S.inj lawTri hx' (hD.small t ht) et]; exact ht
      have hyt : y = true := by
        have e1 := hat (.lit (.bool false))
        rw [hD.val _ hin, e] at e1
        simpa using e1.symm
      subst hyt
      (try simp only [id] at hy)
      subst hy
      have hout4 := Lib.hid ((hout.kept hg2 (fun e => by have := Option.some.inj e; omega)).alloc (.cells #[.string x1, .string x2, .string x3] 26))
      have hrg4 := Lib.hid (hrg2.alloc (.cells #[.string x1, .string x2, .string x3] 26))
      have hw2 : w.heap.size < w2.heap.size := by have := hrg2.lt; exact this
      have hng : nd + us.length < maxLen := by unfold maxLen; omega
      have HX := Lib.hid hx'
      have HG := Lib.hid ((hgw.andThen hg2 (fun j hj => .inl (by cases hj; exact Nat.le_refl _))).andThen (World.grownBy_alloc w2 (.cells #[.string x1, .string x2, .string x3] 26) none) (fun j hj => by cases hj))
      have HH := Lib.hid (And.intro hrg (And.intro hlt (And.intro hcs (hC.step S lawTri hx' hlk hat))))
      have X0 := Box.new w2 (.string x1) (.string x2) (.string x3) 26
      obtain ⟨c0, c1, c2⟩ := X0.cells
      clear hout hgw hlt hcs hC hlk hat hv hkey hg2 hrg hrg2 hs2 hin hx' X0
      simp only [strT] at hen ⊢
      go_wp2_with (at_mapUpdate; refine wpList_putG _ rfl _ _ _ rfl bd (nd + us.length) (addAll ss us) rfl hout4.out hng (x1, x2, x3) HX.out rfl rfl ?_; intro w5 hown5 hg5)
      obtain ⟨hrg, hlt, hcs, hC⟩ := HH.out
      have hrg5 := hrg4.out.kept hg5 (fun e => hne (Option.some.inj e).symm) (fun e => by have := Option.some.inj e; omega)
      rw [addAll_one] at hown5
      go_roundw
      case rel => exact ⟨_, cnt2, hrg5, us ++ [(x1, x2, x3)], by simp; omega, hC, by rw [List.length_append]; exact hown5, HG.out.andThen hg5 (fun j hj => .inr hj)⟩
      case measure => rw [hrg5.left_eq, hrg.left_eq]; exact hlt
theorem addAll_len : ∀ (us ss : List Tri3), (addAll ss us).length ≤ ss.length + us.length
  | [], ss => by simp [addAll]
  | t :: us, ss => by
    have h1 := addAll_len us (addT ss t)
    have h2 := addT_len ss t
    have e : addAll ss (t :: us) = addAll (addT ss t) us := rfl
    rw [e, List.length_cons]
    omega
/-- A slice put into a variadic call's own row becomes a set. -/
theorem implSetOne (a : Option Addr) (len cap : Nat) (ts : List Tri3) (V : World) (h : IsTris V a len cap ts) (hl : len ≤ 1000) :
    Calls Tryz.prog 46 #[.slice (some ⟨V.heap.size, 0, none⟩) 1 1] (V.alloc (.cells #[.slice a len cap] 33)) fun e w' => ∃ b m, e = .returned (.map (some b)) ∧ V.heap.size < b ∧ OwnSet w' b m (addAll [] ts) ∧ Below (V.heap.size + 1) (V.alloc (.cells #[.slice a len cap] 33)) w' := by
  have T := implTripleSet V.heap.size 1 [(a, len, cap, ts)] (V.alloc (.cells #[.slice a len cap] 33)) rfl (by simp) (by omega) (by rw [allT_one]; have := h.len; omega) (fun i x hx => by
    match i, hx with
    | 0, hx =>
      simp at hx; subst hx
      exact ⟨by simp, h.next ((Below.refl V.heap.size V).alloc (Nat.le_refl _) _)⟩)
  rw [allT_one] at T
  refine T.mono fun e w' ⟨b, m, he, hb, _, ho, hbl⟩ => ⟨b, m, he, ?_, ho, ?_⟩
  · rw [World.size_alloc] at hb; exact hb
  · rw [World.size_alloc] at hbl; exact hbl
set_option maxRecDepth 100000 in
set_option maxHeartbeats 3200000 in
theorem implDataMerged (a : Option Addr) (len cap : Nat) (ts : List NamV) (w : World) (h : IsNams w a len cap ts) (hs : SmN ts) :
    Calls Tryz.prog 16 #[.slice a len cap] w (ResPost (mergeO ts) w) := by
  have C := implDataOk a len cap ts w h hs
  have HT := Lib.hid h.len
  have H := Lib.hid h
  cases hq : dataOk ts
  · rw [hq] at C
    have HC := Lib.hid C
    have HG : Hid (mergeO ts = none) := Lib.hid (by unfold mergeO; rw [if_neg]; intro h; rw [hq] at h; exact Bool.noConfusion h.1)
    clear C hq h
    go_enter Tryz.func16, Tryz.ntmps16
    go_wp2_with fail
    refine HC.out.mono ?_
    rintro e w1 ⟨rfl, hb1⟩
    go_wp2_with fail
    go_ret2
    rw [HG.out]
    exact ResPost.no hb1
  rw [hq] at C
  have HC := Lib.hid C
  have h6 := dataOk_six hq
  have H80 := Lib.hid (dataOk_80 hq)
  have HW : Hid (∀ us : List Tri3, us.Nodup → (∀ u, u ∈ us ↔ ∃ r ∈ ts, u ∈ r.2) → ofSet us = mergeO ts) := Lib.hid (fun us hn hm => ofSet_merge hq hn hm)
  have h6' : len ≤ 6 := by rw [← h.len]; exact h6
  have hmm := @run_makeMap Tryz.prog
  clear C h hs hq h6
  go_enter Tryz.func16, Tryz.ntmps16
  go_wp2_with fail
  refine HC.out.mono ?_
  rintro e w1 ⟨rfl, hb1⟩
  have hz1 := hb1.size
  have M0 := Lib.hid (OwnSet.made w1)
  have B0 : Below w.heap.size w (w1.alloc (.map #[] 0)) := hb1.trans (((Below.refl w1.heap.size w1).alloc (Nat.le_refl _) (.map #[] 0)).mono hb1.size)
  go_wp2_with fail
  clear hmm
  go_loopw [13] (fun i wr => ∃ k : Nat, k ≤ len ∧ i = .int .i64 k ∧ Hid (∃ n ss, n ≤ 80 * k ∧ OwnSet wr w1.heap.size n ss ∧ ∀ u, u ∈ ss ↔ ∃ r ∈ ts.take k, u ∈ r.2) ∧ Below w.heap.size w wr) (fun i _ => len - (intOf i).toNat)
  case atStart => exact ⟨0, Nat.zero_le _, rfl, Lib.hid ⟨0, [], by omega, M0.out, by simp⟩, B0⟩
  case round =>
    obtain ⟨k, hk, rfl, HQ, hnx⟩ := hrel
    clear M0 B0
    have hk6 : (0 : Int) ≤ (k : Int) := by omega
    by_cases hlt : k < len
    · have hk7 : (k : Int) < (len : Int) := by omega
      obtain ⟨b, off, rfl, hb, hll, hm, hts, hc⟩ := (H.out.next hnx).cells (by omega)
      have ht : ts[k]? = some (ts[k]'(by omega)) := List.getElem?_eq_getElem (by omega)
      have HK : Hid (ts.take (k + 1) = ts.take k ++ [ts[k]'(by omega)]) := Lib.hid (List.take_succ_eq_append_getElem (by omega))
      obtain ⟨ga, gn, gc, c0, c1, hz, m0⟩ := hc k _ ht
      have h80 := H80.out _ (List.mem_of_getElem? ht)
      generalize ts[k]'(by omega) = t at ht HK c0 c1 hz m0 h80
      obtain ⟨s, g⟩ := t
      simp only at c0 c1 hz m0 h80
      have T0 := NamK.Box2.new wr (.string s) (.slice ga gn gc) 35
      obtain ⟨x0, x1⟩ := T0.cells
      have BW := hnx.alloc hnx.size (.cells #[.string s, .slice ga gn gc] 35)
      obtain ⟨n, ss, hn, hown, hmem⟩ := HQ.out
      have hbd := hown.lt
      have hall : (allT [(ga, gn, gc, g)]).length ≤ 1000 := by rw [allT_one]; omega
      have z1 := hz.next ((Below.refl wr.heap.size wr).alloc (Nat.le_refl _) (.cells #[.string s, .slice ga gn gc] 35))
      have o1 := hown.alloc (.cells #[.string s, .slice ga gn gc] 35)
      have hbd1 := o1.lt
      have hsz : w.heap.size ≤ (wr.alloc (.cells #[.string s, .slice ga gn gc] 35)).heap.size := BW.size
      have CT0 := implSetOne ga gn gc g _ z1 (by have := hz.len; omega)
      rw [World.size_alloc] at CT0 hsz
      have CT := Lib.hid CT0
      clear CT0 z1 hall hz hts hc hm ht m0
      go_wp2_with fail
      refine CT.out.mono ?_
      rintro e w3 ⟨bs, m, rfl, hbs, os, hb3⟩
      have B3 := (BW.alloc BW.size (.cells #[.slice ga gn gc] 33)).trans (hb3.mono (by omega))
      have o3 := (o1.alloc (.cells #[.slice ga gn gc] 33)).next (hb3.mono (by rw [World.size_alloc, World.size_alloc]; exact Nat.le_refl _))
      have hla := addAll_len g []
      rw [List.length_nil] at hla
      have CC := Lib.hid (implCopyT w1.heap.size n bs m ss (addAll [] g) w3 o3 os (by omega) (by omega))
      have HN : Hid (n + (addAll [] g).length ≤ 80 * (k + 1)) := Lib.hid (by omega)
      clear hb3 o3 os o1 hown HQ hla BW hnx x0 x1 T0
      go_wp2_with fail
      refine CC.out.mono ?_
      rintro e w4 ⟨⟨v4, rfl⟩, us, hp, o4, hg4⟩
      have B4 := B3.grown hg4 B3.size (fun r e => by cases e; exact hz1)
      have HQ4 : Hid (∃ n ss, n ≤ 80 * (k + 1) ∧ OwnSet w4 w1.heap.size n ss ∧ ∀ u, u ∈ ss ↔ ∃ r ∈ ts.take (k + 1), u ∈ r.2) := Lib.hid ⟨_, _, HN.out, o4, fun u => by
        rw [addAll_mem, hmem, hp.mem_iff, addAll_mem, HK.out]
        constructor
        · rintro (⟨r, hr, h⟩ | h | h)
          · exact ⟨r, by simp [hr], h⟩
          · simp at h
          · exact ⟨(s, g), by simp, h⟩
        · rintro ⟨r, hr, h⟩
          rcases List.mem_append.1 hr with hr | hr
          · exact .inl ⟨r, hr, h⟩
          · obtain rfl := List.mem_singleton.1 hr
            exact .inr (.inr h)⟩
      clear hp o4 hg4 B3 HN CC CT HK
      go_wp2_with fail
      go_roundw
      case rel => exact ⟨k + 1, by omega, by go_num, HQ4, B4⟩
      case measure => simp [intOf]; omega
    · obtain rfl : k = len := by omega
      obtain ⟨n, ss, hn, hown, hmem⟩ := HQ.out
      have G := implGraphOf w1.heap.size n ss wr hown (by omega)
      rw [HW.out _ hown.nodup (fun u => by rw [hmem, List.take_of_length_le (by rw [HT.out]; exact Nat.le_refl _)])] at G
      have CG := Lib.hid G
      clear G hown hmem HQ
      go_wp2_with fail
      refine CG.out.mono ?_
      rintro e w6 hr
      obtain ⟨v, rfl, hv⟩ := hr.far hnx
      go_wp2_with fail
      go_ret2
      exact ⟨v, rfl, hv⟩
end Go.Proofs.YtnjphlaohihbaaaGreat
/- A dataset's graphs merged: the specification. -/
namespace Go.Proofs.YtnjphlaohihbaaaGreat
open Go.RowKit Go.WideShapes
theorem plainOwn {B : Nat} {w : World} {v : Value} {ts : List Tri3} (h : OwnT B w v ts) (hm : ∀ t ∈ ts, t.1.size ≤ maxLen ∧ t.2.1.size ≤ maxLen ∧ t.2.2.size ≤ maxLen) : ∃ a cap, v = .slice a ts.length cap ∧ IsTris w a ts.length cap ts ∧ Plain a := by
  obtain ⟨a, cap, hv, hi⟩ := h.is hm
  refine ⟨a, cap, hv, hi, ?_⟩
  rcases h.2 with ⟨e, _⟩ | ⟨g, c, cur, e, _⟩
  · rw [hv] at e
    simp only [Value.slice.injEq] at e
    exact .inl e.1
  · rw [hv] at e
    simp only [Value.slice.injEq] at e
    exact .inr ⟨g, 0, e.1⟩
end Go.Proofs.YtnjphlaohihbaaaGreat
