/- WithI, the rest. -/
import Derived.Test.YtnjphlaohihbaaaGreatG21
import Derived.Test.YtnjphlaohihbaaaGreatG17
import Derived.Test.YtnjphlaohihbaaaGreatG22
namespace Go.Proofs.YtnjphlaohihbaaaGreat
open Go.RowKit Go.WideShapes Go.Maps
set_option maxRecDepth 100000 in
set_option maxHeartbeats 800000 in
theorem implGraphOf (b m : Nat) (ts : List Tri3) (w : World) (h : OwnSet w b m ts) (hm : m ≤ 1001) :
    Calls Tryz.prog 47 #[.map (some b)] w (ResPost (ofSet ts) w) := by
  have hle := h.size_le
  have C := Lib.hid (implInOrder b m ts w h (by omega))
  have H := Lib.hid h
  clear h
  by_cases g : (80 : Int) < (ts.length : Int)
  · have HR : Hid (ofSet ts = none) := Lib.hid (by unfold ofSet; rw [if_neg (by omega)])
    go_enter Tryz.func47, Tryz.ntmps47
    go_wp2_with (at_len; refine wpList_count _ rfl _ rfl b m ts rfl H.out ?_)
    go_wp2_with fail
    go_ret2
    rw [HR.out]
    exact ResPost.no (Below.refl _ _)
  · have HR : Hid (ofSet ts = some (sortT ts)) := Lib.hid (by unfold ofSet; rw [if_pos (by omega)])
    go_enter Tryz.func47, Tryz.ntmps47
    go_wp2_with (at_len; refine wpList_count _ rfl _ rfl b m ts rfl H.out ?_)
    go_wp2_with fail
    refine C.out.mono ?_
    rintro e w1 ⟨v, rfl, ho, hb⟩
    go_wp2_with fail
    go_ret2
    rw [HR.out]
    exact ResPost.yes ho hb
set_option maxRecDepth 100000 in
set_option maxHeartbeats 1600000 in
theorem implWith (a : Option Addr) (len cap : Nat) (ts : List Tri3) (s p o : ByteArray) (w : World) (h : IsTris w a len cap ts) (hsm : Sm ts) (hs : s.size ≤ 2097152) (hp : p.size ≤ 2097152) (ho : o.size ≤ 2097152) :
    Calls Tryz.prog 37 #[.slice a len cap, .agg #[.string s, .string p, .string o]] w (ResPost (withT ts (s, p, o)) w) := by
  have A1 := implGraphOk a len cap ts (w.alloc (.cells #[.string s, .string p, .string o] 26)) (h.next ((Below.refl w.heap.size w).alloc (Nat.le_refl _) _)) hsm
  have A2 := implTripleOk s p o hs hp ho
  change ∀ w, Calls _ _ _ w fun e w' => e = .returned (.bool (okT (s, p, o))) ∧ Below w.heap.size w w' at A2
  have B0 := (Below.refl w.heap.size w).alloc (Nat.le_refl _) (.cells #[.string s, .string p, .string o] 26)
  have X0 := Box.new w (.string s) (.string p) (.string o) 26
  have h0 := h.next B0
  cases hg : graphOk ts
  · rw [hg] at A1
    have HR : Hid (withT ts (s, p, o) = none) := Lib.hid (by unfold withT; rw [hg]; simp)
    have C1 := Lib.hid A1
    clear A1 A2 hg h h0 hsm X0
    go_enter Tryz.func37, Tryz.ntmps37
    go_wp2_with fail
    refine C1.out.mono ?_
    rintro e w1 ⟨rfl, hb1⟩
    go_wp2_with fail
    go_ret2
    rw [HR.out]
    exact ResPost.no (B0.trans (hb1.mono B0.size))
  rw [hg] at A1
  cases ht : okT (s, p, o)
  · rw [ht] at A2
    have HR : Hid (withT ts (s, p, o) = none) := Lib.hid (by unfold withT; rw [ht]; simp)
    have C1 := Lib.hid A1
    have C2 := Lib.hid A2
    clear A1 A2 hg ht h h0 hsm
    go_enter Tryz.func37, Tryz.ntmps37
    go_wp2_with fail
    refine C1.out.mono ?_
    rintro e w1 ⟨rfl, hb1⟩
    have X1 := X0.next hb1
    obtain ⟨c0, c1, c2⟩ := X1.cells
    have B1 := B0.trans (hb1.mono B0.size)
    clear X0 hb1 B0
    go_wp2_with fail
    refine (C2.out _).mono ?_
    rintro e w2 ⟨rfl, hb2⟩
    go_wp2_with fail
    go_ret2
    rw [HR.out]
    exact ResPost.no (B1.trans (hb2.mono B1.size))
  rw [ht] at A2
  have hl := h.len
  have hl80 := graphOk_len hg
  have hall : (allT [(a, len, cap, ts)]).length ≤ 1000 := by rw [allT_one]; omega
  have HW : Hid (∀ us : List Tri3, us.Nodup → (∀ u, u ∈ us ↔ u ∈ ts ∨ u = (s, p, o)) → ofSet us = withT ts (s, p, o)) := Lib.hid (fun us hn hm => ofSet_with hg ht hn hm)
  have hsk : SmK (s, p, o) := ⟨by unfold maxLen; simp only; omega, by unfold maxLen; simp only; omega, by unfold maxLen; simp only; omega⟩
  have C1 := Lib.hid A1
  have C2 := Lib.hid A2
  have HALL := Lib.hid hall
  clear A1 A2 hg ht h hsm hl hl80 hall
  go_enter Tryz.func37, Tryz.ntmps37
  go_wp2_with fail
  refine C1.out.mono ?_
  rintro e w1 ⟨rfl, hb1⟩
  have X1 := X0.next hb1
  have h1 := h0.next hb1
  obtain ⟨c0, c1, c2⟩ := X1.cells
  have B1 := B0.trans (hb1.mono B0.size)
  clear X0 hb1 B0 h0
  go_wp2_with fail
  refine (C2.out _).mono ?_
  rintro e w2 ⟨rfl, hb2⟩
  have X2 := X1.next hb2
  have h2 := h1.next hb2
  have B2 := B1.trans (hb2.mono B1.size)
  clear X1 hb2 B1 h1 c0 c1 c2
  have T := implTripleSet w2.heap.size 1 [(a, len, cap, ts)] (w2.alloc (.cells #[.slice a len cap] 33)) rfl (by simp) (by omega) HALL.out (fun i x hx => by
    match i, hx with
    | 0, hx =>
      simp at hx; subst hx
      exact ⟨by simp, h2.next ((Below.refl w2.heap.size w2).alloc (Nat.le_refl _) _)⟩)
  rw [allT_one] at T
  have CT := Lib.hid T
  have B3 := B2.alloc B2.size (.cells #[.slice a len cap] 33)
  have X3 := X2.alloc (.cells #[.slice a len cap] 33)
  clear T h2 X2 B2
  go_wp2_with fail
  refine CT.out.mono ?_
  rintro e w4 ⟨b, m, rfl, hbb, hm, hown, hb4⟩
  have X4 := X3.next hb4
  obtain ⟨c0, c1, c2⟩ := X4.cells
  have B4 := B3.trans (hb4.mono B3.size)
  have hbl : w.heap.size ≤ b := Nat.le_trans B3.size hbb
  have H4 := Lib.hid hown
  have hml : m < maxLen := by unfold maxLen; omega
  clear hown hb4 X3 B3 CT
  go_wp2_with (at_mapUpdate; refine wpList_putG _ rfl _ _ _ rfl b m (addAll [] ts) rfl H4.out hml (s, p, o) hsk rfl rfl ?_)
  intro w5 hown5 hg5
  have B5 : Below w.heap.size w w5 := B4.grown hg5 B4.size (fun r e => by cases e; exact hbl)
  have G := implGraphOf b (m + 1) _ w5 hown5 (by omega)
  rw [HW.out _ hown5.nodup (fun u => by rw [addT_mem, addAll_mem]; simp)] at G
  have CG := Lib.hid G
  clear G hown5 hg5 H4 B4 c0 c1 c2 X4
  go_wp2_with fail
  refine CG.out.mono ?_
  rintro e w6 hr
  obtain ⟨v, rfl, hv⟩ := hr.far B5
  go_wp2_with fail
  go_ret2
  exact ⟨v, rfl, hv⟩
open Go.RowKit Go.WideShapes Go.Maps
theorem zeroB (w : World) : (zeroValue 4).run Tryz.prog w = .ok (.bool false) w := by kernel_rfl
set_option maxRecDepth 100000 in
set_option maxHeartbeats 1600000 in
theorem implWithout (a : Option Addr) (len cap : Nat) (ts : List Tri3) (s p o : ByteArray) (w : World) (h : IsTris w a len cap ts) (hsm : Sm ts) (hs : s.size ≤ 2097152) (hp : p.size ≤ 2097152) (ho : o.size ≤ 2097152) :
    Calls Tryz.prog 49 #[.slice a len cap, .agg #[.string s, .string p, .string o]] w (ResPost (withoutT ts (s, p, o)) w) := by
  have A1 := implGraphOk a len cap ts (w.alloc (.cells #[.string s, .string p, .string o] 26)) (h.next ((Below.refl w.heap.size w).alloc (Nat.le_refl _) _)) hsm
  have A2 := implTripleOk s p o hs hp ho
  change ∀ w, Calls _ _ _ w fun e w' => e = .returned (.bool (okT (s, p, o))) ∧ Below w.heap.size w w' at A2
  have B0 := (Below.refl w.heap.size w).alloc (Nat.le_refl _) (.cells #[.string s, .string p, .string o] 26)
  have X0 := Box.new w (.string s) (.string p) (.string o) 26
  have h0 := h.next B0
  cases hg : graphOk ts
  · rw [hg] at A1
    have HR : Hid (withoutT ts (s, p, o) = none) := Lib.hid (by unfold withoutT; rw [hg]; simp)
    have C1 := Lib.hid A1
    clear A1 A2 hg h h0 hsm X0
    go_enter Tryz.func49, Tryz.ntmps49
    go_wp2_with fail
    refine C1.out.mono ?_
    rintro e w1 ⟨rfl, hb1⟩
    go_wp2_with fail
    go_ret2
    rw [HR.out]
    exact ResPost.no (B0.trans (hb1.mono B0.size))
  rw [hg] at A1
  cases ht : okT (s, p, o)
  · rw [ht] at A2
    have HR : Hid (withoutT ts (s, p, o) = none) := Lib.hid (by
      unfold withoutT
      rw [if_neg]
      rintro ⟨_, hm⟩
      rw [graphOk_okT hg _ hm] at ht
      cases ht)
    have C1 := Lib.hid A1
    have C2 := Lib.hid A2
    clear A1 A2 hg ht h h0 hsm
    go_enter Tryz.func49, Tryz.ntmps49
    go_wp2_with fail
    refine C1.out.mono ?_
    rintro e w1 ⟨rfl, hb1⟩
    have X1 := X0.next hb1
    obtain ⟨c0, c1, c2⟩ := X1.cells
    have B1 := B0.trans (hb1.mono B0.size)
    clear X0 hb1 B0
    go_wp2_with fail
    refine (C2.out _).mono ?_
    rintro e w2 ⟨rfl, hb2⟩
    go_wp2_with fail
    go_ret2
    rw [HR.out]
    exact ResPost.no (B1.trans (hb2.mono B1.size))
  rw [ht] at A2
  have hl := h.len
  have hl80 := graphOk_len hg
  have hall : (allT [(a, len, cap, ts)]).length ≤ 1000 := by rw [allT_one]; omega
  have HW : Hid ((s, p, o) ∈ ts → ∀ us : List Tri3, us.Nodup → (∀ u, u ∈ us ↔ u ≠ (s, p, o) ∧ u ∈ ts) → ofSet us = withoutT ts (s, p, o)) := Lib.hid (fun hin us hn hm => ofSet_without hg hin hn hm)
  have HN : Hid ((s, p, o) ∉ ts → withoutT ts (s, p, o) = none) := Lib.hid (fun hin => by unfold withoutT; rw [if_neg (fun h => hin h.2)])
  have hsk : SmK (s, p, o) := ⟨by unfold maxLen; simp only; omega, by unfold maxLen; simp only; omega, by unfold maxLen; simp only; omega⟩
  have C1 := Lib.hid A1
  have C2 := Lib.hid A2
  have HALL := Lib.hid hall
  have HZ := Lib.hid zeroB
  clear A1 A2 hg ht h hsm hl hl80 hall
  go_enter Tryz.func49, Tryz.ntmps49
  go_wp2_with fail
  refine C1.out.mono ?_
  rintro e w1 ⟨rfl, hb1⟩
  have X1 := X0.next hb1
  have h1 := h0.next hb1
  obtain ⟨c0, c1, c2⟩ := X1.cells
  have B1 := B0.trans (hb1.mono B0.size)
  clear X0 hb1 B0 h0
  go_wp2_with fail
  refine (C2.out _).mono ?_
  rintro e w2 ⟨rfl, hb2⟩
  have X2 := X1.next hb2
  have h2 := h1.next hb2
  have B2 := B1.trans (hb2.mono B1.size)
  clear X1 hb2 B1 h1 c0 c1 c2
  have T := implTripleSet w2.heap.size 1 [(a, len, cap, ts)] (w2.alloc (.cells #[.slice a len cap] 33)) rfl (by simp) (by omega) HALL.out (fun i x hx => by
    match i, hx with
    | 0, hx =>
      simp at hx; subst hx
      exact ⟨by simp, h2.next ((Below.refl w2.heap.size w2).alloc (Nat.le_refl _) _)⟩)
  rw [allT_one] at T
  have CT := Lib.hid T
  have B3 := B2.alloc B2.size (.cells #[.slice a len cap] 33)
  have X3 := X2.alloc (.cells #[.slice a len cap] 33)
  clear T h2 X2 B2
  go_wp2_with fail
  refine CT.out.mono ?_
  rintro e w4 ⟨b, m, rfl, hbb, hm, hown, hb4⟩
  have X4 := X3.next hb4
  obtain ⟨c0, c1, c2⟩ := X4.cells
  have B4 := B3.trans (hb4.mono B3.size)
  have hbl : w.heap.size ≤ b := Nat.le_trans B3.size hbb
  have H4 := Lib.hid hown
  clear hown hb4 X3 B3 CT
  by_cases hin : (s, p, o) ∈ ts
  · have hd : Hid (decide ((s, p, o) ∈ addAll [] ts) = true) := Lib.hid (decide_eq_true (addAll_mem.2 (.inr hin)))
    have HW2 := Lib.hid (HW.out hin)
    clear hin HW HN
    go_wp2_with (first
      | (at_lookup; refine wpList_lookG _ rfl _ _ rfl b m (addAll [] ts) rfl H4.out (s, p, o) hsk rfl (HZ.out _) ?_; rw [hd.out])
      | (at_delete; refine wpList_dropG _ rfl _ _ rfl b m (addAll [] ts) rfl H4.out (s, p, o) hsk rfl ?_))
    intro w5 hown5 hg5
    have B5 : Below w.heap.size w w5 := B4.grown hg5 B4.size (fun r e => by cases e; exact hbl)
    have G := implGraphOf b m _ w5 hown5 (by omega)
    rw [HW2.out _ hown5.nodup (fun u => by rw [lessT_mem, addAll_mem]; simp)] at G
    have CG := Lib.hid G
    clear G hown5 hg5 H4 B4 c0 c1 c2 X4
    go_wp2_with fail
    refine CG.out.mono ?_
    rintro e w6 hr
    obtain ⟨v, rfl, hv⟩ := hr.far B5
    go_wp2_with fail
    go_ret2
    exact ⟨v, rfl, hv⟩
  · have hd : Hid (decide ((s, p, o) ∈ addAll [] ts) = false) := Lib.hid (decide_eq_false (fun h => by
      rcases addAll_mem.1 h with h | h
      · simp at h
      · exact hin h))
    have HR := Lib.hid (HN.out hin)
    clear hin HW HN
    go_wp2_with (at_lookup; refine wpList_lookG _ rfl _ _ rfl b m (addAll [] ts) rfl H4.out (s, p, o) hsk rfl (HZ.out _) ?_; rw [hd.out])
    go_wp2_with fail
    go_ret2
    rw [HR.out]
    exact ResPost.no B4
theorem allT_two (a b : Option Addr) (la ca lb cb : Nat) (ts us : List Tri3) : allT [(a, la, ca, ts), (b, lb, cb, us)] = ts ++ us := by simp [allT]
end Go.Proofs.YtnjphlaohihbaaaGreat
/- A triple put into a dataset's graph: the program. -/
namespace Go.Proofs.YtnjphlaohihbaaaGreat
open Go.RowKit Go.WideShapes Go.Maps
theorem addD_self {kvs : List (Txt × Value)} {t : Txt} {v : Value} : (t, v) ∈ addD kvs t v := by
  unfold addD
  split
  · rename_i h
    obtain ⟨p, hp, rfl⟩ := List.mem_map.1 h
    exact List.mem_map.2 ⟨p, hp, by simp⟩
  · simp
theorem addD_old {kvs : List (Txt × Value)} {t : Txt} {v : Value} {p : Txt × Value} (h : p ∈ kvs) (hn : p.1 ≠ t) : p ∈ addD kvs t v := by
  unfold addD
  split
  · exact List.mem_map.2 ⟨p, h, by simp [hn]⟩
  · exact List.mem_append_left _ h
theorem kvsD_inv : ∀ {ts : List NamV} {us : List Value} {p : Txt × Value}, p ∈ kvsD ts us → ∃ (i : Nat) (t : NamV), ts[i]? = some t ∧ us[i]? = some p.2 ∧ p.1 = nmT t
  | [], _, p, h => by simp [kvsD] at h
  | _ :: _, [], p, h => by simp [kvsD] at h
  | t :: ts, u :: us, p, h => by
    unfold kvsD at h
    rcases List.mem_cons.1 h with rfl | h
    · exact ⟨0, t, rfl, rfl, rfl⟩
    · obtain ⟨i, t', h1, h2, h3⟩ := kvsD_inv h
      exact ⟨i + 1, t', h1, h2, h3⟩
/-- The map's values are these graphs, each in a block of its own. -/
def MapIs (B : Nat) (w : World) (kvs : List (Txt × Value)) (P : List NamV) : Prop :=
  (∀ t, t ∈ kvs.map Prod.fst ↔ t ∈ P.map nmT) ∧ (∀ r ∈ P, ∃ u, (nmT r, u) ∈ kvs ∧ OwnT B w u r.2) ∧ ∀ p ∈ kvs, ∀ q ∈ kvs, p.1 ≠ q.1 → ∀ j, p.2.ownBlock = some j → q.2.ownBlock ≠ some j
theorem mapIs_put {B : Nat} {w : World} {ts : List NamV} {us : List Value} {s : ByteArray} {v : Value} {g : List Tri3} (hI : InnN B w ts us) (hv : OwnT B w v g) (hfar : ∀ u ∈ us, ∀ j, u.ownBlock = some j → v.ownBlock ≠ some j) (hg : g.length ≠ 0) : MapIs B w (addD (kvsD ts us) s.data.toList v) (putNam ts (s, g)) := by
  have hx : (s, g) ∈ putNam ts (s, g) := putNam_mem.2 (.inl ⟨hg, rfl⟩)
  refine ⟨fun t => ?_, fun r hr => ?_, fun p hp q hq hpq j hj e => ?_⟩
  · rw [addD_keys, addS_mem, kvsD_keys _ _ hI.1]
    constructor
    · rintro (h | rfl)
      · obtain ⟨r, hr, rfl⟩ := List.mem_map.1 h
        by_cases es : r.1 = s
        · exact List.mem_map.2 ⟨(s, g), hx, by simp [nmT, es]⟩
        · exact List.mem_map.2 ⟨r, putNam_mem.2 (.inr ⟨hr, es⟩), rfl⟩
      · exact List.mem_map.2 ⟨(s, g), hx, rfl⟩
    · intro h
      obtain ⟨r, hr, rfl⟩ := List.mem_map.1 h
      rcases putNam_mem.1 hr with ⟨_, rfl⟩ | ⟨hr, _⟩
      · exact .inr rfl
      · exact .inl (List.mem_map.2 ⟨r, hr, rfl⟩)
  · rcases putNam_mem.1 hr with ⟨_, rfl⟩ | ⟨hr, hne⟩
    · exact ⟨v, addD_self, hv⟩
    · obtain ⟨i, hi⟩ := List.mem_iff_getElem?.1 hr
      have hil : i < us.length := by rw [hI.1]; exact (List.getElem?_eq_some_iff.1 hi).1
      have hu : us[i]? = some (us[i]'hil) := List.getElem?_eq_getElem _
      exact ⟨_, addD_old (kvsD_mem ts us hI.1 i r _ hi hu) (fun e => hne (nm_inj e)), hI.2.1 i _ r hu hi⟩
  · rcases addD_mem hp with rfl | ⟨_, hp⟩
    · rcases addD_mem hq with rfl | ⟨_, hq⟩
      · exact hpq rfl
      · obtain ⟨i, t, h1, h2, h3⟩ := kvsD_inv hq
        exact hfar _ (List.mem_of_getElem? h2) j e hj
    · obtain ⟨i, t, h1, h2, h3⟩ := kvsD_inv hp
      rcases addD_mem hq with rfl | ⟨_, hq⟩
      · exact hfar _ (List.mem_of_getElem? h2) j hj e
      · obtain ⟨i', t', h1', h2', h3'⟩ := kvsD_inv hq
        have hne : i ≠ i' := by
          rintro rfl
          rw [h1] at h1'
          obtain rfl := Option.some.inj h1'
          exact hpq (h3.trans h3'.symm)
        have hpw := List.pairwise_iff_getElem.1 hI.2.2
        obtain ⟨l1, e1⟩ := List.getElem?_eq_some_iff.1 h2
        obtain ⟨l2, e2⟩ := List.getElem?_eq_some_iff.1 h2'
        rcases Nat.lt_or_gt_of_ne hne with z | z
        · exact hpw i i' l1 l2 z j (by rw [e1]; exact hj) (by rw [e2]; exact e)
        · exact hpw i' i l2 l1 z j (by rw [e2]; exact e) (by rw [e1]; exact hj)
theorem MapIs.update {B b : Nat} {w w' : World} {kvs : List (Txt × Value)} {P : List NamV} (h : MapIs B w kvs P) (hg : w.grownBy w' (some b)) (hb : ∃ es c, w.heap[b]? = some (.map es c)) : MapIs B w' kvs P :=
  ⟨h.1, fun r hr => by
    obtain ⟨u, h1, h2⟩ := h.2.1 r hr
    exact ⟨u, h1, World.ownsRow.kept h2 hg (row_no_map h2 hb)⟩, h.2.2⟩
theorem mapIs_len {w : World} {b n B : Nat} {kvs : List (Txt × Value)} {P : List NamV} (hM : OwnMapD w b n kvs) (h : MapIs B w kvs P) (hR : RisN P) : kvs.length = P.length := by
  have := ((List.perm_ext_iff_of_nodup hM.nodup (risN_iff.2 hR).nodup).2 h.1).length_eq
  rwa [List.length_map, List.length_map] at this
theorem graphAt_or : ∀ (ts : List NamV) (s : ByteArray), graphAt ts s = [] ∨ ∃ t ∈ ts, t.1 = s
  | [], _ => .inl rfl
  | r :: rs, s => by
    unfold graphAt
    split
    · exact .inr ⟨r, by simp, by assumption⟩
    · rcases graphAt_or rs s with h | ⟨t, ht, e⟩
      · exact .inl h
      · exact .inr ⟨t, by simp [ht], e⟩
section
variable (w : World) {ops : Array Oper} {rest : List Oper} {o : Oper} {a : Act} {Q : Exit → Act → World → Prop}
theorem wpList_countD (hg : o.guard = none) (m : Operand) (hop : o.op = Op.call { callee := Callee.builtin Builtin.len, args := #[m], argTypes := #[58] }) (b n : Nat) (kvs : List (Txt × Value)) (hm : a.eval m = .map (some b)) (h : OwnMapD w b n kvs)
    (hK : wpList Tryz.prog ops Q rest (a.put o.dst (.int .i64 kvs.length)) w) : wpList Tryz.prog ops Q (o :: rest) a w := by
  obtain ⟨D, hown, hD⟩ := h
  refine wpList_len_own w hg m _ hop _ 33 Tryz.underlying58 valD b n D hm hown ?_
  rw [hD.size]; exact hK
/-- The graph at a name, or none. -/
theorem wpList_atD (hg : o.guard = none) (m x : Operand) (hop : o.op = Op.lookup 58 m x false) (B b n : Nat) (ts : List NamV) (us : List Value) (hm : a.eval m = .map (some b)) (h : OwnMapD w b n (kvsD ts us)) (hI : InnN B w ts us) (hnd : (ts.map nmT).Nodup) (hsm : SmAllN ts) (s : ByteArray) (hs : s.size ≤ maxLen)
    (hx : a.eval x = .string s) (hK : ∀ (ua : Option Addr) (un uc : Nat), IsTris w ua un uc (graphAt ts s) → wpList Tryz.prog ops Q rest (a.put o.dst (.slice ua un uc)) w) : wpList Tryz.prog ops Q (o :: rest) a w := by
  by_cases hin : s.data.toList ∈ ts.map nmT
  · obtain ⟨t, htm, hts⟩ := List.mem_map.1 hin
    obtain rfl : t.1 = s := nm_inj hts
    obtain ⟨i, hi⟩ := List.mem_iff_getElem?.1 htm
    have hil : i < us.length := by rw [hI.1]; exact (List.getElem?_eq_some_iff.1 hi).1
    have hu : us[i]? = some (us[i]'hil) := List.getElem?_eq_getElem _
    obtain ⟨a', c', e, hi'⟩ := (hI.2.1 i _ t hu hi).is (hsm t htm).2
    refine wpList_lookD w hg m x hop b n _ hm h t.1 hs _ (kvsD_mem ts us hI.1 i t _ hi hu) hx (by kernel_rfl) ?_
    rw [e]
    exact hK _ _ _ (by rw [graphAt_nodup ts hnd t htm]; exact hi')
  · refine wpList_missD w hg m x hop b n _ hm h s hs (by rw [kvsD_keys _ _ hI.1]; exact hin) hx (by kernel_rfl) ?_
    refine hK _ _ _ ?_
    have e : graphAt ts s = [] := by
      rcases graphAt_or ts s with e | ⟨t, ht, rfl⟩
      · exact e
      · exact absurd (List.mem_map.2 ⟨t, ht, rfl⟩) hin
    rw [e]
    exact .inl ⟨rfl, rfl, rfl, rfl⟩
end
set_option maxRecDepth 100000 in
set_option maxHeartbeats 3200000 in
theorem implDataWith (a : Option Addr) (len cap : Nat) (ts : List NamV) (s t0 t1 t2 : ByteArray) (w : World) (h : IsNams w a len cap ts) (hs : SmN ts) (hsz : s.size ≤ 1048576) (ht : t0.size + t1.size + t2.size ≤ 1048576) (htot : totN ts ≤ 1048576) :
    Calls Tryz.prog 9 #[.slice a len cap, .string s, .agg #[.string t0, .string t1, .string t2]] w (ResN (dataWith ts s (t0, t1, t2)) w) := by
  have X0 := Box.new w (.string t0) (.string t1) (.string t2) 26
  have B0 := (Below.refl w.heap.size w).alloc (Nat.le_refl _) (.cells #[.string t0, .string t1, .string t2] 26)
  have H0 := h.next B0
  have HS := Lib.hid hs
  have HX0 := Lib.hid X0
  clear h
  cases hq : dataOk ts
  · have HC := Lib.hid (implDatasetNo a len cap ts _ H0 hs hq)
    have HG : Hid (dataWith ts s (t0, t1, t2) = none) := Lib.hid (by unfold dataWith; rw [if_neg]; intro h; rw [hq] at h; exact Bool.noConfusion h.1)
    clear hq hs X0 H0
    go_enter Tryz.func9, Tryz.ntmps9
    go_wp2_with fail
    refine HC.out.mono ?_
    rintro e w1 ⟨rfl, hb1⟩
    have B1 := B0.trans (hb1.mono B0.size)
    go_wp2_with fail
    go_ret2
    rw [HG.out]
    exact ResN.no B1
  have DC := implDatasetOf a len cap ts _ H0 hs htot hq
  unfold DsPost at DC
  rw [World.size_alloc] at DC
  have HC := Lib.hid DC
  obtain ⟨kk, hkk⟩ : ∃ k, kindL s.data.toList = k := ⟨_, rfl⟩
  have V0 := implKindOf s (by omega)
  rw [hkk] at V0
  have HV := Lib.hid V0
  by_cases hk1 : kk = 1
  rotate_left
  · have hk2 : ¬ ((kk : Nat) : Int) = 1 := by omega
    have HG : Hid (dataWith ts s (t0, t1, t2) = none) := Lib.hid (by unfold dataWith; rw [if_neg]; intro h; rw [hkk] at h; exact hk1 h.2)
    clear hq hs X0 H0 hkk V0 DC
    go_enter Tryz.func9, Tryz.ntmps9
    go_wp2_with fail
    refine HC.out.mono ?_
    rintro e w1 ⟨b, us, rfl, _, hbb, hb1⟩
    have B1 := B0.trans (hb1.mono (by omega))
    go_wp2_with fail
    refine (HV.out _).mono ?_
    rintro e w2 ⟨rfl, hb2⟩
    have B2 := B1.trans (hb2.mono B1.size)
    go_wp2_with fail
    go_ret2
    rw [HG.out]
    exact ResN.no B2
  subst hk1
  have HD : Hid (dataWith ts s (t0, t1, t2) = (match withT (graphAt ts s) (t0, t1, t2) with
    | none => none
    | some g => if dataOk (putNam ts (s, g)) = true then some (putNam ts (s, g)) else none)) := Lib.hid (by unfold dataWith; rw [if_pos ⟨hq, hkk⟩]; cases withT (graphAt ts s) (t0, t1, t2) <;> rfl)
  have HGM : Hid (Sm (graphAt ts s)) := Lib.hid (fun u hu => by have := graphAt_sm hs s u hu; omega)
  have HND := Lib.hid (risN_iff.2 (dataOk_ris hq)).nodup
  have HOK : Hid (∀ g, withT (graphAt ts s) (t0, t1, t2) = some g → g.length ≠ 0 ∧ dataOk (putNam ts (s, g)) = decide ((putNam ts (s, g)).length ≤ 6)) := Lib.hid (fun g hg => by
    obtain ⟨_, _, e, ho⟩ := withT_some hg
    refine ⟨fun e0 => ?_, dataOk_put hq hkk ho⟩
    have hm : (t0, t1, t2) ∈ g := by rw [e]; exact putT_mem.2 (.inl rfl)
    rw [List.length_eq_zero_iff.1 e0] at hm
    simp at hm)
  have HR : Hid (∀ g, RisN (putNam ts (s, g))) := Lib.hid (fun g => putNam_ris _ hq)
  have HPL : Hid (∀ g, (putNam ts (s, g)).length ≤ 1000) := Lib.hid (fun g => by
    have h1 := putGo_len (s, g) ts (decide ((s, g).2.length = 0))
    have h2 : ts.length ≤ 6 := by unfold dataOk at hq; rw [Bool.and_eq_true, decide_eq_true_eq] at hq; exact hq.1
    have h3 : (putNam ts (s, g)).length ≤ ts.length + 1 := by unfold putNam; refine Nat.le_trans h1 ?_; split <;> omega
    omega)
  have HPZ : Hid (∀ g, ∀ r ∈ putNam ts (s, g), r.1.size ≤ maxLen) := Lib.hid (fun g r hr => by
    rcases putNam_mem.1 hr with ⟨_, rfl⟩ | ⟨hr, _⟩
    · unfold maxLen; simp only; omega
    · have := (hs r hr).1; unfold maxLen; omega)
  have htl : ts.length < maxLen := by
    have h2 : ts.length ≤ 6 := by unfold dataOk at hq; rw [Bool.and_eq_true, decide_eq_true_eq] at hq; exact hq.1
    unfold maxLen; omega
  have hsm : s.size ≤ maxLen := by unfold maxLen; omega
  clear hq hs X0 H0 hkk V0 DC
  go_enter Tryz.func9, Tryz.ntmps9
  go_wp2_with fail
  refine HC.out.mono ?_
  rintro e w1 ⟨b, us, rfl, ⟨hM, hI⟩, hbb, hb1⟩
  have B1 := B0.trans (hb1.mono (by omega))
  have X1 := HX0.out.next (hb1.mono (by rw [World.size_alloc]; exact Nat.le_refl _))
  clear hb1 HC
  go_wp2_with fail
  refine (HV.out _).mono ?_
  rintro e w2 ⟨rfl, hb2⟩
  have B2 := B1.trans (hb2.mono B1.size)
  have X2 := X1.next hb2
  have M2 := Lib.hid (hM.next hb2)
  have I2 := Lib.hid (hI.next hb2)
  obtain ⟨c0, c1, c2⟩ := X2.cells
  clear hb2 hM hI X1 B1 HV
  go_wp2_with (at_lookup; refine wpList_atD _ rfl _ _ rfl (w.heap.size + 1) b ts.length ts us rfl M2.out I2.out HND.out HS.out.all s hsm rfl ?_)
  intro ua un uc hi
  have HW := Lib.hid (implWith ua un uc (graphAt ts s) t0 t1 t2 w2 hi HGM.out (by omega) (by omega) (by omega))
  clear hi
  go_wp2_with fail
  refine HW.out.mono ?_
  rintro e w3 ⟨rv, rfl, ow, hb3⟩
  have B3 := B2.trans (hb3.mono B2.size)
  have M3 := Lib.hid (M2.out.next hb3)
  have I3 := Lib.hid (I2.out.next hb3)
  have HLT := Lib.hid I2.out.lt
  have OW := Lib.hid ow
  clear hb3 ow HW c0 c1 c2 X2
  cases hw : withT (graphAt ts s) (t0, t1, t2) with
  | none =>
    have HG : Hid (dataWith ts s (t0, t1, t2) = none) := Lib.hid (by rw [HD.out, hw])
    simp only [Option.isSome_none]
    go_wp2_with fail
    go_ret2
    rw [HG.out]
    exact ResN.no B3
  | some g =>
    obtain ⟨hg0, hok⟩ := HOK.out g hw
    have HG : Hid (dataWith ts s (t0, t1, t2) = if (putNam ts (s, g)).length ≤ 6 then some (putNam ts (s, g)) else none) := Lib.hid (by rw [HD.out, hw]; simp only [hok, decide_eq_true_eq])
    rw [hw] at OW
    simp only [Option.getD_some] at OW
    simp only [Option.isSome_some]
    have hz2 := B2.size
    have MI : MapIs w.heap.size w3 (addD (kvsD ts us) s.data.toList rv) (putNam ts (s, g)) := mapIs_put (I3.out.base (Nat.le_succ _)) (own_base OW.out hz2) (fun u hu j hj e => by
      have h1 := (HLT.out u hu j hj).2
      have h2 := (World.ownsRow.lt OW.out j e).1
      omega) hg0
    have HMI := Lib.hid MI
    have HRR := Lib.hid (HR.out g)
    have HLL := HPL.out g
    have HZZ := Lib.hid (HPZ.out g)
    generalize putNam ts (s, g) = P at HG HMI HRR HLL HZZ
    clear hw MI hok HD HOK HR HPL HPZ OW I3 HLT
    go_wp2_with (at_mapUpdate; refine wpList_putD _ rfl _ _ _ rfl b ts.length (kvsD ts us) rfl M3.out htl s hsm rfl rv rfl ?_)
    intro w4 M4 g4
    have MI4 := Lib.hid (HMI.out.update g4 M3.out.isMap)
    have B4 : Below w.heap.size w w4 := B3.grown g4 B3.size (fun j hj => by cases hj; omega)
    have hkl := mapIs_len M4 MI4.out HRR.out
    have HM4 := Lib.hid M4
    have CI := Lib.hid (implInOrderD w.heap.size b _ _ P w4 B4.size M4 MI4.out.1 MI4.out.2.1 MI4.out.2.2 (risN_iff.2 HRR.out) HLL HZZ.out)
    clear M4 g4 HMI M3
    by_cases h6 : P.length ≤ 6
    · have h7 : ¬ (6 : Int) < ((addD (kvsD ts us) s.data.toList rv).length : Int) := by omega
      have HN : Hid (dataWith ts s (t0, t1, t2) = some P) := Lib.hid (by rw [HG.out, if_pos h6])
      go_wp2_with (at_len; refine wpList_countD _ rfl _ rfl b _ _ rfl HM4.out ?_)
      go_wp2_with fail
      refine CI.out.mono ?_
      rintro e w5 ⟨pv, rfl, op, hb5⟩
      have B5 := B4.trans (hb5.mono B4.size)
      have OP := Lib.hid op
      clear op hb5 CI
      go_wp2_with fail
      go_ret2
      rw [HN.out]
      exact ResN.yes OP.out B5
    · have h7 : (6 : Int) < ((addD (kvsD ts us) s.data.toList rv).length : Int) := by omega
      have HN : Hid (dataWith ts s (t0, t1, t2) = none) := Lib.hid (by rw [HG.out, if_neg h6])
      go_wp2_with (at_len; refine wpList_countD _ rfl _ rfl b _ _ rfl HM4.out ?_)
      go_wp2_with fail
      go_ret2
      rw [HN.out]
      exact ResN.no B4
end Go.Proofs.YtnjphlaohihbaaaGreat
/- A triple taken out of a dataset's graph: the program. -/
namespace Go.Proofs.YtnjphlaohihbaaaGreat
open Go.RowKit Go.WideShapes Go.Maps
theorem filtD_len {t : Txt} : ∀ {kvs : List (Txt × Value)}, (kvs.map Prod.fst).Nodup → t ∈ kvs.map Prod.fst → (kvs.filter (fun p => decide (p.1 ≠ t))).length + 1 = kvs.length
  | [], _, h => by simp at h
  | x :: r, hn, h => by
    rw [List.map_cons] at hn h
    obtain ⟨h1, h2⟩ := List.nodup_cons.1 hn
    by_cases e : x.1 = t
    · have : r.filter (fun p => decide (p.1 ≠ t)) = r := List.filter_eq_self.2 fun p hp => decide_eq_true (fun g => h1 (List.mem_map.2 ⟨p, hp, by rw [g, e]⟩))
      rw [List.filter_cons, if_neg (by simp [e]), this]
      rfl
    · have hr : t ∈ r.map Prod.fst := by
        rcases List.mem_cons.1 h with h | h
        · exact absurd h.symm e
        · exact h
      have := filtD_len h2 hr
      rw [List.filter_cons, if_pos (by simp [e]), List.length_cons, List.length_cons]
      omega
/-- The entries without a text's. -/
def strikeD (kvs : List (Txt × Value)) (t : Txt) : List (Txt × Value) := kvs.filter (fun p => decide (p.1 ≠ t))
theorem filtD_none {t : Txt} {kvs : List (Txt × Value)} (h : t ∉ kvs.map Prod.fst) : kvs.filter (fun p => decide (p.1 ≠ t)) = kvs := List.filter_eq_self.2 fun p hp => decide_eq_true (fun e => h (List.mem_map.2 ⟨p, hp, e⟩))
theorem MapOfD.del {D : DataW Value} {kvs : List (Txt × Value)} (h : MapOfD D kvs) (hT : Tidy D) (t : Txt) : MapOfD (D.del (litS t)) (strikeD kvs t) := by
  unfold strikeD
  have hm := h.mem t
  have hin : ∀ p, p ∈ kvs.filter (fun p => decide (p.1 ≠ t)) ↔ p ∈ kvs ∧ p.1 ≠ t := fun p => by rw [List.mem_filter, decide_eq_true_eq]
  refine ⟨(List.filter_sublist.map Prod.fst).nodup h.nodup, fun kl => ?_, ?_, fun p hp z => ?_⟩
  · by_cases e : kl = litS t
    · subst e
      rw [has_del_same]
      refine ⟨(fun h => by cases h), fun ⟨u, hu, hk⟩ => ?_⟩
      obtain ⟨p, hp, rfl⟩ := List.mem_map.1 hu
      exact absurd (litS_inj hk).symm ((hin p).1 hp).2
    · rw [has_del_other e, h.has]
      constructor
      · rintro ⟨u, hu, rfl⟩
        obtain ⟨p, hp, rfl⟩ := List.mem_map.1 hu
        exact ⟨p.1, List.mem_map.2 ⟨p, (hin p).2 ⟨hp, fun g => e (by rw [g])⟩, rfl⟩, rfl⟩
      · rintro ⟨u, hu, rfl⟩
        obtain ⟨p, hp, rfl⟩ := List.mem_map.1 hu
        exact ⟨p.1, List.mem_map.2 ⟨p, ((hin p).1 hp).1, rfl⟩, rfl⟩
  · have := size_del (k := litS t) hT
    rw [hm, h.size] at this
    by_cases g : t ∈ kvs.map Prod.fst
    · have := filtD_len h.nodup g
      simp only [g, decide_true, if_true] at *; omega
    · rw [filtD_none g]
      simp only [g, decide_false, Bool.false_eq_true, if_false] at *; omega
  · obtain ⟨h1, h2⟩ := (hin p).1 hp
    rw [atKey_del_other (fun e => h2 (litS_inj e))]
    exact h.val p h1 z
section
variable (w : World) {ops : Array Oper} {rest : List Oper} {o : Oper} {a : Act} {Q : Exit → Act → World → Prop}
/-- A text is struck. -/
theorem wpList_dropD (hg : o.guard = none) (m x : Operand) (hop : o.op = Op.call { callee := Callee.builtin Builtin.delete, args := #[m, x], argTypes := #[58, 9] }) (b n : Nat) (kvs : List (Txt × Value)) (hm : a.eval m = .map (some b)) (h : OwnMapD w b n kvs)
    (t : ByteArray) (ht : t.size ≤ maxLen) (hx : a.eval x = .string t) (hK : ∀ w', OwnMapD w' b n (strikeD kvs t.data.toList) → w.grownBy w' (some b) → wpList Tryz.prog ops Q rest (a.put o.dst (.tuple #[])) w') : wpList Tryz.prog ops Q (o :: rest) a w := by
  obtain ⟨D, hown, hD⟩ := h
  exact wpList_delete_own w hg m x _ _ hop 33 lawTxt Tryz.underlying58 valD b n D hm hown _ (litS t.data.toList) hx (Go.WideMaps.keyOf_string_mk Tryz.underlying9 ht) (fun w' h1 h2 => hK w' ⟨_, h1, hD.del (hown.tidy lawTxt) _⟩ h2.grown)
end
theorem mapIs_less {B : Nat} {w : World} {ts : List NamV} {us : List Value} {s : ByteArray} {v : Value} {g : List Tri3} (hI : InnN B w ts us) (hg : g.length = 0) : MapIs B w (strikeD (addD (kvsD ts us) s.data.toList v) s.data.toList) (putNam ts (s, g)) := by
  unfold strikeD
  have hin : ∀ p, p ∈ (addD (kvsD ts us) s.data.toList v).filter (fun p => decide (p.1 ≠ s.data.toList)) → p ∈ kvsD ts us ∧ p.1 ≠ s.data.toList := fun p hp => by
    rw [List.mem_filter, decide_eq_true_eq] at hp
    rcases addD_mem hp.1 with rfl | ⟨_, h⟩
    · exact absurd rfl hp.2
    · exact ⟨h, hp.2⟩
  have hput : ∀ r, r ∈ putNam ts (s, g) ↔ r ∈ ts ∧ r.1 ≠ s := fun r => by
    rw [putNam_mem]
    exact ⟨fun h => by rcases h with ⟨h, _⟩ | h; exact absurd hg h; exact h, .inr⟩
  have hval : ∀ r ∈ ts, r.1 ≠ s → ∃ u, (nmT r, u) ∈ (addD (kvsD ts us) s.data.toList v).filter (fun p => decide (p.1 ≠ s.data.toList)) ∧ OwnT B w u r.2 := fun r hr hne => by
    obtain ⟨i, hi⟩ := List.mem_iff_getElem?.1 hr
    have hil : i < us.length := by rw [hI.1]; exact (List.getElem?_eq_some_iff.1 hi).1
    have hu : us[i]? = some (us[i]'hil) := List.getElem?_eq_getElem _
    have hn : nmT r ≠ s.data.toList := fun e => hne (nm_inj e)
    exact ⟨_, List.mem_filter.2 ⟨addD_old (kvsD_mem ts us hI.1 i r _ hi hu) hn, decide_eq_true hn⟩, hI.2.1 i _ r hu hi⟩
  refine ⟨fun t => ⟨fun h => ?_, fun h => ?_⟩, fun r hr => hval r ((hput r).1 hr).1 ((hput r).1 hr).2, fun p hp q hq hpq j hj e => ?_⟩
  · obtain ⟨p, hp, rfl⟩ := List.mem_map.1 h
    obtain ⟨hp, hne⟩ := hin p hp
    obtain ⟨i, r, h1, h2, h3⟩ := kvsD_inv hp
    exact List.mem_map.2 ⟨r, (hput r).2 ⟨List.mem_of_getElem? h1, fun e => hne (by rw [h3, nmT, e])⟩, h3.symm⟩
  · obtain ⟨r, hr, rfl⟩ := List.mem_map.1 h
    obtain ⟨u, h1, _⟩ := hval r ((hput r).1 hr).1 ((hput r).1 hr).2
    exact List.mem_map.2 ⟨_, h1, rfl⟩
  · obtain ⟨i, t, h1, h2, h3⟩ := kvsD_inv (hin p hp).1
    obtain ⟨i', t', h1', h2', h3'⟩ := kvsD_inv (hin q hq).1
    have hne : i ≠ i' := by
      rintro rfl
      rw [h1] at h1'
      obtain rfl := Option.some.inj h1'
      exact hpq (h3.trans h3'.symm)
    have hpw := List.pairwise_iff_getElem.1 hI.2.2
    obtain ⟨l1, e1⟩ := List.getElem?_eq_some_iff.1 h2
    obtain ⟨l2, e2⟩ := List.getElem?_eq_some_iff.1 h2'
    rcases Nat.lt_or_gt_of_ne hne with z | z
    · exact hpw i i' l1 l2 z j (by rw [e1]; exact hj) (by rw [e2]; exact e)
    · exact hpw i' i l2 l1 z j (by rw [e2]; exact e) (by rw [e1]; exact hj)
set_option maxRecDepth 100000 in
set_option maxHeartbeats 3200000 in
theorem implDataWithout (a : Option Addr) (len cap : Nat) (ts : List NamV) (s t0 t1 t2 : ByteArray) (w : World) (h : IsNams w a len cap ts) (hs : SmN ts) (hsz : s.size ≤ 1048576) (ht : t0.size + t1.size + t2.size ≤ 1048576) (htot : totN ts ≤ 1048576) :
    Calls Tryz.prog 20 #[.slice a len cap, .string s, .agg #[.string t0, .string t1, .string t2]] w (ResN (dataWithout ts s (t0, t1, t2)) w) := by
  have X0 := Box.new w (.string t0) (.string t1) (.string t2) 26
  have B0 := (Below.refl w.heap.size w).alloc (Nat.le_refl _) (.cells #[.string t0, .string t1, .string t2] 26)
  have H0 := h.next B0
  have HS := Lib.hid hs
  have HX0 := Lib.hid X0
  clear h
  cases hq : dataOk ts
  · have HC := Lib.hid (implDatasetNo a len cap ts _ H0 hs hq)
    have HG : Hid (dataWithout ts s (t0, t1, t2) = none) := Lib.hid (by unfold dataWithout; rw [if_neg]; intro h; rw [hq] at h; exact Bool.noConfusion h)
    clear hq hs X0 H0
    go_enter Tryz.func20, Tryz.ntmps20
    go_wp2_with fail
    refine HC.out.mono ?_
    rintro e w1 ⟨rfl, hb1⟩
    have B1 := B0.trans (hb1.mono B0.size)
    go_wp2_with fail
    go_ret2
    rw [HG.out]
    exact ResN.no B1
  have DC := implDatasetOf a len cap ts _ H0 hs htot hq
  unfold DsPost at DC
  rw [World.size_alloc] at DC
  have HC := Lib.hid DC
  have HD : Hid (dataWithout ts s (t0, t1, t2) = (match withoutT (graphAt ts s) (t0, t1, t2) with
    | none => none
    | some g => some (putNam ts (s, g)))) := Lib.hid (by unfold dataWithout; rw [if_pos hq]; cases withoutT (graphAt ts s) (t0, t1, t2) <;> rfl)
  have HGM : Hid (Sm (graphAt ts s)) := Lib.hid (fun u hu => by have := graphAt_sm hs s u hu; omega)
  have HND := Lib.hid (risN_iff.2 (dataOk_ris hq)).nodup
  have HR : Hid (∀ g, RisN (putNam ts (s, g))) := Lib.hid (fun g => putNam_ris _ hq)
  have HGL : Hid (∀ g, withoutT (graphAt ts s) (t0, t1, t2) = some g → g.length ≤ 80) := Lib.hid (fun g hg => graphOk_len (withoutT_some hg).2.2.2)
  have HPL : Hid (∀ g, (putNam ts (s, g)).length ≤ 1000) := Lib.hid (fun g => by
    have h1 := putGo_len (s, g) ts (decide ((s, g).2.length = 0))
    have h2 : ts.length ≤ 6 := by unfold dataOk at hq; rw [Bool.and_eq_true, decide_eq_true_eq] at hq; exact hq.1
    have h3 : (putNam ts (s, g)).length ≤ ts.length + 1 := by unfold putNam; refine Nat.le_trans h1 ?_; split <;> omega
    omega)
  have HPZ : Hid (∀ g, ∀ r ∈ putNam ts (s, g), r.1.size ≤ maxLen) := Lib.hid (fun g r hr => by
    rcases putNam_mem.1 hr with ⟨_, rfl⟩ | ⟨hr, _⟩
    · unfold maxLen; simp only; omega
    · have := (hs r hr).1; unfold maxLen; omega)
  have htl : ts.length < maxLen := by
    have h2 : ts.length ≤ 6 := by unfold dataOk at hq; rw [Bool.and_eq_true, decide_eq_true_eq] at hq; exact hq.1
    unfold maxLen; omega
  have hsm : s.size ≤ maxLen := by unfold maxLen; omega
  clear hq hs X0 H0 DC
  go_enter Tryz.func20, Tryz.ntmps20
  go_wp2_with fail
  refine HC.out.mono ?_
  rintro e w2 ⟨b, us, rfl, ⟨hM, hI⟩, hbb, hb1⟩
  have B2 := B0.trans (hb1.mono (by omega))
  have X2 := HX0.out.next (hb1.mono (by rw [World.size_alloc]; exact Nat.le_refl _))
  have M2 := Lib.hid hM
  have I2 := Lib.hid hI
  obtain ⟨c0, c1, c2⟩ := X2.cells
  clear hb1 HC hM hI
  go_wp2_with (at_lookup; refine wpList_atD _ rfl _ _ rfl (w.heap.size + 1) b ts.length ts us rfl M2.out I2.out HND.out HS.out.all s hsm rfl ?_)
  intro ua un uc hi
  have HW := Lib.hid (implWithout ua un uc (graphAt ts s) t0 t1 t2 w2 hi HGM.out (by omega) (by omega) (by omega))
  clear hi
  go_wp2_with fail
  refine HW.out.mono ?_
  rintro e w3 ⟨rv, rfl, ow, hb3⟩
  have B3 := B2.trans (hb3.mono B2.size)
  have M3 := Lib.hid (M2.out.next hb3)
  have I3 := Lib.hid (I2.out.next hb3)
  have HLT := Lib.hid I2.out.lt
  have OW := Lib.hid ow
  clear hb3 ow HW c0 c1 c2 X2
  cases hw : withoutT (graphAt ts s) (t0, t1, t2) with
  | none =>
    have HG : Hid (dataWithout ts s (t0, t1, t2) = none) := Lib.hid (by rw [HD.out, hw])
    simp only [Option.isSome_none]
    go_wp2_with fail
    go_ret2
    rw [HG.out]
    exact ResN.no B3
  | some g =>
    have HG : Hid (dataWithout ts s (t0, t1, t2) = some (putNam ts (s, g))) := Lib.hid (by rw [HD.out, hw])
    have hg80 := HGL.out g hw
    rw [hw] at OW
    simp only [Option.getD_some] at OW
    simp only [Option.isSome_some]
    have hz2 := B2.size
    obtain ⟨ra, rc, rfl⟩ := own_slice_len OW.out
    have HRR := Lib.hid (HR.out g)
    have HLL := HPL.out g
    have HZZ := Lib.hid (HPZ.out g)
    by_cases hg0 : g.length = 0
    · obtain rfl : g = [] := List.length_eq_zero_iff.1 hg0
      change Hid (OwnT _ w3 (.slice ra 0 rc) []) at OW
      have HMI := Lib.hid (mapIs_less (B := w.heap.size) (v := .slice ra 0 rc) (s := s) (I3.out.base (Nat.le_succ _)) hg0)
      generalize putNam ts (s, []) = P at HG HMI HRR HLL HZZ
      clear hw HD HR HPL HPZ HGL OW HLT
      go_wp2_with (at_mapUpdate; refine wpList_putD _ rfl _ _ _ rfl b ts.length (kvsD ts us) rfl M3.out htl s hsm rfl _ rfl ?_)
      intro w4 M4 g4
      have IM4 := M4.isMap
      have HM4 := Lib.hid M4
      have MI4 := Lib.hid (HMI.out.update g4 M3.out.isMap)
      have B4 : Below w.heap.size w w4 := B3.grown g4 B3.size (fun j hj => by cases hj; omega)
      clear M4 g4 HMI M3
      go_wp2_with (at_delete; refine wpList_dropD _ rfl _ _ rfl b _ _ rfl HM4.out s hsm rfl ?_)
      intro w5 M5 g5
      have MI5 := Lib.hid (MI4.out.update g5 IM4)
      have B5 : Below w.heap.size w w5 := B4.grown g5 B4.size (fun j hj => by cases hj; omega)
      have CI := Lib.hid (implInOrderD w.heap.size b _ _ P w5 B5.size M5 MI5.out.1 MI5.out.2.1 MI5.out.2.2 (risN_iff.2 HRR.out) HLL HZZ.out)
      clear M5 g5 HM4 MI4
      go_wp2_with fail
      refine CI.out.mono ?_
      rintro e w6 ⟨pv, rfl, op, hb6⟩
      have B6 := B5.trans (hb6.mono B5.size)
      have OP := Lib.hid op
      clear op hb6 CI
      go_wp2_with fail
      go_ret2
      rw [HG.out]
      exact ResN.yes OP.out B6
    · have hg1 : ¬ (g.length : Int) = 0 := by omega
      have MI : MapIs w.heap.size w3 (addD (kvsD ts us) s.data.toList (.slice ra g.length rc)) (putNam ts (s, g)) := mapIs_put (I3.out.base (Nat.le_succ _)) (own_base OW.out hz2) (fun u hu j hj e => by
        have h1 := (HLT.out u hu j hj).2
        have h2 := (World.ownsRow.lt OW.out j e).1
        omega) hg0
      have HMI := Lib.hid MI
      generalize putNam ts (s, g) = P at HG HMI HRR HLL HZZ
      clear hw MI HD HR HPL HPZ HGL OW HLT I3
      go_wp2_with (at_mapUpdate; refine wpList_putD _ rfl _ _ _ rfl b ts.length (kvsD ts us) rfl M3.out htl s hsm rfl _ rfl ?_)
      intro w4 M4 g4
      have MI4 := Lib.hid (HMI.out.update g4 M3.out.isMap)
      have B4 : Below w.heap.size w w4 := B3.grown g4 B3.size (fun j hj => by cases hj; omega)
      have CI := Lib.hid (implInOrderD w.heap.size b _ _ P w4 B4.size M4 MI4.out.1 MI4.out.2.1 MI4.out.2.2 (risN_iff.2 HRR.out) HLL HZZ.out)
      clear M4 g4 HMI M3
      go_wp2_with fail
      refine CI.out.mono ?_
      rintro e w5 ⟨pv, rfl, op, hb5⟩
      have B5 := B4.trans (hb5.mono B4.size)
      have OP := Lib.hid op
      clear op hb5 CI
      go_wp2_with fail
      go_ret2
      rw [HG.out]
      exact ResN.yes OP.out B5
end Go.Proofs.YtnjphlaohihbaaaGreat
