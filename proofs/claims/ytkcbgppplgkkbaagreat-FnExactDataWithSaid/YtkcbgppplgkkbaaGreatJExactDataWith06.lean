/- WithI, the rest. -/
import Derived.Test.YtkcbgppplgkkbaaGreatJExactDataWith04
import Derived.Test.YtkcbgppplgkkbaaGreatJExactDataWith01
import Derived.Test.YtkcbgppplgkkbaaGreatJExactDataWith02
import Derived.Test.YtkcbgppplgkkbaaGreatJExactDataWith05
import Derived.Test.YtkcbgppplgkkbaaGreatJExactDataWith00
import Derived.Test.YtkcbgppplgkkbaaGreatMarkK
import Derived.Test.YtkcbgppplgkkbaaGreatBox
import Derived.Deep.RegionHeld3
namespace Go.Proofs.YtkcbgppplgkkbaaGreat
open Go.RowKit Go.WideShapes Go.Maps
set_option maxRecDepth 100000 in
set_option maxHeartbeats 800000 in
theorem implGraphOf (b m : Nat) (ts : List Tri3) (w : World) (h : OwnSet w b m ts) (hm : m ≤ 1001) :
    Calls Tryz.prog 47 #[.map (some b)] w (ResPost (ofSet ts) w) := by
  have hle := h.size_le
  have C := Lib.hid (implInOrder b m ts w h (by omega))
  have H := Lib.hid h
  clear h
  by_cases g : (80 : Int) < (ts.length : Int)
  · have HR : Hid (ofSet ts = none) := Lib.hid (by unfold ofSet; rw [if_neg (by omega)])
    go_enter Tryz.func47, Tryz.ntmps47
    go_wp2_with (at_len; refine wpList_count _ rfl _ rfl b m ts rfl H.out ?_)
    go_wp2_with fail
    go_ret2
    rw [HR.out]
    exact ResPost.no (Below.refl _ _)
  · have HR : Hid (ofSet ts = some (sortT ts)) := Lib.hid (by unfold ofSet; rw [if_pos (by omega)])
    go_enter Tryz.func47, Tryz.ntmps47
    go_wp2_with (at_len; refine wpList_count _ rfl _ rfl b m ts rfl H.out ?_)
    go_wp2_with fail
    refine C.out.mono ?_
    rintro e w1 ⟨v, rfl, ho, hb⟩
    go_wp2_with fail
    go_ret2
    rw [HR.out]
    exact ResPost.yes ho hb
set_option maxRecDepth 100000 in
set_option maxHeartbeats 1600000 in
theorem implWith (a : Option Addr) (len cap : Nat) (ts : List Tri3) (s p o : ByteArray) (w : World) (h : IsTris w a len cap ts) (hsm : Sm ts) (hs : s.size ≤ 2097152) (hp : p.size ≤ 2097152) (ho : o.size ≤ 2097152) :
    Calls Tryz.prog 25 #[.slice a len cap, .agg #[.string s, .string p, .string o]] w (ResPost (withT ts (s, p, o)) w) := by
  have A1 := implGraphOk a len cap ts (w.alloc (.cells #[.string s, .string p, .string o] 31)) (h.next ((Below.refl w.heap.size w).alloc (Nat.le_refl _) _)) hsm
  have A2 := implTripleOk s p o hs hp ho
  change ∀ w, Calls _ _ _ w fun e w' => e = .returned (.bool (okT (s, p, o))) ∧ Below w.heap.size w w' at A2
  have B0 := (Below.refl w.heap.size w).alloc (Nat.le_refl _) (.cells #[.string s, .string p, .string o] 31)
  have X0 := Box.new w (.string s) (.string p) (.string o) 31
  have h0 := h.next B0
  cases hg : graphOk ts
  · rw [hg] at A1
    have HR : Hid (withT ts (s, p, o) = none) := Lib.hid (by unfold withT; rw [hg]; simp)
    have C1 := Lib.hid A1
    clear A1 A2 hg h h0 hsm X0
    go_enter Tryz.func25, Tryz.ntmps25
    go_wp2_with fail
    refine C1.out.mono ?_
    rintro e w1 ⟨rfl, hb1⟩
    go_wp2_with fail
    go_ret2
    rw [HR.out]
    exact ResPost.no (B0.trans (hb1.mono B0.size))
  rw [hg] at A1
  cases ht : okT (s, p, o)
  · rw [ht] at A2
    have HR : Hid (withT ts (s, p, o) = none) := Lib.hid (by unfold withT; rw [ht]; simp)
    have C1 := Lib.hid A1
    have C2 := Lib.hid A2
    clear A1 A2 hg ht h h0 hsm
    go_enter Tryz.func25, Tryz.ntmps25
    go_wp2_with fail
    refine C1.out.mono ?_
    rintro e w1 ⟨rfl, hb1⟩
    have X1 := X0.next hb1
    obtain ⟨c0, c1, c2⟩ := X1.cells
    have B1 := B0.trans (hb1.mono B0.size)
    clear X0 hb1 B0
    go_wp2_with fail
    refine (C2.out _).mono ?_
    rintro e w2 ⟨rfl, hb2⟩
    go_wp2_with fail
    go_ret2
    rw [HR.out]
    exact ResPost.no (B1.trans (hb2.mono B1.size))
  rw [ht] at A2
  have hl := h.len
  have hl80 := graphOk_len hg
  have hall : (allT [(a, len, cap, ts)]).length ≤ 1000 := by rw [allT_one]; omega
  have HW : Hid (∀ us : List Tri3, us.Nodup → (∀ u, u ∈ us ↔ u ∈ ts ∨ u = (s, p, o)) → ofSet us = withT ts (s, p, o)) := Lib.hid (fun us hn hm => ofSet_with hg ht hn hm)
  have hsk : SmK (s, p, o) := ⟨by unfold maxLen; simp only; omega, by unfold maxLen; simp only; omega, by unfold maxLen; simp only; omega⟩
  have C1 := Lib.hid A1
  have C2 := Lib.hid A2
  have HALL := Lib.hid hall
  clear A1 A2 hg ht h hsm hl hl80 hall
  go_enter Tryz.func25, Tryz.ntmps25
  go_wp2_with fail
  refine C1.out.mono ?_
  rintro e w1 ⟨rfl, hb1⟩
  have X1 := X0.next hb1
  have h1 := h0.next hb1
  obtain ⟨c0, c1, c2⟩ := X1.cells
  have B1 := B0.trans (hb1.mono B0.size)
  clear X0 hb1 B0 h0
  go_wp2_with fail
  refine (C2.out _).mono ?_
  rintro e w2 ⟨rfl, hb2⟩
  have X2 := X1.next hb2
  have h2 := h1.next hb2
  have B2 := B1.trans (hb2.mono B1.size)
  clear X1 hb2 B1 h1 c0 c1 c2
  have T := implTripleSet w2.heap.size 1 [(a, len, cap, ts)] (w2.alloc (.cells #[.slice a len cap] 42)) rfl (by simp) (by omega) HALL.out (fun i x hx => by
    match i, hx with
    | 0, hx =>
      simp at hx; subst hx
      exact ⟨by simp, h2.next ((Below.refl w2.heap.size w2).alloc (Nat.le_refl _) _)⟩)
  rw [allT_one] at T
  have CT := Lib.hid T
  have B3 := B2.alloc B2.size (.cells #[.slice a len cap] 42)
  have X3 := X2.alloc (.cells #[.slice a len cap] 42)
  clear T h2 X2 B2
  go_wp2_with fail
  refine CT.out.mono ?_
  rintro e w4 ⟨b, m, rfl, hbb, hm, hown, hb4⟩
  have X4 := X3.next hb4
  obtain ⟨c0, c1, c2⟩ := X4.cells
  have B4 := B3.trans (hb4.mono B3.size)
  have hbl : w.heap.size ≤ b := Nat.le_trans B3.size hbb
  have H4 := Lib.hid hown
  have hml : m < maxLen := by unfold maxLen; omega
  clear hown hb4 X3 B3 CT
  go_wp2_with (at_mapUpdate; refine wpList_putG _ rfl _ _ _ rfl b m (addAll [] ts) rfl H4.out hml (s, p, o) hsk rfl rfl ?_)
  intro w5 hown5 hg5
  have B5 : Below w.heap.size w w5 := B4.grown hg5 B4.size (fun r e => by cases e; exact hbl)
  have G := implGraphOf b (m + 1) _ w5 hown5 (by omega)
  rw [HW.out _ hown5.nodup (fun u => by rw [addT_mem, addAll_mem]; simp)] at G
  have CG := Lib.hid G
  clear G hown5 hg5 H4 B4 c0 c1 c2 X4
  go_wp2_with fail
  refine CG.out.mono ?_
  rintro e w6 hr
  obtain ⟨v, rfl, hv⟩ := hr.far B5
  go_wp2_with fail
  go_ret2
  exact ⟨v, rfl, hv⟩
open Go.RowKit Go.WideShapes Go.Maps
theorem zeroB (w : World) : (zeroValue 4).run Tryz.prog w = .ok (.bool false) w := by kernel_rfl
set_option maxRecDepth 100000 in
set_option maxHeartbeats 1600000 in
theorem implWithout (a : Option Addr) (len cap : Nat) (ts : List Tri3) (s p o : ByteArray) (w : World) (h : IsTris w a len cap ts) (hsm : Sm ts) (hs : s.size ≤ 2097152) (hp : p.size ≤ 2097152) (ho : o.size ≤ 2097152) :
    Calls Tryz.prog 32 #[.slice a len cap, .agg #[.string s, .string p, .string o]] w (ResPost (withoutT ts (s, p, o)) w) := by
  have A1 := implGraphOk a len cap ts (w.alloc (.cells #[.string s, .string p, .string o] 31)) (h.next ((Below.refl w.heap.size w).alloc (Nat.le_refl _) _)) hsm
  have A2 := implTripleOk s p o hs hp ho
  change ∀ w, Calls _ _ _ w fun e w' => e = .returned (.bool (okT (s, p, o))) ∧ Below w.heap.size w w' at A2
  have B0 := (Below.refl w.heap.size w).alloc (Nat.le_refl _) (.cells #[.string s, .string p, .string o] 31)
  have X0 := Box.new w (.string s) (.string p) (.string o) 31
  have h0 := h.next B0
  cases hg : graphOk ts
  · rw [hg] at A1
    have HR : Hid (withoutT ts (s, p, o) = none) := Lib.hid (by unfold withoutT; rw [hg]; simp)
    have C1 := Lib.hid A1
    clear A1 A2 hg h h0 hsm X0
    go_enter Tryz.func32, Tryz.ntmps32
    go_wp2_with fail
    refine C1.out.mono ?_
    rintro e w1 ⟨rfl, hb1⟩
    go_wp2_with fail
    go_ret2
    rw [HR.out]
    exact ResPost.no (B0.trans (hb1.mono B0.size))
  rw [hg] at A1
  cases ht : okT (s, p, o)
  · rw [ht] at A2
    have HR : Hid (withoutT ts (s, p, o) = none) := Lib.hid (by
      unfold withoutT
      rw [if_neg]
      rintro ⟨_, hm⟩
      rw [graphOk_okT hg _ hm] at ht
      cases ht)
    have C1 := Lib.hid A1
    have C2 := Lib.hid A2
    clear A1 A2 hg ht h h0 hsm
    go_enter Tryz.func32, Tryz.ntmps32
    go_wp2_with fail
    refine C1.out.mono ?_
    rintro e w1 ⟨rfl, hb1⟩
    have X1 := X0.next hb1
    obtain ⟨c0, c1, c2⟩ := X1.cells
    have B1 := B0.trans (hb1.mono B0.size)
    clear X0 hb1 B0
    go_wp2_with fail
    refine (C2.out _).mono ?_
    rintro e w2 ⟨rfl, hb2⟩
    go_wp2_with fail
    go_ret2
    rw [HR.out]
    exact ResPost.no (B1.trans (hb2.mono B1.size))
  rw [ht] at A2
  have hl := h.len
  have hl80 := graphOk_len hg
  have hall : (allT [(a, len, cap, ts)]).length ≤ 1000 := by rw [allT_one]; omega
  have HW : Hid ((s, p, o) ∈ ts → ∀ us : List Tri3, us.Nodup → (∀ u, u ∈ us ↔ u ≠ (s, p, o) ∧ u ∈ ts) → ofSet us = withoutT ts (s, p, o)) := Lib.hid (fun hin us hn hm => ofSet_without hg hin hn hm)
  have HN : Hid ((s, p, o) ∉ ts → withoutT ts (s, p, o) = none) := Lib.hid (fun hin => by unfold withoutT; rw [if_neg (fun h => hin h.2)])
  have hsk : SmK (s, p, o) := ⟨by unfold maxLen; simp only; omega, by unfold maxLen; simp only; omega, by unfold maxLen; simp only; omega⟩
  have C1 := Lib.hid A1
  have C2 := Lib.hid A2
  have HALL := Lib.hid hall
  have HZ := Lib.hid zeroB
  clear A1 A2 hg ht h hsm hl hl80 hall
  go_enter Tryz.func32, Tryz.ntmps32
  go_wp2_with fail
  refine C1.out.mono ?_
  rintro e w1 ⟨rfl, hb1⟩
  have X1 := X0.next hb1
  have h1 := h0.next hb1
  obtain ⟨c0, c1, c2⟩ := X1.cells
  have B1 := B0.trans (hb1.mono B0.size)
  clear X0 hb1 B0 h0
  go_wp2_with fail
  refine (C2.out _).mono ?_
  rintro e w2 ⟨rfl, hb2⟩
  have X2 := X1.next hb2
  have h2 := h1.next hb2
  have B2 := B1.trans (hb2.mono B1.size)
  clear X1 hb2 B1 h1 c0 c1 c2
  have T := implTripleSet w2.heap.size 1 [(a, len, cap, ts)] (w2.alloc (.cells #[.slice a len cap] 42)) rfl (by simp) (by omega) HALL.out (fun i x hx => by
    match i, hx with
    | 0, hx =>
      simp at hx; subst hx
      exact ⟨by simp, h2.next ((Below.refl w2.heap.size w2).alloc (Nat.le_refl _) _)⟩)
  rw [allT_one] at T
  have CT := Lib.hid T
  have B3 := B2.alloc B2.size (.cells #[.slice a len cap] 42)
  have X3 := X2.alloc (.cells #[.slice a len cap] 42)
  clear T h2 X2 B2
  go_wp2_with fail
  refine CT.out.mono ?_
  rintro e w4 ⟨b, m, rfl, hbb, hm, hown, hb4⟩
  have X4 := X3.next hb4
  obtain ⟨c0, c1, c2⟩ := X4.cells
  have B4 := B3.trans (hb4.mono B3.size)
  have hbl : w.heap.size ≤ b := Nat.le_trans B3.size hbb
  have H4 := Lib.hid hown
  clear hown hb4 X3 B3 CT
  by_cases hin : (s, p, o) ∈ ts
  · have hd : Hid (decide ((s, p, o) ∈ addAll [] ts) = true) := Lib.hid (decide_eq_true (addAll_mem.2 (.inr hin)))
    have HW2 := Lib.hid (HW.out hin)
    clear hin HW HN
    go_wp2_with (first
      | (at_lookup; refine wpList_lookG _ rfl _ _ rfl b m (addAll [] ts) rfl H4.out (s, p, o) hsk rfl (HZ.out _) ?_; rw [hd.out])
      | (at_delete; refine wpList_dropG _ rfl _ _ rfl b m (addAll [] ts) rfl H4.out (s, p, o) hsk rfl ?_))
    intro w5 hown5 hg5
    have B5 : Below w.heap.size w w5 := B4.grown hg5 B4.size (fun r e => by cases e; exact hbl)
    have G := implGraphOf b m _ w5 hown5 (by omega)
    rw [HW2.out _ hown5.nodup (fun u => by rw [lessT_mem, addAll_mem]; simp)] at G
    have CG := Lib.hid G
    clear G hown5 hg5 H4 B4 c0 c1 c2 X4
    go_wp2_with fail
    refine CG.out.mono ?_
    rintro e w6 hr
    obtain ⟨v, rfl, hv⟩ := hr.far B5
    go_wp2_with fail
    go_ret2
    exact ⟨v, rfl, hv⟩
  · have hd : Hid (decide ((s, p, o) ∈ addAll [] ts) = false) := Lib.hid (decide_eq_false (fun h => by
      rcases addAll_mem.1 h with h | h
      · simp at h
      · exact hin h))
    have HR := Lib.hid (HN.out hin)
    clear hin HW HN
    go_wp2_with (at_lookup; refine wpList_lookG _ rfl _ _ rfl b m (addAll [] ts) rfl H4.out (s, p, o) hsk rfl (HZ.out _) ?_; rw [hd.out])
    go_wp2_with fail
    go_ret2
    rw [HR.out]
    exact ResPost.no B4
theorem allT_two (a b : Option Addr) (la ca lb cb : Nat) (ts us : List Tri3) : allT [(a, la, ca, ts), (b, lb, cb, us)] = ts ++ us := by simp [allT]
end Go.Proofs.YtkcbgppplgkkbaaGreat
/- A triple put into a dataset's graph: the program. -/
namespace Go.Proofs.YtkcbgppplgkkbaaGreat
open Go.RowKit Go.WideShapes Go.Maps
theorem addD_self {kvs : List (Txt × Value)} {t : Txt} {v : Value} : (t, v) ∈ addD kvs t v := by
  unfold addD
  split
  · rename_i h
    obtain ⟨p, hp, rfl⟩ := List.mem_map.1 h
    exact List.mem_map.2 ⟨p, hp, by simp⟩
  · simp
theorem addD_old {kvs : List (Txt × Value)} {t : Txt} {v : Value} {p : Txt × Value} (h : p ∈ kvs) (hn : p.1 ≠ t) : p ∈ addD kvs t v := by
  unfold addD
  split
  · exact List.mem_map.2 ⟨p, h, by simp [hn]⟩
  · exact List.mem_append_left _ h
theorem kvsD_inv : ∀ {ts : List NamV} {us : List Value} {p : Txt × Value}, p ∈ kvsD ts us → ∃ (i : Nat) (t : NamV), ts[i]? = some t ∧ us[i]? = some p.2 ∧ p.1 = nmT t
  | [], _, p, h => by simp [kvsD] at h
  | _ :: _, [], p, h => by simp [kvsD] at h
  | t :: ts, u :: us, p, h => by
    unfold kvsD at h
    rcases List.mem_cons.1 h with rfl | h
    · exact ⟨0, t, rfl, rfl, rfl⟩
    · obtain ⟨i, t', h1, h2, h3⟩ := kvsD_inv h
      exact ⟨i + 1, t', h1, h2, h3⟩
/-- The map's values are these graphs, each in a block of its own. -/
def MapIs (B : Nat) (w : World) (kvs : List (Txt × Value)) (P : List NamV) : Prop :=
  (∀ t, t ∈ kvs.map Prod.fst ↔ t ∈ P.map nmT) ∧ (∀ r ∈ P, ∃ u, (nmT r, u) ∈ kvs ∧ OwnT B w u r.2) ∧ ∀ p ∈ kvs, ∀ q ∈ kvs, p.1 ≠ q.1 → ∀ j, p.2.ownBlock = some j → q.2.ownBlock ≠ some j
theorem mapIs_put {B : Nat} {w : World} {ts : List NamV} {us : List Value} {s : ByteArray} {v : Value} {g : List Tri3} (hI : InnN B w ts us) (hv : OwnT B w v g) (hfar : ∀ u ∈ us, ∀ j, u.ownBlock = some j → v.ownBlock ≠ some j) (hg : g.length ≠ 0) : MapIs B w (addD (kvsD ts us) s.data.toList v) (putNam ts (s, g)) := by
  have hx : (s, g) ∈ putNam ts (s, g) := putNam_mem.2 (.inl ⟨hg, rfl⟩)
  refine ⟨fun t => ?_, fun r hr => ?_, fun p hp q hq hpq j hj e => ?_⟩
  · rw [addD_keys, addS_mem, kvsD_keys _ _ hI.1]
    constructor
    · rintro (h | rfl)
      · obtain ⟨r, hr, rfl⟩ := List.mem_map.1 h
        by_cases es : r.1 = s
        · exact List.mem_map.2 ⟨(s, g), hx, by simp [nmT, es]⟩
        · exact List.mem_map.2 ⟨r, putNam_mem.2 (.inr ⟨hr, es⟩), rfl⟩
      · exact List.mem_map.2 ⟨(s, g), hx, rfl⟩
    · intro h
      obtain ⟨r, hr, rfl⟩ := List.mem_map.1 h
      rcases putNam_mem.1 hr with ⟨_, rfl⟩ | ⟨hr, _⟩
      · exact .inr rfl
      · exact .inl (List.mem_map.2 ⟨r, hr, rfl⟩)
  · rcases putNam_mem.1 hr with ⟨_, rfl⟩ | ⟨hr, hne⟩
    · exact ⟨v, addD_self, hv⟩
    · obtain ⟨i, hi⟩ := List.mem_iff_getElem?.1 hr
      have hil : i < us.length := by rw [hI.1]; exact (List.getElem?_eq_some_iff.1 hi).1
      have hu : us[i]? = some (us[i]'hil) := List.getElem?_eq_getElem _
      exact ⟨_, addD_old (kvsD_mem ts us hI.1 i r _ hi hu) (fun e => hne (nm_inj e)), hI.2.1 i _ r hu hi⟩
  · rcases addD_mem hp with rfl | ⟨_, hp⟩
    · rcases addD_mem hq with rfl | ⟨_, hq⟩
      · exact hpq rfl
      · obtain ⟨i, t, h1, h2, h3⟩ := kvsD_inv hq
        exact hfar _ (List.mem_of_getElem? h2) j e hj
    · obtain ⟨i, t, h1, h2, h3⟩ := kvsD_inv hp
      rcases addD_mem hq with rfl | ⟨_, hq⟩
      · exact hfar _ (List.mem_of_getElem? h2) j hj e
      · obtain ⟨i', t', h1', h2', h3'⟩ := kvsD_inv hq
        have hne : i ≠ i' := by
          rintro rfl
          rw [h1] at h1'
          obtain rfl := Option.some.inj h1'
          exact hpq (h3.trans h3'.symm)
        have hpw := List.pairwise_iff_getElem.1 hI.2.2
        obtain ⟨l1, e1⟩ := List.getElem?_eq_some_iff.1 h2
        obtain ⟨l2, e2⟩ := List.getElem?_eq_some_iff.1 h2'
        rcases Nat.lt_or_gt_of_ne hne with z | z
        · exact hpw i i' l1 l2 z j (by rw [e1]; exact hj) (by rw [e2]; exact e)
        · exact hpw i' i l2 l1 z j (by rw [e2]; exact e) (by rw [e1]; exact hj)
theorem MapIs.update {B b : Nat} {w w' : World} {kvs : List (Txt × Value)} {P : List NamV} (h : MapIs B w kvs P) (hg : w.grownBy w' (some b)) (hb : ∃ es c, w.heap[b]? = some (.map es c)) : MapIs B w' kvs P :=
  ⟨h.1, fun r hr => by
    obtain ⟨u, h1, h2⟩ := h.2.1 r hr
    exact ⟨u, h1, World.ownsRow.kept h2 hg (row_no_map h2 hb)⟩, h.2.2⟩
theorem mapIs_len {w : World} {b n B : Nat} {kvs : List (Txt × Value)} {P : List NamV} (hM : OwnMapD w b n kvs) (h : MapIs B w kvs P) (hR : RisN P) : kvs.length = P.length := by
  have := ((List.perm_ext_iff_of_nodup hM.nodup (risN_iff.2 hR).nodup).2 h.1).length_eq
  rwa [List.length_map, List.length_map] at this
theorem graphAt_or : ∀ (ts : List NamV) (s : ByteArray), graphAt ts s = [] ∨ ∃ t ∈ ts, t.1 = s
  | [], _ => .inl rfl
  | r :: rs, s => by
    unfold graphAt
    split
    · exact .inr ⟨r, by simp, by assumption⟩
    · rcases graphAt_or rs s with h | ⟨t, ht, e⟩
      · exact .inl h
      · exact .inr ⟨t, by simp [ht], e⟩
section
variable (w : World) {ops : Array Oper} {rest : List Oper} {o : Oper} {a : Act} {Q : Exit → Act → World → Prop}
theorem wpList_countD (hg : o.guard = none) (m : Operand) (hop : o.op = Op.call { callee := Callee.builtin Builtin.len, args := #[m], argTypes := #[51] }) (b n : Nat) (kvs : List (Txt × Value)) (hm : a.eval m = .map (some b)) (h : OwnMapD w b n kvs)
    (hK : wpList Tryz.prog ops Q rest (a.put o.dst (.int .i64 kvs.length)) w) : wpList Tryz.prog ops Q (o :: rest) a w := by
  obtain ⟨D, hown, hD⟩ := h
  refine wpList_len_own w hg m _ hop _ 42 Tryz.underlying51 valD b n D hm hown ?_
  rw [hD.size]; exact hK
/-- The graph at a name, or none. -/
theorem wpList_atD (hg : o.guard = none) (m x : Operand) (hop : o.op = Op.lookup 51 m x false) (B b n : Nat) (ts : List NamV) (us : List Value) (hm : a.eval m = .map (some b)) (h : OwnMapD w b n (kvsD ts us)) (hI : InnN B w ts us) (hnd : (ts.map nmT).Nodup) (hsm : SmAllN ts) (s : ByteArray) (hs : s.size ≤ maxLen)
    (hx : a.eval x = .string s) (hK : ∀ (ua : Option Addr) (un uc : Nat), IsTris w ua un uc (graphAt ts s) → wpList Tryz.prog ops Q rest (a.put o.dst (.slice ua un uc)) w) : wpList Tryz.prog ops Q (o :: rest) a w := by
  by_cases hin : s.data.toList ∈ ts.map nmT
  · obtain ⟨t, htm, hts⟩ := List.mem_map.1 hin
    obtain rfl : t.1 = s := nm_inj hts
    obtain ⟨i, hi⟩ := List.mem_iff_getElem?.1 htm
    have hil : i < us.length := by rw [hI.1]; exact (List.getElem?_eq_some_iff.1 hi).1
    have hu : us[i]? = some (us[i]'hil) := List.getElem?_eq_getElem _
    obtain ⟨a', c', e, hi'⟩ := (hI.2.1 i _ t hu hi).is (hsm t htm).2
    refine wpList_lookD w hg m x hop b n _ hm h t.1 hs _ (kvsD_mem ts us hI.1 i t _ hi hu) hx (by kernel_rfl) ?_
    rw [e]
    exact hK _ _ _ (by rw [graphAt_nodup ts hnd t htm]; exact hi')
  · refine wpList_missD w hg m x hop b n _ hm h s hs (by rw [kvsD_keys _ _ hI.1]; exact hin) hx (by kernel_rfl) ?_
    refine hK _ _ _ ?_
    have e : graphAt ts s = [] := by
      rcases graphAt_or ts s with e | ⟨t, ht, rfl⟩
      · exact e
      · exact absurd (List.mem_map.2 ⟨t, ht, rfl⟩) hin
    rw [e]
    exact .inl ⟨rfl, rfl, rfl, rfl⟩
end
set_option maxRecDepth 100000 in
set_option maxHeartbeats 3200000 in
theorem implDataWith (a : Option Addr) (len cap : Nat) (ts : List NamV) (s t0 t1 t2 : ByteArray) (w : World) (h : IsNams w a len cap ts) (hs : SmN ts) (hsz : s.size ≤ 1048576) (ht : t0.size + t1.size + t2.size ≤ 1048576) (htot : totN ts ≤ 1048576) :
    Calls Tryz.prog 10 #[.slice a len cap, .string s, .agg #[.string t0, .string t1, .string t2]] w (ResN (dataWith ts s (t0, t1, t2)) w) := by
  have X0 := Box.new w (.string t0) (.string t1) (.string t2) 31
  have B0 := (Below.refl w.heap.size w).alloc (Nat.le_refl _) (.cells #[.string t0, .string t1, .string t2] 31)
  have H0 := h.next B0
  have HS := Lib.hid hs
  have HX0 := Lib.hid X0
  clear h
  cases hq : dataOk ts
  · have HC := Lib.hid (implDatasetNo a len cap ts _ H0 hs hq)
    have HG : Hid (dataWith ts s (t0, t1, t2) = none) := Lib.hid (by unfold dataWith; rw [if_neg]; intro h; rw [hq] at h; exact Bool.noConfusion h.1)
    clear hq hs X0 H0
    go_enter Tryz.func10, Tryz.ntmps10
    go_wp2_with fail
    refine HC.out.mono ?_
    rintro e w1 ⟨rfl, hb1⟩
    have B1 := B0.trans (hb1.mono B0.size)
    go_wp2_with fail
    go_ret2
    rw [HG.out]
    exact ResN.no B1
  have DC := implDatasetOf a len cap ts _ H0 hs htot hq
  unfold DsPost at DC
  rw [World.size_alloc] at DC
  have HC := Lib.hid DC
  obtain ⟨kk, hkk⟩ : ∃ k, kindL s.data.toList = k := ⟨_, rfl⟩
  have V0 := implKindOf s (by omega)
  rw [hkk] at V0
  have HV := Lib.hid V0
  by_cases hk1 : kk = 1
  rotate_left
  · have hk2 : ¬ ((kk : Nat) : Int) = 1 := by omega
    have HG : Hid (dataWith ts s (t0, t1, t2) = none) := Lib.hid (by unfold dataWith; rw [if_neg]; intro h; rw [hkk] at h; exact hk1 h.2)
    clear hq hs X0 H0 hkk V0 DC
    go_enter Tryz.func10, Tryz.ntmps10
    go_wp2_with fail
    refine HC.out.mono ?_
    rintro e w1 ⟨b, us, rfl, _, hbb, hb1⟩
    have B1 := B0.trans (hb1.mono (by omega))
    go_wp2_with fail
    refine (HV.out _).mono ?_
    rintro e w2 ⟨rfl, hb2⟩
    have B2 := B1.trans (hb2.mono B1.size)
    go_wp2_with fail
    go_ret2
    rw [HG.out]
    exact ResN.no B2
  subst hk1
  have HD : Hid (dataWith ts s (t0, t1, t2) = (match withT (graphAt ts s) (t0, t1, t2) with
    | none => none
    | some g => if dataOk (putNam ts (s, g)) = true then some (putNam ts (s, g)) else none)) := Lib.hid (by unfold dataWith; rw [if_pos ⟨hq, hkk⟩]; cases withT (graphAt ts s) (t0, t1, t2) <;> rfl)
  have HGM : Hid (Sm (graphAt ts s)) := Lib.hid (fun u hu => by have := graphAt_sm hs s u hu; omega)
  have HND := Lib.hid (risN_iff.2 (dataOk_ris hq)).nodup
  have HOK : Hid (∀ g, withT (graphAt ts s) (t0, t1, t2) = some g → g.length ≠ 0 ∧ dataOk (putNam ts (s, g)) = decide ((putNam ts (s, g)).length ≤ 6)) := Lib.hid (fun g hg => by
    obtain ⟨_, _, e, ho⟩ := withT_some hg
    refine ⟨fun e0 => ?_, dataOk_put hq hkk ho⟩
    have hm : (t0, t1, t2) ∈ g := by rw [e]; exact putT_mem.2 (.inl rfl)
    rw [List.length_eq_zero_iff.1 e0] at hm
    simp at hm)
  have HR : Hid (∀ g, RisN (putNam ts (s, g))) := Lib.hid (fun g => putNam_ris _ hq)
  have HPL : Hid (∀ g, (putNam ts (s, g)).length ≤ 1000) := Lib.hid (fun g => by
    have h1 := putGo_len (s, g) ts (decide ((s, g).2.length = 0))
    have h2 : ts.length ≤ 6 := by unfold dataOk at hq; rw [Bool.and_eq_true, decide_eq_true_eq] at hq; exact hq.1
    have h3 : (putNam ts (s, g)).length ≤ ts.length + 1 := by unfold putNam; refine Nat.le_trans h1 ?_; split <;> omega
    omega)
  have HPZ : Hid (∀ g, ∀ r ∈ putNam ts (s, g), r.1.size ≤ maxLen) := Lib.hid (fun g r hr => by
    rcases putNam_mem.1 hr with ⟨_, rfl⟩ | ⟨hr, _⟩
    · unfold maxLen; simp only; omega
    · have := (hs r hr).1; unfold maxLen; omega)
  have htl : ts.length < maxLen := by
    have h2 : ts.length ≤ 6 := by unfold dataOk at hq; rw [Bool.and_eq_true, decide_eq_true_eq] at hq; exact hq.1
    unfold maxLen; omega
  have hsm : s.size ≤ maxLen := by unfold maxLen; omega
  clear hq hs X0 H0 hkk V0 DC
  go_enter Tryz.func10, Tryz.ntmps10
  go_wp2_with fail
  refine HC.out.mono ?_
  rintro e w1 ⟨b, us, rfl, ⟨hM, hI⟩, hbb, hb1⟩
  have B1 := B0.trans (hb1.mono (by omega))
  have X1 := HX0.out.next (hb1.mono (by rw [World.size_alloc]; exact Nat.le_refl _))
  clear hb1 HC
  go_wp2_with fail
  refine (HV.out _).mono ?_
  rintro e w2 ⟨rfl, hb2⟩
  have B2 := B1.trans (hb2.mono B1.size)
  have X2 := X1.next hb2
  have M2 := Lib.hid (hM.next hb2)
  have I2 := Lib.hid (hI.next hb2)
  obtain ⟨c0, c1, c2⟩ := X2.cells
  clear hb2 hM hI X1 B1 HV
  go_wp2_with (at_lookup; refine wpList_atD _ rfl _ _ rfl (w.heap.size + 1) b ts.length ts us rfl M2.out I2.out HND.out HS.out.all s hsm rfl ?_)
  intro ua un uc hi
  have HW := Lib.hid (implWith ua un uc (graphAt ts s) t0 t1 t2 w2 hi HGM.out (by omega) (by omega) (by omega))
  clear hi
  go_wp2_with fail
  refine HW.out.mono ?_
  rintro e w3 ⟨rv, rfl, ow, hb3⟩
  have B3 := B2.trans (hb3.mono B2.size)
  have M3 := Lib.hid (M2.out.next hb3)
  have I3 := Lib.hid (I2.out.next hb3)
  have HLT := Lib.hid I2.out.lt
  have OW := Lib.hid ow
  clear hb3 ow HW c0 c1 c2 X2
  cases hw : withT (graphAt ts s) (t0, t1, t2) with
  | none =>
    have HG : Hid (dataWith ts s (t0, t1, t2) = none) := Lib.hid (by rw [HD.out, hw])
    simp only [Option.isSome_none]
    go_wp2_with fail
    go_ret2
    rw [HG.out]
    exact ResN.no B3
  | some g =>
    obtain ⟨hg0, hok⟩ := HOK.out g hw
    have HG : Hid (dataWith ts s (t0, t1, t2) = if (putNam ts (s, g)).length ≤ 6 then some (putNam ts (s, g)) else none) := Lib.hid (by rw [HD.out, hw]; simp only [hok, decide_eq_true_eq])
    rw [hw] at OW
    simp only [Option.getD_some] at OW
    simp only [Option.isSome_some]
    have hz2 := B2.size
    have MI : MapIs w.heap.size w3 (addD (kvsD ts us) s.data.toList rv) (putNam ts (s, g)) := mapIs_put (I3.out.base (Nat.le_succ _)) (own_base OW.out hz2) (fun u hu j hj e => by
      have h1 := (HLT.out u hu j hj).2
      have h2 := (World.ownsRow.lt OW.out j e).1
      omega) hg0
    have HMI := Lib.hid MI
    have HRR := Lib.hid (HR.out g)
    have HLL := HPL.out g
    have HZZ := Lib.hid (HPZ.out g)
    generalize putNam ts (s, g) = P at HG HMI HRR HLL HZZ
    clear hw MI hok HD HOK HR HPL HPZ OW I3 HLT
    go_wp2_with (at_mapUpdate; refine wpList_putD _ rfl _ _ _ rfl b ts.length (kvsD ts us) rfl M3.out htl s hsm rfl rv rfl ?_)
    intro w4 M4 g4
    have MI4 := Lib.hid (HMI.out.update g4 M3.out.isMap)
    have B4 : Below w.heap.size w w4 := B3.grown g4 B3.size (fun j hj => by cases hj; omega)
    have hkl := mapIs_len M4 MI4.out HRR.out
    have HM4 := Lib.hid M4
    have CI := Lib.hid (implInOrderD w.heap.size b _ _ P w4 B4.size M4 MI4.out.1 MI4.out.2.1 MI4.out.2.2 (risN_iff.2 HRR.out) HLL HZZ.out)
    clear M4 g4 HMI M3
    by_cases h6 : P.length ≤ 6
    · have h7 : ¬ (6 : Int) < ((addD (kvsD ts us) s.data.toList rv).length : Int) := by omega
      have HN : Hid (dataWith ts s (t0, t1, t2) = some P) := Lib.hid (by rw [HG.out, if_pos h6])
      go_wp2_with (at_len; refine wpList_countD _ rfl _ rfl b _ _ rfl HM4.out ?_)
      go_wp2_with fail
      refine CI.out.mono ?_
      rintro e w5 ⟨pv, rfl, op, hb5⟩
      have B5 := B4.trans (hb5.mono B4.size)
      have OP := Lib.hid op
      clear op hb5 CI
      go_wp2_with fail
      go_ret2
      rw [HN.out]
      exact ResN.yes OP.out B5
    · have h7 : (6 : Int) < ((addD (kvsD ts us) s.data.toList rv).length : Int) := by omega
      have HN : Hid (dataWith ts s (t0, t1, t2) = none) := Lib.hid (by rw [HG.out, if_neg h6])
      go_wp2_with (at_len; refine wpList_countD _ rfl _ rfl b _ _ rfl HM4.out ?_)
      go_wp2_with fail
      go_ret2
      rw [HN.out]
      exact ResN.no B4
end Go.Proofs.YtkcbgppplgkkbaaGreat
/- Named graphs that are marked: names and triples, one number each. -/
namespace Go.Proofs.YtkcbgppplgkkbaaGreat
open Go.RowKit Go.WideShapes
def cntN (ts : List NamV) : Nat := ts.length + 3 * totN ts
theorem cntN_snoc (ts : List NamV) (t : NamV) : cntN (ts ++ [t]) = cntN ts + 1 + 3 * t.2.length := by
  unfold cntN; rw [totN_snoc, List.length_append, List.length_singleton]; omega
theorem cntN_take (ts : List NamV) (k : Nat) : cntN (ts.take k) ≤ cntN ts := by
  unfold cntN; have := totN_take ts k; rw [List.length_take]; omega
def marksN : Nat → List NamV → List NamV
  | _, [] => []
  | k, r :: rs => (mark k, marksK (k + 1) r.2.length) :: marksN (k + 1 + 3 * r.2.length) rs
theorem marksN_len : ∀ (k : Nat) (ts : List NamV), (marksN k ts).length = ts.length
  | _, [] => rfl
  | k, r :: rs => by unfold marksN; rw [List.length_cons, List.length_cons, marksN_len]
theorem marksN_at : ∀ (k : Nat) (ts : List NamV) (i : Nat) (t : NamV), ts[i]? = some t → (marksN k ts)[i]? = some (mark (k + cntN (ts.take i)), marksK (k + cntN (ts.take i) + 1) t.2.length)
  | _, [], i, t, h => by simp at h
  | k, r :: rs, 0, t, h => by
    simp at h
    subst h
    unfold marksN
    simp [cntN, totN]
  | k, r :: rs, i + 1, t, h => by
    unfold marksN
    rw [List.getElem?_cons_succ, marksN_at _ rs i t (by simpa using h), List.take_succ_cons]
    have e : k + 1 + 3 * r.2.length + cntN (rs.take i) = k + cntN (r :: rs.take i) := by
      unfold cntN totN
      simp only [List.length_cons, List.map_cons, List.sum_cons]
      omega
    rw [e]
theorem flatN_name (x : ByteArray) : ∀ (ts : List NamV) (us : List Value) (k : Nat) (t : NamV), us.length = ts.length → ts[k]? = some t → flatN (ts.set k (x, t.2)) us = (flatN ts us).set (k * 2) (.string x)
  | [], _, k, t, _, h => by simp at h
  | _ :: _, [], _, _, h, _ => by simp at h
  | s :: ts, v :: us, 0, t, _, h => by
    simp at h; subst h; rfl
  | s :: ts, v :: us, k + 1, t, hl, h => by
    have := flatN_name x ts us k t (by simpa using hl) (by simpa using h)
    rw [List.set_cons_succ, show (k + 1) * 2 = k * 2 + 1 + 1 from by omega]
    simp only [flatN, List.set_cons_succ, this]
theorem flatN_graph (g : List Tri3) : ∀ (ts : List NamV) (us : List Value) (k : Nat) (t : NamV), us.length = ts.length → ts[k]? = some t → flatN (ts.set k (t.1, g)) us = flatN ts us
  | [], _, k, t, _, h => by simp at h
  | _ :: _, [], _, _, h, _ => by simp at h
  | s :: ts, v :: us, 0, t, _, h => by
    simp at h; subst h; rfl
  | s :: ts, v :: us, k + 1, t, hl, h => by
    have := flatN_graph g ts us k t (by simpa using hl) (by simpa using h)
    rw [List.set_cons_succ]
    simp only [flatN, this]
/-- OwnNC with the graphs' slices told. -/
def OwnNu (B C : Nat) (v : Value) (us : List Value) (ts : List NamV) (w : World) : Prop :=
  (w.ownsRow B 48 2 v ts.length (flatN ts us) ∧ ∀ j, v.ownBlock = some j → j < C) ∧ us.length = ts.length ∧
    (∀ (i : Nat) (u : Value) (t : NamV), us[i]? = some u → ts[i]? = some t → OwnC B C u t.2 w) ∧ us.Pairwise (fun u v => ∀ j, u.ownBlock = some j → v.ownBlock ≠ some j) ∧ ∀ u ∈ us, ∀ j, u.ownBlock = some j → v.ownBlock ≠ some j
theorem ownNu_lives {B C : Nat} {v : Value} {us : List Value} {ts : List NamV} : Lives B C (OwnNu B C v us ts) := by
  rintro w w' he ⟨h1, h2, h3, h4, h5⟩
  exact ⟨row_lives w w' he h1, h2, fun i u t hu ht => ownC_lives w w' he (h3 i u t hu ht), h4, h5⟩
theorem OwnC.far {B C g : Nat} {v : Value} {ts : List Tri3} {w : World} (h : OwnC B C v ts w) {w' : World} (hg : w.grownBy w' (some g)) (hne : v.ownBlock ≠ some g) : OwnC B C v ts w' :=
  ⟨World.ownsRow.kept h.1 hg (.inr hne), h.2⟩
theorem OwnNu.name {B C g n c k : Nat} {us : List Value} {ts : List NamV} {w : World} {t : NamV} (h : OwnNu B C (.slice (some ⟨g, 0, none⟩) n c) us ts w) (hn : ts.length = n) (ht : ts[k]? = some t) (x : ByteArray) :
    OwnNu B C (.slice (some ⟨g, 0, none⟩) n c) us (ts.set k (x, t.2)) (w.setCell ⟨g, k * 2, none⟩ (.string x)) := by
  subst hn
  obtain ⟨⟨h1, h1'⟩, h2, h3, h4, h5⟩ := h
  have hst := h1.stored (k * 2) (.string x)
  refine ⟨⟨?_, h1'⟩, by rw [h2, List.length_set], fun i u s hu hs => ?_, h4, h5⟩
  · rw [flatN_name x ts us k t h2 ht, List.length_set]
    exact hst.1
  · have hne : u.ownBlock ≠ some g := fun e => h5 u (List.mem_of_getElem? hu) g e rfl
    rw [List.getElem?_set] at hs
    split at hs
    · rename_i e
      subst e
      split at hs
      · simp only [Option.some.injEq] at hs
        subst hs
        exact (h3 k u t hu ht).far hst.2 hne
      · cases hs
    · exact (h3 i u s hu hs).far hst.2 hne
theorem OwnNu.graph {B C k : Nat} {v u : Value} {us : List Value} {ts : List NamV} {w w' : World} {t : NamV} {gm : List Tri3} (h : OwnNu B C v us ts w) (ht : ts[k]? = some t) (hu : us[k]? = some u)
    (hg : w.grownBy w' u.ownBlock) (ho : OwnT B w' u gm) : OwnNu B C v us (ts.set k (t.1, gm)) w' ∧ Turn B C w w' := by
  obtain ⟨⟨h1, h1'⟩, h2, h3, h4, h5⟩ := h
  have hC := h3 k u t hu ht
  refine ⟨⟨⟨?_, h1'⟩, by rw [h2, List.length_set], fun i u' s hu' hs => ?_, h4, h5⟩, .of_grown hg (fun j hj => ⟨(World.ownsRow.lt hC.1 j hj).1, hC.2 j hj⟩)⟩
  · rw [flatN_graph gm ts us k t h2 ht, List.length_set]
    refine World.ownsRow.kept h1 hg ?_
    rcases hv : v.ownBlock with _ | j
    · exact .inl rfl
    · exact .inr (fun e => h5 u (List.mem_of_getElem? hu) j e.symm hv)
  · rw [List.getElem?_set] at hs
    split at hs
    · rename_i e
      subst e
      split at hs
      · simp only [Option.some.injEq] at hs
        subst hs
        rw [hu] at hu'
        cases hu'
        exact ⟨ho, hC.2⟩
      · cases hs
    · rename_i hik
      refine ⟨World.ownsRow.kept (h3 i u' s hu' hs).1 hg ?_, (h3 i u' s hu' hs).2⟩
      rcases hv : u'.ownBlock with _ | j
      · exact .inl rfl
      · refine .inr (fun e => ?_)
        have hp := List.pairwise_iff_getElem.1 h4
        have i1 := (List.getElem?_eq_some_iff.1 hu')
        have i2 := (List.getElem?_eq_some_iff.1 hu)
        obtain ⟨l1, e1⟩ := i1
        obtain ⟨l2, e2⟩ := i2
        rcases Nat.lt_or_gt_of_ne hik with g | g
        · exact hp k i l2 l1 g j (by rw [e2]; exact e.symm) (by rw [e1]; exact hv)
        · exact hp i k l1 l2 g j (by rw [e1]; exact hv) (by rw [e2]; exact e.symm)
set_option maxRecDepth 100000 in
set_option maxHeartbeats 3200000 in
theorem exMarkN {B C : Nat} {a : Option Addr} {n c : Nat} {ts : List NamV} {w : World} (h : Holds B C w (OwnNC B C (.slice a n c) ts)) (hs : n + totN ts ≤ 1048576) (hl : ts.length = n) (k0 : Nat) (hk0 : 0 < k0) (hk1 : k0 ≤ 20000000) :
    Calls Tryz.prog 12 #[.slice a n c, .int .i64 k0] w fun e w' => e = .returned (.int .i64 ((k0 + (n + 3 * totN ts) : Nat) : Int)) ∧ Holds B C w' (OwnNC B C (.slice a n c) (marksN k0 ts)) ∧ Turn B C w w' := by
  obtain ⟨us, hus⟩ := h.now
  have hcnt : cntN ts = n + 3 * totN ts := by unfold cntN; rw [hl]
  rw [← hcnt]
  have hcb : cntN ts ≤ 3200000 := by rw [hcnt]; omega
  have H0 : Hid (Holds B C w (OwnNu B C (.slice a n c) us ts)) := Lib.hid ⟨ownNu_lives, h.le, hus⟩
  have HLE := Lib.hid h.le
  have HL := Lib.hid hl
  have HTT : Hid (∀ t ∈ ts, t.2.length ≤ 1048576) := Lib.hid (fun t ht => by have := totN_mem ht; omega)
  clear h hus hcnt
  go_enter Tryz.func12, Tryz.ntmps12
  go_wp2_with fail
  go_loopw [1, 5] (fun q i wr => ∃ (k : Nat) (L : List NamV), k ≤ n ∧ i = .int .i64 k ∧ q = .int .i64 ((k0 + cntN (ts.take k) : Nat) : Int) ∧ Hid (Holds B C wr (OwnNu B C (.slice a n c) us L)) ∧ Hid (L.length = n ∧ (∀ i, i < k → L[i]? = (marksN k0 ts)[i]?) ∧ ∀ i, k ≤ i → L[i]? = ts[i]?) ∧ Hid (Turn B C w wr)) (fun _ i _ => n - (intOf i).toNat)
  case atStart => exact ⟨0, ts, Nat.zero_le _, rfl, by rw [List.take_zero]; rfl, H0, Lib.hid ⟨HL.out, fun i hi => absurd hi (Nat.not_lt_zero _), fun _ _ => rfl⟩, Lib.hid ⟨rfl, rfl, rfl, Nat.le_refl _, fun _ _ _ => rfl⟩⟩
  case round =>
    obtain ⟨k, L, hk, rfl, rfl, HO, HLL, HTU⟩ := hrel
    clear H0
    have hk6 : (0 : Int) ≤ (k : Int) := by omega
    by_cases hlt : k < n
    · have hk7 : (k : Int) < (n : Int) := by omega
      obtain ⟨hL1, hL2, hL3⟩ := HLL.out
      have ht : ts[k]? = some (ts[k]'(by have := HL.out; omega)) := List.getElem?_eq_getElem _
      have hbt := HTT.out _ (List.mem_of_getElem? ht)
      have hsn : ts.take (k + 1) = ts.take k ++ [ts[k]'(by have := HL.out; omega)] := List.take_succ_eq_append_getElem _
      have hle := cntN_take ts (k + 1)
      generalize ts[k]'(by have := HL.out; omega) = t at ht hbt hsn
      have hLk : L[k]? = some t := by rw [hL3 k (Nat.le_refl _)]; exact ht
      have hq1 : cntN (ts.take (k + 1)) = cntN (ts.take k) + 1 + 3 * t.2.length := by rw [hsn, cntN_snoc]
      have hmk := marksN_at k0 ts k t ht
      obtain ⟨q, hq⟩ : ∃ q : Nat, k0 + cntN (ts.take k) = q := ⟨_, rfl⟩
      rw [hq] at hmk ⊢
      have hq2 : ((k0 + cntN (ts.take (k + 1)) : Nat) : Int) = ((q + 1 + 3 * t.2.length : Nat) : Int) := by omega
      have hqb : q ≤ 24000000 := by omega
      have hq0 : 0 < q := by omega
      have HQ2 := Lib.hid hq2
      have MT := Lib.hid (markTextB q hq0 (by omega))
      obtain ⟨u, hu⟩ : ∃ u, us[k]? = some u := by
        have : us.length = n := by rw [← hL1]; exact HO.out.now.2.1
        exact ⟨us[k]'(by omega), List.getElem?_eq_getElem _⟩
      obtain ⟨g, rfl⟩ : ∃ g, a = some ⟨g, 0, none⟩ := by
        rcases HO.out.now.1.1.2 with ⟨e, _⟩ | ⟨g, cc, cur, e, _⟩
        · simp only [Value.slice.injEq] at e; omega
        · simp only [Value.slice.injEq] at e; exact ⟨g, e.1⟩
      have HMK := Lib.hid hmk
      have HLK := Lib.hid hLk
      have HU := Lib.hid hu
      clear ht hsn hle hq1 hq hq2 hmk hLk hL2 hL3 hu hL1
      go_wp2_with fail
      refine (MT.out _).mono ?_
      rintro e w1 ⟨rfl, hb1⟩
      have H1 := HO.out.next hb1
      have T1 : Turn B C w w1 := ⟨hb1.os.trans HTU.out.os, hb1.tape.trans HTU.out.tape, hb1.output.trans HTU.out.output, Nat.le_trans HTU.out.size hb1.size, fun i hi hd => (hb1.block i (Nat.lt_of_lt_of_le hi HTU.out.size)).trans (HTU.out.block i hi hd)⟩
      have hrow := H1.now.1.1
      rw [HLL.out.1] at hrow
      have hfl := flatN_at L us H1.now.2.1 k t u HLK.out HU.out
      have e0 : w1.cell? ⟨g, k * 2, none⟩ = some (.string t.1) := by rw [hrow.cellAt _ (by omega)]; exact hfl.1
      have e1 : w1.cell? ⟨g, k * 2 + 1, none⟩ = some u := by rw [hrow.cellAt _ (by omega)]; exact hfl.2
      have f0 := hrow.frozenAt (k * 2)
      have gs := (hrow.stored (k * 2) (.string (mark q))).2
      have N2 := H1.now.name HLL.out.1 HLK.out (mark q)
      have hgC := H1.now.1.2 g rfl
      have hgB := (World.ownsRow.lt hrow g rfl).1
      have T2 : Turn B C w (w1.setCell ⟨g, k * 2, none⟩ (.string (mark q))) := ⟨gs.os.trans T1.os, gs.tape.trans T1.tape, gs.output.trans T1.output, Nat.le_trans T1.size gs.size, fun i hi hd => (gs.block i (Nat.lt_of_lt_of_le hi T1.size) (fun e => by cases e; omega)).trans (T1.block i hi hd)⟩
      have le2 : C ≤ (w1.setCell ⟨g, k * 2, none⟩ (.string (mark q))).heap.size := Nat.le_trans H1.le gs.size
      have hL2k : (L.set k (mark q, t.2))[k]? = some (mark q, t.2) := by rw [List.getElem?_set_self (List.getElem?_eq_some_iff.1 HLK.out).1]
      have OU := N2.2.2.1 k u _ HU.out hL2k
      have MK := markTriK B u t.2 _ OU.1 hbt (q + 1) (by omega) (by omega)
      have c1 : ((q + 1 : Nat) : Int) = (q : Int) + 1 := by omega
      rw [c1] at MK
      have HMT := Lib.hid MK
      obtain ⟨ua, un, uc, rfl⟩ := NamK.own_slice OU.1
      have HN2 := Lib.hid N2
      have HT2 := Lib.hid T2
      have HE2 := Lib.hid le2
      have HLS := Lib.hid hL2k
      clear hrow hfl gs N2 hgC hgB T2 le2 hL2k OU MK c1 H1 T1 hb1 HO HTU MT
      go_wp2_with fail
      refine HMT.out.mono ?_
      rintro e w3 ⟨rfl, ho, hg⟩
      obtain ⟨N3, T3⟩ := HN2.out.graph HLS.out HU.out hg ho
      have H3 : Hid (Holds B C w3 (OwnNu B C (.slice (some ⟨g, 0, none⟩) n c) us (L.set k (mark q, marksK (q + 1) t.2.length)))) := Lib.hid ⟨ownNu_lives, Nat.le_trans HE2.out hg.size, by rw [List.set_set] at N3; exact N3⟩
      have T4 : Hid (Turn B C w w3) := Lib.hid ⟨T3.os.trans HT2.out.os, T3.tape.trans HT2.out.tape, T3.output.trans HT2.out.output, Nat.le_trans HT2.out.size T3.size, fun i hi hd => (T3.block i (Nat.lt_of_lt_of_le hi HT2.out.size) hd).trans (HT2.out.block i hi hd)⟩
      have HL4 : Hid ((L.set k (mark q, marksK (q + 1) t.2.length)).length = n ∧ (∀ i, i < k + 1 → (L.set k (mark q, marksK (q + 1) t.2.length))[i]? = (marksN k0 ts)[i]?) ∧ ∀ i, k + 1 ≤ i → (L.set k (mark q, marksK (q + 1) t.2.length))[i]? = ts[i]?) := Lib.hid ⟨by rw [List.length_set]; exact HLL.out.1, fun i hi => by
        rcases Nat.lt_or_ge i k with g | g
        · rw [List.getElem?_set_ne (by omega)]; exact HLL.out.2.1 i g
        · obtain rfl : i = k := by omega
          rw [List.getElem?_set_self (List.getElem?_eq_some_iff.1 HLK.out).1, HMK.out], fun i hi => by
        rw [List.getElem?_set_ne (by omega)]; exact HLL.out.2.2 i (by omega)⟩
      clear ho hg N3 T3 HN2 HT2 HE2 HLS HMT HLL e0 e1 f0
      go_wp2_with fail
      go_roundw
      case rel => exact ⟨k + 1, _, by omega, by go_num, by rw [HQ2.out]; congr 1, H3, HL4, T4⟩
      case measure => simp [intOf]; omega
    · obtain rfl : k = n := by omega
      have HF : Hid (L = marksN k0 ts ∧ ts.take k = ts) := Lib.hid ⟨List.ext_getElem? (fun i => by
        rcases Nat.lt_or_ge i k with g | g
        · exact HLL.out.2.1 i g
        · rw [List.getElem?_eq_none (by rw [HLL.out.1]; exact g), List.getElem?_eq_none (by rw [marksN_len, HL.out]; exact g)]), List.take_of_length_le (by rw [HL.out]; exact Nat.le_refl _)⟩
      go_wp2_with fail
      go_ret
      exact ⟨by rw [HF.out.2]; rfl, ⟨ownNC_lives, HO.out.le, us, by rw [← HF.out.1]; exact HO.out.now⟩, HTU.out⟩
end Go.Proofs.YtkcbgppplgkkbaaGreat
/- Named graphs that are marked: their second look. -/
namespace Go.Proofs.YtkcbgppplgkkbaaGreat
open Go.RowKit Go.WideShapes
theorem marksN_small {ts : List NamV} {k0 : Nat} (hs : cntN ts ≤ 3200000) (hto : totN ts ≤ 1048576) (hk : k0 ≤ 20000000) : SmAllN (marksN k0 ts) := by
  intro r hr
  obtain ⟨i, hi⟩ := List.mem_iff_getElem?.1 hr
  have hil := (List.getElem?_eq_some_iff.1 hi).1
  rw [marksN_len] at hil
  have ht : ts[i]? = some (ts[i]'hil) := List.getElem?_eq_getElem _
  have hm := marksN_at k0 ts i _ ht
  have hmt := totN_mem (List.mem_of_getElem? ht)
  have hle := cntN_take ts (i + 1)
  rw [List.take_succ_eq_append_getElem hil, cntN_snoc] at hle
  rw [hi] at hm
  generalize ts[i]'hil = t at *
  obtain rfl := Option.some.inj hm
  have hd := dig_len (k0 + cntN (ts.take i))
  refine ⟨?_, marksK_small _ _ (by omega) (by omega)⟩
  unfold mark maxLen
  simp only [bs_size, List.length_cons]
  omega
set_option maxRecDepth 100000 in
set_option maxHeartbeats 3200000 in
theorem heldNamN (a : Option Addr) (n cap : Nat) (ts : List NamV) (w : World) (k0 : Nat) (h : IsNams w a n cap (marksN k0 ts)) (hl : ts.length = n) (hs : cntN ts ≤ 3200000) (hto : totN ts ≤ 1048576) (hk0 : 0 < k0) (hk1 : k0 ≤ 20000000) :
    Calls Tryz.prog 13 #[.slice a n cap, .int .i64 k0] w fun e w' => e = .returned (.int .i64 ((k0 + cntN ts : Nat) : Int)) ∧ Below w.heap.size w w' := by
  have H := Lib.hid h
  have HL := Lib.hid hl
  have hnb : n ≤ 3200000 := by
    have : ts.length ≤ cntN ts := by unfold cntN; omega
    omega
  clear h hl
  go_enter Tryz.func13, Tryz.ntmps13
  go_wp2_with fail
  go_loopw [1, 5] (fun q i wr => ∃ k : Nat, k ≤ n ∧ i = .int .i64 k ∧ q = .int .i64 ((k0 + cntN (ts.take k) : Nat) : Int) ∧ Below w.heap.size w wr) (fun _ i _ => n - (intOf i).toNat)
  case atStart => exact ⟨0, Nat.zero_le _, rfl, by rw [List.take_zero]; rfl, Below.refl _ _⟩
  case round =>
    obtain ⟨k, hk, rfl, rfl, hnx⟩ := hrel
    by_cases hlt : k < n
    · have hk6 : (0 : Int) ≤ (k : Int) := by omega
      have hk7 : (k : Int) < (n : Int) := by omega
      have ht : ts[k]? = some (ts[k]'(by have := HL.out; omega)) := List.getElem?_eq_getElem _
      have hsn : ts.take (k + 1) = ts.take k ++ [ts[k]'(by have := HL.out; omega)] := List.take_succ_eq_append_getElem _
      have hle := cntN_take ts (k + 1)
      have hmt := totN_mem (List.mem_of_getElem? ht)
      generalize ts[k]'(by have := HL.out; omega) = t at ht hsn hmt
      have hq1 : cntN (ts.take (k + 1)) = cntN (ts.take k) + 1 + 3 * t.2.length := by rw [hsn, cntN_snoc]
      obtain ⟨b, off, rfl, hb, _, _, _, hc⟩ := H.out.cells (by omega)
      obtain ⟨ga, gn, gc, c0, c1, hz, _⟩ := hc k _ (marksN_at k0 ts k t ht)
      simp only at c0 c1 hz
      have hgn := hz.len
      rw [marksK_len] at hgn
      subst hgn
      obtain ⟨q, hq⟩ : ∃ q : Nat, k0 + cntN (ts.take k) = q := ⟨_, rfl⟩
      rw [hq] at c0 hz ⊢
      have hqb : q ≤ 24000000 := by omega
      have hq0 : 0 < q := by omega
      have HQ2 : Hid (((k0 + cntN (ts.take (k + 1)) : Nat) : Int) = ((q + 1 + 3 * t.2.length : Nat) : Int)) := Lib.hid (by omega)
      have M0 := Lib.hid (markTextB q hq0 (by omega))
      have HZ := Lib.hid hz
      have hlen : t.2.length ≤ 1048576 := by omega
      generalize mark q = t0 at *
      generalize t.2.length = gl at *
      have hd1 : ¬ ((q + 1 + 3 * gl : Nat) : Int) < 0 := by omega
      clear ht hsn hle hq1 hc hz hq
      go_wp2_with fail
      have KK := c0
      rw [← hnx.cell (p := ⟨b, _, none⟩) hb] at KK
      have LL : b < wr.heap.size := Nat.lt_of_lt_of_le hb hnx.size
      go_region_held3 (fun w' => w'.cell? ⟨b, off + k * 2, none⟩ = some (.string t0))
        (first | go_keep | (rw [ha0.cell (by first | (simp; done) | exact World.block_lt_of_cell? _ _ (by assumption))]; assumption))
        (first | (go_at_call 28; refine (M0.out _).mono ?_; rintro e wa0 ⟨rfl, ha0⟩))
      have B0 : Below w.heap.size w wa0 := (Below.drew hnx).trans (ha0.mono hnx.size)
      have KK := c1
      rw [← B0.cell (p := ⟨b, _, none⟩) hb] at KK
      have HT := heldTriK ga gl gc wa0 (q + 1) (HZ.out.next B0) hlen (by omega) (by omega)
      have d1 : ((q + 1 : Nat) : Int) = (q : Int) + 1 := by omega
      rw [d1] at HT
      have HHT := Lib.hid HT
      clear ha0 LL hnx HT d1
      go_wp2_with fail
      refine HHT.out.mono ?_
      rintro e w2 ⟨rfl, hb2⟩
      have B2 := B0.trans (hb2.mono B0.size)
      clear hb2 KK B0 HHT
      go_wp2_with fail
      go_roundw
      case rel => exact ⟨k + 1, by omega, by go_num, by rw [HQ2.out]; refine congrArg (Value.int IntKind.i64) ?_; omega, B2⟩
      case measure => simp [intOf]; omega
    · obtain rfl : k = n := by omega
      have HF : Hid (ts.take k = ts) := Lib.hid (List.take_of_length_le (by rw [HL.out]; exact Nat.le_refl _))
      go_wp2_with fail
      go_ret
      exact ⟨by rw [HF.out]; rfl, hnx⟩
theorem exHeldN {B C : Nat} {a : Option Addr} {n c : Nat} {ts : List NamV} {w : World} {k0 : Nat} (h : Holds B C w (OwnNC B C (.slice a n c) (marksN k0 ts))) (hs : n + totN ts ≤ 1048576) (hl : ts.length = n) (hk0 : 0 < k0) (hk1 : k0 ≤ 1000000) :
    Calls Tryz.prog 13 #[.slice a n c, .int .i64 k0] w fun e w' => e = .returned (.int .i64 ((k0 + (n + 3 * totN ts) : Nat) : Int)) ∧ Below w.heap.size w w' := by
  have hcnt : cntN ts = n + 3 * totN ts := by unfold cntN; rw [hl]
  have hs' : totN ts ≤ 1048576 := by omega
  rw [← hcnt]
  exact heldNamN a n c ts w k0 (h.now.read (marksN_small (by omega) hs' (by omega)) (by rw [marksN_len, hl])) hl (by omega) hs' hk0 (by omega)
end Go.Proofs.YtkcbgppplgkkbaaGreat
