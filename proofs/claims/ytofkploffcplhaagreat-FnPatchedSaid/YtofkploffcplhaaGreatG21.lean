/- WithI, the rest. -/
import Derived.Test.YtofkploffcplhaaGreatG12
import Derived.Test.YtofkploffcplhaaGreatG15
import Derived.Test.YtofkploffcplhaaGreatG16
import Derived.Test.YtofkploffcplhaaGreatG20
namespace Go.Proofs.YtofkploffcplhaaGreat
open Go.RowKit Go.WideShapes Go.Maps
set_option maxRecDepth 100000 in
set_option maxHeartbeats 800000 in
theorem implGraphOf (b m : Nat) (ts : List Tri3) (w : World) (h : OwnSet w b m ts) (hm : m ≤ 1001) :
    Calls Tryz.prog 43 #[.map (some b)] w (ResPost (ofSet ts) w) := by
  have hle := h.size_le
  have C := Lib.hid (implInOrder b m ts w h (by omega))
  have H := Lib.hid h
  clear h
  by_cases g : (80 : Int) < (ts.length : Int)
  · have HR : Hid (ofSet ts = none) := Lib.hid (by unfold ofSet; rw [if_neg (by omega)])
    go_enter Tryz.func43, Tryz.ntmps43
    go_wp2_with (at_len; refine wpList_count _ rfl _ rfl b m ts rfl H.out ?_)
    go_wp2_with fail
    go_ret2
    rw [HR.out]
    exact ResPost.no (Below.refl _ _)
  · have HR : Hid (ofSet ts = some (sortT ts)) := Lib.hid (by unfold ofSet; rw [if_pos (by omega)])
    go_enter Tryz.func43, Tryz.ntmps43
    go_wp2_with (at_len; refine wpList_count _ rfl _ rfl b m ts rfl H.out ?_)
    go_wp2_with fail
    refine C.out.mono ?_
    rintro e w1 ⟨v, rfl, ho, hb⟩
    go_wp2_with fail
    go_ret2
    rw [HR.out]
    exact ResPost.yes ho hb
open Go.RowKit Go.WideShapes Go.Maps
theorem zeroB (w : World) : (zeroValue 4).run Tryz.prog w = .ok (.bool false) w := by kernel_rfl
theorem allT_two (a b : Option Addr) (la ca lb cb : Nat) (ts us : List Tri3) : allT [(a, la, ca, ts), (b, lb, cb, us)] = ts ++ us := by simp [allT]
set_option maxRecDepth 100000 in
set_option maxHeartbeats 1600000 in
theorem implUnion (a b : Option Addr) (la ca lb cb : Nat) (ts us : List Tri3) (w : World) (h : IsTris w a la ca ts) (k : IsTris w b lb cb us) (hsm : Sm ts) (ksm : Sm us) :
    Calls Tryz.prog 23 #[.slice a la ca, .slice b lb cb] w (ResPost (unionO ts us) w) := by
  have A1 := implGraphOk a la ca ts w h hsm
  cases hg : graphOk ts
  · rw [hg] at A1
    have HR : Hid (unionO ts us = none) := Lib.hid (by unfold unionO; rw [hg]; simp)
    have C1 := Lib.hid A1
    clear A1 hg h hsm k ksm
    go_enter Tryz.func23, Tryz.ntmps23
    go_wp2_with fail
    refine C1.out.mono ?_
    rintro e w1 ⟨rfl, hb1⟩
    go_wp2_with fail
    go_ret2
    rw [HR.out]
    exact ResPost.no hb1
  rw [hg] at A1
  have C1 := Lib.hid A1
  cases kg : graphOk us
  · have HR : Hid (unionO ts us = none) := Lib.hid (by unfold unionO; rw [kg]; simp)
    have HK := Lib.hid kg
    clear A1 hg kg h hsm
    go_enter Tryz.func23, Tryz.ntmps23
    go_wp2_with fail
    refine C1.out.mono ?_
    rintro e w1 ⟨rfl, hb1⟩
    have A2 := implGraphOk b lb cb us w1 (k.next hb1) ksm
    rw [HK.out] at A2
    have C2 := Lib.hid A2
    clear A2 k ksm
    go_wp2_with fail
    refine C2.out.mono ?_
    rintro e w2 ⟨rfl, hb2⟩
    go_wp2_with fail
    go_ret2
    rw [HR.out]
    exact ResPost.no (hb1.trans (hb2.mono hb1.size))
  have HK := Lib.hid kg
  have hall : (allT [(a, la, ca, ts), (b, lb, cb, us)]).length ≤ 1000 := by
    have := graphOk_len hg
    have := graphOk_len kg
    rw [allT_two, List.length_append]; omega
  have HW : Hid (∀ vs : List Tri3, vs.Nodup → (∀ u, u ∈ vs ↔ u ∈ ts ∨ u ∈ us) → ofSet vs = unionO ts us) := Lib.hid (fun vs hn hm => ofSet_union hg kg hn hm)
  have HALL := Lib.hid hall
  clear A1 hg kg hsm hall
  go_enter Tryz.func23, Tryz.ntmps23
  go_wp2_with fail
  refine C1.out.mono ?_
  rintro e w1 ⟨rfl, hb1⟩
  have A2 := implGraphOk b lb cb us w1 (k.next hb1) ksm
  rw [HK.out] at A2
  have C2 := Lib.hid A2
  have h1 := h.next hb1
  have k1 := k.next hb1
  clear A2 h k ksm
  go_wp2_with fail
  refine C2.out.mono ?_
  rintro e w2 ⟨rfl, hb2⟩
  have h2 := h1.next hb2
  have k2 := k1.next hb2
  have B2 := hb1.trans (hb2.mono hb1.size)
  clear hb1 hb2 h1 k1
  have T := implTripleSet w2.heap.size 2 [(a, la, ca, ts), (b, lb, cb, us)] (w2.alloc (.cells #[.slice a la ca, .slice b lb cb] 24)) rfl (by simp) (by omega) HALL.out (fun i x hx => by
    match i, hx with
    | 0, hx =>
      simp at hx; subst hx
      exact ⟨by simp, h2.next ((Below.refl w2.heap.size w2).alloc (Nat.le_refl _) _)⟩
    | 1, hx =>
      simp at hx; subst hx
      exact ⟨by simp, k2.next ((Below.refl w2.heap.size w2).alloc (Nat.le_refl _) _)⟩)
  rw [allT_two] at T
  have CT := Lib.hid T
  have B3 := B2.alloc B2.size (.cells #[.slice a la ca, .slice b lb cb] 24)
  clear T h2 k2 B2
  go_wp2_with fail
  refine CT.out.mono ?_
  rintro e w4 ⟨c, m, rfl, hbb, hm, hown, hb4⟩
  have B4 := B3.trans (hb4.mono B3.size)
  have G := implGraphOf c m _ w4 hown (by omega)
  rw [HW.out _ hown.nodup (fun u => by rw [addAll_mem]; simp)] at G
  have CG := Lib.hid G
  clear G hown hb4 B3 CT
  go_wp2_with fail
  refine CG.out.mono ?_
  rintro e w6 hr
  obtain ⟨v, rfl, hv⟩ := hr.far B4
  go_wp2_with fail
  go_ret2
  exact ⟨v, rfl, hv⟩
end Go.Proofs.YtofkploffcplhaaGreat
/- RdG, the rest. -/
namespace Go.Proofs.YtofkploffcplhaaGreat
open Go.RowKit Go.WideShapes
open Go.RowKit Go.WideShapes
theorem SmG.union {ts us : List Tri3} (h : SmG ts) (k : SmG us) : SmG ((unionO ts us).getD []) := by
  cases e : unionO ts us with
  | none => exact ⟨by simp, by simp⟩
  | some g =>
    obtain ⟨_, _, rfl, hg⟩ := unionO_some e
    have hl := graphOk_len hg
    refine ⟨by simp only [Option.getD_some]; omega, fun u hu => ?_⟩
    rcases unionT_mem.1 hu with hu | hu
    · exact h.2 u hu
    · exact k.2 u hu
theorem implUnionG {v u : Value} {ts us : List Tri3} {w : World} (h : GotG w v ts) (k : GotG w u us) : Calls Tryz.prog 23 #[v, u] w (GotRes (unionO ts us) w) := by
  obtain ⟨x, c, rfl, hi, hp, hs⟩ := h
  obtain ⟨y, d, rfl, ki, kp, ks⟩ := k
  exact (implUnion x y _ c _ d ts us w hi ki hs.sm ks.sm).mono fun e w' g => gotRes (hs.union ks) g
theorem unionO_comm (a b : List Tri3) : unionO a b = unionO b a := by
  by_cases h : graphOk a = true ∧ graphOk b = true
  · have e : unionT a b = unionT b a := eq_of_rising (unionT_rising (graphOk_rising h.1)) (unionT_rising (graphOk_rising h.2)) (fun t => by rw [unionT_mem, unionT_mem]; exact or_comm)
    unfold unionO
    rw [e]
    by_cases c : (unionT b a).length ≤ 80
    · rw [if_pos ⟨h.1, h.2, c⟩, if_pos ⟨h.2, h.1, c⟩]
    · rw [if_neg (fun g => c g.2.2), if_neg (fun g => c g.2.2)]
  · unfold unionO
    rw [if_neg (fun g => h ⟨g.1, g.2.1⟩), if_neg (fun g => h ⟨g.2.1, g.1⟩)]
theorem unionO_same {a g : List Tri3} (ha : graphOk a = true) (hg : graphOk g = true) (h : ∀ t, t ∈ a → t ∈ g) : unionO g a = some g := by
  have e : unionT g a = g := eq_of_rising (unionT_rising (graphOk_rising hg)) (graphOk_rising hg) (fun t => by
    rw [unionT_mem]
    exact ⟨fun c => c.elim id (h t), .inl⟩)
  unfold unionO
  rw [e, if_pos ⟨hg, ha, graphOk_len hg⟩]
end Go.Proofs.YtofkploffcplhaaGreat
/- The specification's triples without some; PatchOk, PatchOf. -/
namespace Go.Proofs.YtofkploffcplhaaGreat
open Go.RowKit Go.WideShapes
set_option maxRecDepth 100000 in
set_option maxHeartbeats 1600000 in
theorem specLess14 (a b : Option Addr) (la ca lb cb : Nat) (ts us : List Tri3) (w : World) (h : IsTris w a la ca ts) (k : IsTris w b lb cb us) (hl : la ≤ 1048576) (kl : lb ≤ 1048576) :
    Calls Tryz.prog 28 #[.slice a la ca, .slice b lb cb] w fun e w' => ∃ v, e = .returned v ∧ OwnT w.heap.size w' v (outT ts us) ∧ Below w.heap.size w w' := by
  obtain ⟨i0, hi, hz0, hz1, hz2⟩ := info_parts infoTri
  have H := Lib.hid h
  have HK := Lib.hid k
  have HT := Lib.hid h.len
  have B0 := (Below.refl w.heap.size w).alloc (Nat.le_refl _) (.cells #[] 38)
  have O0 : OwnT w.heap.size (w.alloc (.cells #[] 38)) (.slice (some ⟨w.heap.size, 0, none⟩) 0 0) [] := World.ownsRow_lit (size := 3) (e := 38) w #[] 0 (Nat.le_refl _) (by decide) rfl
  clear h k
  go_enter Tryz.func28, Tryz.ntmps28
  go_wp2_with fail
  go_loopw [5, 6] (fun v' i wr => ∃ (k : Nat) (v : Value), k ≤ la ∧ i = .int .i64 k ∧ v = v' ∧ Hid (OwnT w.heap.size wr v (outT (ts.take k) us)) ∧ Below w.heap.size w wr) (fun _ i _ => la - (intOf i).toNat)
  case atStart => exact ⟨0, _, Nat.zero_le _, rfl, rfl, Lib.hid (by simpa [outT] using O0), B0⟩
  case round =>
    obtain ⟨k, v, hk, rfl, rfl, hown, hnx⟩ := hrel
    clear B0 O0
    have hk6 : (0 : Int) ≤ (k : Int) := by omega
    by_cases hlt : k < la
    · have hk7 : (k : Int) < (la : Int) := by omega
      obtain ⟨b1, off, rfl, hb, hl', hm, hts, hcs⟩ := H.out.cells (by omega)
      have ht : ts[k]? = some (ts[k]'(by omega)) := List.getElem?_eq_getElem (by omega)
      have HS : Hid (ts.take (k + 1) = ts.take k ++ [ts[k]'(by omega)]) := Lib.hid (List.take_succ_eq_append_getElem (by omega))
      obtain ⟨d0, d1, d2, m0, m1, m2⟩ := hcs k _ ht
      rw [← hnx.cell (p := ⟨b1, _, none⟩) hb] at d0 d1 d2
      generalize ts[k]'(by omega) = u at ht d0 d1 d2 m0 m1 m2 HS
      obtain ⟨u0, u1, u2⟩ := u
      simp only at d0 d1 d2
      have hll : (outT (ts.take k) us).length ≤ k := Nat.le_trans (outT_len _ _) (by rw [List.length_take]; omega)
      have C := specHas2 b lb cb us u0 u1 u2 wr (HK.out.next hnx) kl
      have DL := Lib.hid hb
      have hbw : b1 < wr.heap.size := Nat.lt_of_lt_of_le hb hnx.size
      clear hts hcs hm m0 m1 m2 hl' ht
      cases hq : decide ((u0, u1, u2) ∈ us)
      rotate_left
      · rw [hq] at C
        have HC := Lib.hid C
        have HN : Hid (OwnT w.heap.size wr v (outT (ts.take (k + 1)) us)) := Lib.hid (by rw [HS.out, outT_snoc, if_pos (of_decide_eq_true hq)]; exact hown.out)
        clear C hq hown
        go_wp2_with fail
        refine HC.out.mono ?_
        rintro e w1 ⟨rfl, hb1⟩
        have B1 := hnx.trans (hb1.mono hnx.size)
        have O1 := Lib.hid (own_next HN.out (grown_of_below hb1))
        clear hb1 hnx d0 d1 d2
        go_wp2_with fail
        go_roundw
        case rel => exact ⟨k + 1, _, by omega, by go_num, rfl, O1, B1⟩
        case measure => simp [intOf]; omega
      · rw [hq] at C
        have HC := Lib.hid C
        have HN : Hid (outT (ts.take (k + 1)) us = outT (ts.take k) us ++ [(u0, u1, u2)]) := Lib.hid (by rw [HS.out, outT_snoc, if_neg (of_decide_eq_false hq)])
        clear C hq
        go_wp2_with fail
        refine HC.out.mono ?_
        rintro e w1 ⟨rfl, hb1⟩
        have BE := hnx.trans (hb1.mono hnx.size)
        have OE := own_next hown.out (grown_of_below hb1)
        have e0 := (hb1.cell (p := ⟨b1, off + k * 3, none⟩) hbw).trans d0
        have e1 := (hb1.cell (p := ⟨b1, off + k * 3 + 1, none⟩) hbw).trans d1
        have e2 := (hb1.cell (p := ⟨b1, off + k * 3 + 2, none⟩) hbw).trans d2
        obtain ⟨pl, hpl⟩ : ∃ l, outT (ts.take k) us = l := ⟨_, rfl⟩
        rw [hpl] at HN OE hll
        have hne := fun j hj => (World.ownsRow.lt OE j hj).1
        have HC3 : ∀ (j : Nat) (x : Value), [Value.string u0, .string u1, .string u2][j]? = some x → (w1.alloc (.cells #[.string u0, .string u1, .string u2] 38)).cell? ((⟨w1.heap.size, 0, none⟩ : Addr).add j) = some x := three_cell
        have HH := Lib.hid HC3
        have BA := BE.alloc BE.size (.cells #[.string u0, .string u1, .string u2] 38)
        have OA := Lib.hid (World.ownsRow.alloc OE (.cells #[.string u0, .string u1, .string u2] 38))
        clear HC3 BE OE hb1 hnx d0 d1 d2 hown hpl
        go_wp2_with (at_builtin; refine wpList_append_own _ rfl _ _ 24 rfl w.heap.size 38 i0 (.agg #[.string ⟨#[]⟩, .string ⟨#[]⟩, .string ⟨#[]⟩]) 3 48 Tryz.underlying24 hi hz0 hz1 hz2 rfl (by decide) _ _ _ rfl OA.out ⟨w1.heap.size, 0, none⟩ 1 _ [.string u0, .string u1, .string u2] rfl rfl HH.out (by first | exact flat_one _ | (intro x hx; simp at hx; rcases hx with rfl | rfl | rfl <;> rfl)) ?h63a ?h48a ?hbsa ?_)
        case h63a => unfold maxLen; omega
        case h48a => omega
        case hbsa => have := BA.size; omega
        intro v2 w2 hown2 hg2 _
        have O2 : OwnT w.heap.size w2 v2 (outT (ts.take (k + 1)) us) := by rw [HN.out]; exact own3_snoc (t := (u0, u1, u2)) hown2
        have B2 : Below w.heap.size w w2 := BA.grown hg2 BA.size hne
        have HO2 := Lib.hid O2
        clear hown2 hg2 OA HH BA O2 e0 e1 e2
        go_wp2_with fail
        go_roundw
        case rel => exact ⟨k + 1, _, by omega, by go_num, rfl, HO2, B2⟩
        case measure => simp [intOf]; omega
    · obtain rfl : k = la := by omega
      have HO : Hid (OwnT w.heap.size wr v (outT ts us)) := Lib.hid (by
        have := hown.out
        rwa [List.take_of_length_le (by rw [HT.out]; exact Nat.le_refl _)] at this)
      clear hown
      go_wp2_with fail
      go_ret
      exact ⟨v, rfl, HO.out, hnx⟩
set_option maxRecDepth 100000 in
set_option maxHeartbeats 3200000 in
theorem specPatchOk (a1 a2 : Option Addr) (n1 n2 c1 c2 : Nat) (t1 t2 : List Tri3) (w : World) (h : Is2 w a1 a2 n1 n2 c1 c2 t1 t2) (s1 : Sm t1) (s2 : Sm t2) (l1 : n1 ≤ 1048576) (l2 : n2 ≤ 1048576) :
    Calls Tryz.prog 14 #[.agg #[.slice a1 n1 c1, .slice a2 n2 c2]] w fun e w' => e = .returned (.bool (patchOk t1 t2)) ∧ Below w.heap.size w w' := by
  have B0 := (Below.refl w.heap.size w).alloc (Nat.le_refl _) (.cells #[.slice a1 n1 c1, .slice a2 n2 c2] 26)
  have X0 := cells_new w #[.slice a1 n1 c1, .slice a2 n2 c2] 26
  have H := Lib.hid h
  have HT := Lib.hid h.1.len
  have S := Lib.hid (And.intro s1 s2)
  clear h s1 s2
  go_enter Tryz.func14, Tryz.ntmps14
  go_wp2_with fail
  go_loopw [3] (fun i wr => ∃ k : Nat, k ≤ n1 ∧ i = .int .i64 k ∧ Hid (anyT t2 (t1.take k) = false) ∧ Hid (Holds w.heap.size (w.heap.size + 1) wr (Cells w.heap.size #[.slice a1 n1 c1, .slice a2 n2 c2] 26)) ∧ Below w.heap.size w wr) (fun i _ => n1 - (intOf i).toNat)
  case atStart => exact ⟨0, Nat.zero_le _, rfl, Lib.hid (by simp [anyT]), Lib.hid X0, B0⟩
  case round =>
    obtain ⟨k, hk, rfl, hno, hX, hnx⟩ := hrel
    clear B0 X0
    have hk6 : (0 : Int) ≤ (k : Int) := by omega
    by_cases hlt : k < n1
    · have hk7 : (k : Int) < (n1 : Int) := by omega
      obtain ⟨b1, off, rfl, hb, hl', hm, hts, hcs⟩ := H.out.1.cells (by omega)
      have ht : t1[k]? = some (t1[k]'(by omega)) := List.getElem?_eq_getElem (by omega)
      have HS : Hid (t1.take (k + 1) = t1.take k ++ [t1[k]'(by omega)]) := Lib.hid (List.take_succ_eq_append_getElem (by omega))
      obtain ⟨d0, d1, d2, m0, m1, m2⟩ := hcs k _ ht
      rw [← hnx.cell (p := ⟨b1, _, none⟩) hb] at d0 d1 d2
      have HT1 := Lib.hid ht
      generalize t1[k]'(by omega) = u at ht d0 d1 d2 m0 m1 m2 HS HT1
      obtain ⟨u0, u1, u2⟩ := u
      simp only at d0 d1 d2
      have C := specHas2 a2 n2 c2 t2 u0 u1 u2 wr.drew (H.out.2.next hnx.drew) l2
      have hbw : b1 < wr.heap.size := Nat.lt_of_lt_of_le hb hnx.size
      have DD : Hid (∀ W, Below wr.heap.size wr W → W.cell? ⟨b1, off + k * 3, none⟩ = some (.string u0) ∧ W.cell? ⟨b1, off + k * 3 + 1, none⟩ = some (.string u1) ∧ W.cell? ⟨b1, off + k * 3 + 2, none⟩ = some (.string u2)) := Lib.hid (fun W hW => ⟨(hW.cell (p := ⟨b1, _, none⟩) hbw).trans d0, (hW.cell (p := ⟨b1, _, none⟩) hbw).trans d1, (hW.cell (p := ⟨b1, _, none⟩) hbw).trans d2⟩)
      clear hts hcs hm m0 m1 m2 hl' ht d0 d1 d2
      obtain ⟨x0, x1⟩ := hX.out.now.two
      cases hq : decide ((u0, u1, u2) ∈ t2)
      all_goals
        rw [hq] at C
        have HC := Lib.hid C
        have HQ := Lib.hid hq
        have HX := Lib.hid (Below.drew (Below.refl wr.heap.size wr))
        have HB := Lib.hid hnx
        clear C hq hnx
        go_wp2_with fail
        go_region_held3 (fun w' => (w'.cell? ⟨w.heap.size, 0, none⟩ = some (.slice (some ⟨b1, off, none⟩) n1 c1) ∧ w'.cell? ⟨w.heap.size, 1, none⟩ = some (.slice a2 n2 c2)) ∧ w'.cell? ⟨b1, off + k * 3, none⟩ = some (.string u0) ∧ w'.cell? ⟨b1, off + k * 3 + 1, none⟩ = some (.string u1) ∧ w'.cell? ⟨b1, off + k * 3 + 2, none⟩ = some (.string u2))
          (first | with_reducible exact ⟨X1.out.now.two, DD.out _ Y1.out⟩ | with_reducible exact ⟨hX.out.drew.now.two, DD.out _ HX.out⟩)
          (first | (go_at_call 26; refine HC.out.mono ?_; rintro e w1 ⟨rfl, hb1⟩; have B1 := Lib.hid (HB.out.drew.trans (hb1.mono HB.out.size)); have X1 := Lib.hid (hX.out.drew.next hb1); have Y1 := Lib.hid (HX.out.trans (hb1.mono (Nat.le_refl _))); clear hb1))
      · have HN : Hid (anyT t2 (t1.take (k + 1)) = false) := Lib.hid (by rw [HS.out, anyT_snoc, hno.out, HQ.out]; rfl)
        have B2 := B1.out
        clear x0 x1 hno HQ DD HC
        go_wp2_with fail
        go_roundw
        case rel => exact ⟨k + 1, by omega, by go_num, HN, X1, B2⟩
        case measure => simp [intOf]; omega
      · have HR : Hid (patchOk t1 t2 = false) := Lib.hid (by
          unfold patchOk
          rw [show anyT t1 t2 = true from anyT_iff.2 ⟨_, List.mem_of_getElem? HT1.out, of_decide_eq_true HQ.out⟩]; simp)
        clear x0 x1 hno HQ DD HC
        go_wp2_with fail
        go_ret
        exact ⟨by rw [HR.out]; rfl, B1.out⟩
    · obtain rfl : k = n1 := by omega
      have HN : Hid (anyT t1 t2 = false) := Lib.hid (by
        have := hno.out
        rw [List.take_of_length_le (by rw [HT.out]; exact Nat.le_refl _)] at this
        rw [anyT_comm]; exact this)
      have A1 := specGraphOk a1 k c1 t1 wr (H.out.1.next hnx) S.out.1
      obtain ⟨x0, x1⟩ := hX.out.now.two
      clear hno
      cases g1 : graphOk t1
      · rw [g1] at A1
        have HR : Hid (patchOk t1 t2 = false) := Lib.hid (by unfold patchOk; rw [g1]; rfl)
        have C1 := Lib.hid A1
        clear A1 g1
        go_wp2_with fail
        refine C1.out.mono ?_
        rintro e w1 ⟨rfl, hb⟩
        go_wp2_with fail
        go_ret
        exact ⟨by rw [HR.out]; rfl, hnx.trans (hb.mono hnx.size)⟩
      · rw [g1] at A1
        have HR : Hid (patchOk t1 t2 = graphOk t2) := Lib.hid (by unfold patchOk; rw [g1, HN.out]; simp)
        have C1 := Lib.hid A1
        clear A1 g1
        go_wp2_with fail
        refine C1.out.mono ?_
        rintro e w1 ⟨rfl, hb⟩
        have B1 := hnx.trans (hb.mono hnx.size)
        have X1 := hX.out.next hb
        clear x0 x1
        obtain ⟨x0, x1⟩ := X1.now.two
        have A2 := specGraphOk a2 n2 c2 t2 w1 (H.out.2.next B1) S.out.2
        generalize graphOk t2 = q at A2 HR
        have C2 := Lib.hid A2
        clear A2 hb hnx
        go_wp2_with fail
        refine C2.out.mono ?_
        rintro e w2 ⟨rfl, hb⟩
        have B2 := B1.trans (hb.mono B1.size)
        clear hb B1 X1
        cases q
        all_goals
          go_wp2_with fail
          go_ret
          exact ⟨by rw [HR.out]; rfl, B2⟩
end Go.Proofs.YtofkploffcplhaaGreat
