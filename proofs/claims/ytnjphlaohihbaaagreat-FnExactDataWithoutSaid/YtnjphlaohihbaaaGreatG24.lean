/- Named graphs that are marked: names and triples, one number each. -/
import Derived.Test.YtnjphlaohihbaaaGreatG14
import Derived.Test.YtnjphlaohihbaaaGreatG12
import Derived.Test.YtnjphlaohihbaaaGreatG01
import Derived.Deep.RegionHeld3
namespace Go.Proofs.YtnjphlaohihbaaaGreat
open Go.RowKit Go.WideShapes
def cntN (ts : List NamV) : Nat := ts.length + 3 * totN ts
theorem cntN_snoc (ts : List NamV) (t : NamV) : cntN (ts ++ [t]) = cntN ts + 1 + 3 * t.2.length := by
  unfold cntN; rw [totN_snoc, List.length_append, List.length_singleton]; omega
theorem cntN_take (ts : List NamV) (k : Nat) : cntN (ts.take k) ≤ cntN ts := by
  unfold cntN; have := totN_take ts k; rw [List.length_take]; omega
def marksN : Nat → List NamV → List NamV
  | _, [] => []
  | k, r :: rs => (mark k, marksK (k + 1) r.2.length) :: marksN (k + 1 + 3 * r.2.length) rs
theorem marksN_len : ∀ (k : Nat) (ts : List NamV), (marksN k ts).length = ts.length
  | _, [] => rfl
  | k, r :: rs => by unfold marksN; rw [List.length_cons, List.length_cons, marksN_len]
theorem marksN_at : ∀ (k : Nat) (ts : List NamV) (i : Nat) (t : NamV), ts[i]? = some t → (marksN k ts)[i]? = some (mark (k + cntN (ts.take i)), marksK (k + cntN (ts.take i) + 1) t.2.length)
  | _, [], i, t, h => by simp at h
  | k, r :: rs, 0, t, h => by
    simp at h
    subst h
    unfold marksN
    simp [cntN, totN]
  | k, r :: rs, i + 1, t, h => by
    unfold marksN
    rw [List.getElem?_cons_succ, marksN_at _ rs i t (by simpa using h), List.take_succ_cons]
    have e : k + 1 + 3 * r.2.length + cntN (rs.take i) = k + cntN (r :: rs.take i) := by
      unfold cntN totN
      simp only [List.length_cons, List.map_cons, List.sum_cons]
      omega
    rw [e]
theorem flatN_name (x : ByteArray) : ∀ (ts : List NamV) (us : List Value) (k : Nat) (t : NamV), us.length = ts.length → ts[k]? = some t → flatN (ts.set k (x, t.2)) us = (flatN ts us).set (k * 2) (.string x)
  | [], _, k, t, _, h => by simp at h
  | _ :: _, [], _, _, h, _ => by simp at h
  | s :: ts, v :: us, 0, t, _, h => by
    simp at h; subst h; rfl
  | s :: ts, v :: us, k + 1, t, hl, h => by
    have := flatN_name x ts us k t (by simpa using hl) (by simpa using h)
    rw [List.set_cons_succ, show (k + 1) * 2 = k * 2 + 1 + 1 from by omega]
    simp only [flatN, List.set_cons_succ, this]
theorem flatN_graph (g : List Tri3) : ∀ (ts : List NamV) (us : List Value) (k : Nat) (t : NamV), us.length = ts.length → ts[k]? = some t → flatN (ts.set k (t.1, g)) us = flatN ts us
  | [], _, k, t, _, h => by simp at h
  | _ :: _, [], _, _, h, _ => by simp at h
  | s :: ts, v :: us, 0, t, _, h => by
    simp at h; subst h; rfl
  | s :: ts, v :: us, k + 1, t, hl, h => by
    have := flatN_graph g ts us k t (by simpa using hl) (by simpa using h)
    rw [List.set_cons_succ]
    simp only [flatN, this]
/-- OwnNC with the graphs' slices told. -/
def OwnNu (B C : Nat) (v : Value) (us : List Value) (ts : List NamV) (w : World) : Prop :=
  (w.ownsRow B 35 2 v ts.length (flatN ts us) ∧ ∀ j, v.ownBlock = some j → j < C) ∧ us.length = ts.length ∧
    (∀ (i : Nat) (u : Value) (t : NamV), us[i]? = some u → ts[i]? = some t → OwnC B C u t.2 w) ∧ us.Pairwise (fun u v => ∀ j, u.ownBlock = some j → v.ownBlock ≠ some j) ∧ ∀ u ∈ us, ∀ j, u.ownBlock = some j → v.ownBlock ≠ some j
theorem ownNu_lives {B C : Nat} {v : Value} {us : List Value} {ts : List NamV} : Lives B C (OwnNu B C v us ts) := by
  rintro w w' he ⟨h1, h2, h3, h4, h5⟩
  exact ⟨row_lives w w' he h1, h2, fun i u t hu ht => ownC_lives w w' he (h3 i u t hu ht), h4, h5⟩
theorem OwnC.far {B C g : Nat} {v : Value} {ts : List Tri3} {w : World} (h : OwnC B C v ts w) {w' : World} (hg : w.grownBy w' (some g)) (hne : v.ownBlock ≠ some g) : OwnC B C v ts w' :=
  ⟨World.ownsRow.kept h.1 hg (.inr hne), h.2⟩
theorem OwnNu.name {B C g n c k : Nat} {us : List Value} {ts : List NamV} {w : World} {t : NamV} (h : OwnNu B C (.slice (some ⟨g, 0, none⟩) n c) us ts w) (hn : ts.length = n) (ht : ts[k]? = some t) (x : ByteArray) :
    OwnNu B C (.slice (some ⟨g, 0, none⟩) n c) us (ts.set k (x, t.2)) (w.setCell ⟨g, k * 2, none⟩ (.string x)) := by
  subst hn
  obtain ⟨⟨h1, h1'⟩, h2, h3, h4, h5⟩ := h
  have hst := h1.stored (k * 2) (.string x)
  refine ⟨⟨?_, h1'⟩, by rw [h2, List.length_set], fun i u s hu hs => ?_, h4, h5⟩
  · rw [flatN_name x ts us k t h2 ht, List.length_set]
    exact hst.1
  · have hne : u.ownBlock ≠ some g := fun e => h5 u (List.mem_of_getElem? hu) g e rfl
    rw [List.getElem?_set] at hs
    split at hs
    · rename_i e
      subst e
      split at hs
      · simp only [Option.some.injEq] at hs
        subst hs
        exact (h3 k u t hu ht).far hst.2 hne
      · cases hs
    · exact (h3 i u s hu hs).far hst.2 hne
theorem OwnNu.graph {B C k : Nat} {v u : Value} {us : List Value} {ts : List NamV} {w w' : World} {t : NamV} {gm : List Tri3} (h : OwnNu B C v us ts w) (ht : ts[k]? = some t) (hu : us[k]? = some u)
    (hg : w.grownBy w' u.ownBlock) (ho : OwnT B w' u gm) : OwnNu B C v us (ts.set k (t.1, gm)) w' ∧ Turn B C w w' := by
  obtain ⟨⟨h1, h1'⟩, h2, h3, h4, h5⟩ := h
  have hC := h3 k u t hu ht
  refine ⟨⟨⟨?_, h1'⟩, by rw [h2, List.length_set], fun i u' s hu' hs => ?_, h4, h5⟩, .of_grown hg (fun j hj => ⟨(World.ownsRow.lt hC.1 j hj).1, hC.2 j hj⟩)⟩
  · rw [flatN_graph gm ts us k t h2 ht, List.length_set]
    refine World.ownsRow.kept h1 hg ?_
    rcases hv : v.ownBlock with _ | j
    · exact .inl rfl
    · exact .inr (fun e => h5 u (List.mem_of_getElem? hu) j e.symm hv)
  · rw [List.getElem?_set] at hs
    split at hs
    · rename_i e
      subst e
      split at hs
      · simp only [Option.some.injEq] at hs
        subst hs
        rw [hu] at hu'
        cases hu'
        exact ⟨ho, hC.2⟩
      · cases hs
    · rename_i hik
      refine ⟨World.ownsRow.kept (h3 i u' s hu' hs).1 hg ?_, (h3 i u' s hu' hs).2⟩
      rcases hv : u'.ownBlock with _ | j
      · exact .inl rfl
      · refine .inr (fun e => ?_)
        have hp := List.pairwise_iff_getElem.1 h4
        have i1 := (List.getElem?_eq_some_iff.1 hu')
        have i2 := (List.getElem?_eq_some_iff.1 hu)
        obtain ⟨l1, e1⟩ := i1
        obtain ⟨l2, e2⟩ := i2
        rcases Nat.lt_or_gt_of_ne hik with g | g
        · exact hp k i l2 l1 g j (by rw [e2]; exact e.symm) (by rw [e1]; exact hv)
        · exact hp i k l1 l2 g j (by rw [e1]; exact hv) (by rw [e2]; exact e.symm)
set_option maxRecDepth 100000 in
set_option maxHeartbeats 3200000 in
theorem exMarkN {B C : Nat} {a : Option Addr} {n c : Nat} {ts : List NamV} {w : World} (h : Holds B C w (OwnNC B C (.slice a n c) ts)) (hs : n + totN ts ≤ 1048576) (hl : ts.length = n) (k0 : Nat) (hk0 : 0 < k0) (hk1 : k0 ≤ 20000000) :
    Calls Tryz.prog 29 #[.slice a n c, .int .i64 k0] w fun e w' => e = .returned (.int .i64 ((k0 + (n + 3 * totN ts) : Nat) : Int)) ∧ Holds B C w' (OwnNC B C (.slice a n c) (marksN k0 ts)) ∧ Turn B C w w' := by
  obtain ⟨us, hus⟩ := h.now
  have hcnt : cntN ts = n + 3 * totN ts := by unfold cntN; rw [hl]
  rw [← hcnt]
  have hcb : cntN ts ≤ 3200000 := by rw [hcnt]; omega
  have H0 : Hid (Holds B C w (OwnNu B C (.slice a n c) us ts)) := Lib.hid ⟨ownNu_lives, h.le, hus⟩
  have HLE := Lib.hid h.le
  have HL := Lib.hid hl
  have HTT : Hid (∀ t ∈ ts, t.2.length ≤ 1048576) := Lib.hid (fun t ht => by have := totN_mem ht; omega)
  clear h hus hcnt
  go_enter Tryz.func29, Tryz.ntmps29
  go_wp2_with fail
  go_loopw [1, 5] (fun q i wr => ∃ (k : Nat) (L : List NamV), k ≤ n ∧ i = .int .i64 k ∧ q = .int .i64 ((k0 + cntN (ts.take k) : Nat) : Int) ∧ Hid (Holds B C wr (OwnNu B C (.slice a n c) us L)) ∧ Hid (L.length = n ∧ (∀ i, i < k → L[i]? = (marksN k0 ts)[i]?) ∧ ∀ i, k ≤ i → L[i]? = ts[i]?) ∧ Hid (Turn B C w wr)) (fun _ i _ => n - (intOf i).toNat)
  case atStart => exact ⟨0, ts, Nat.zero_le _, rfl, by rw [List.take_zero]; rfl, H0, Lib.hid ⟨HL.out, fun i hi => absurd hi (Nat.not_lt_zero _), fun _ _ => rfl⟩, Lib.hid ⟨rfl, rfl, rfl, Nat.le_refl _, fun _ _ _ => rfl⟩⟩
  case round =>
    obtain ⟨k, L, hk, rfl, rfl, HO, HLL, HTU⟩ := hrel
    clear H0
    have hk6 : (0 : Int) ≤ (k : Int) := by omega
    by_cases hlt : k < n
    · have hk7 : (k : Int) < (n : Int) := by omega
      obtain ⟨hL1, hL2, hL3⟩ := HLL.out
      have ht : ts[k]? = some (ts[k]'(by have := HL.out; omega)) := List.getElem?_eq_getElem _
      have hbt := HTT.out _ (List.mem_of_getElem? ht)
      have hsn : ts.take (k + 1) = ts.take k ++ [ts[k]'(by have := HL.out; omega)] := List.take_succ_eq_append_getElem _
      have hle := cntN_take ts (k + 1)
      generalize ts[k]'(by have := HL.out; omega) = t at ht hbt hsn
      have hLk : L[k]? = some t := by rw [hL3 k (Nat.le_refl _)]; exact ht
      have hq1 : cntN (ts.take (k + 1)) = cntN (ts.take k) + 1 + 3 * t.2.length := by rw [hsn, cntN_snoc]
      have hmk := marksN_at k0 ts k t ht
      obtain ⟨q, hq⟩ : ∃ q : Nat, k0 + cntN (ts.take k) = q := ⟨_, rfl⟩
      rw [hq] at hmk ⊢
      have hq2 : ((k0 + cntN (ts.take (k + 1)) : Nat) : Int) = ((q + 1 + 3 * t.2.length : Nat) : Int) := by omega
      have hqb : q ≤ 24000000 := by omega
      have hq0 : 0 < q := by omega
      have HQ2 := Lib.hid hq2
      have MT := Lib.hid (markTextB q hq0 (by omega))
      obtain ⟨u, hu⟩ : ∃ u, us[k]? = some u := by
        have : us.length = n := by rw [← hL1]; exact HO.out.now.2.1
        exact ⟨us[k]'(by omega), List.getElem?_eq_getElem _⟩
      obtain ⟨g, rfl⟩ : ∃ g, a = some ⟨g, 0, none⟩ := by
        rcases HO.out.now.1.1.2 with ⟨e, _⟩ | ⟨g, cc, cur, e, _⟩
        · simp only [Value.slice.injEq] at e; omega
        · simp only [Value.slice.injEq] at e; exact ⟨g, e.1⟩
      have HMK := Lib.hid hmk
      have HLK := Lib.hid hLk
      have HU := Lib.hid hu
      clear ht hsn hle hq1 hq hq2 hmk hLk hL2 hL3 hu hL1
      go_wp2_with fail
      refine (MT.out _).mono ?_
      rintro e w1 ⟨rfl, hb1⟩
      have H1 := HO.out.next hb1
      have T1 : Turn B C w w1 := ⟨hb1.os.trans HTU.out.os, hb1.tape.trans HTU.out.tape, hb1.output.trans HTU.out.output, Nat.le_trans HTU.out.size hb1.size, fun i hi hd => (hb1.block i (Nat.lt_of_lt_of_le hi HTU.out.size)).trans (HTU.out.block i hi hd)⟩
      have hrow := H1.now.1.1
      rw [HLL.out.1] at hrow
      have hfl := flatN_at L us H1.now.2.1 k t u HLK.out HU.out
      have e0 : w1.cell? ⟨g, k * 2, none⟩ = some (.string t.1) := by rw [hrow.cellAt _ (by omega)]; exact hfl.1
      have e1 : w1.cell? ⟨g, k * 2 + 1, none⟩ = some u := by rw [hrow.cellAt _ (by omega)]; exact hfl.2
      have f0 := hrow.frozenAt (k * 2)
      have gs := (hrow.stored (k * 2) (.string (mark q))).2
      have N2 := H1.now.name HLL.out.1 HLK.out (mark q)
      have hgC := H1.now.1.2 g rfl
      have hgB := (World.ownsRow.lt hrow g rfl).1
      have T2 : Turn B C w (w1.setCell ⟨g, k * 2, none⟩ (.string (mark q))) := ⟨gs.os.trans T1.os, gs.tape.trans T1.tape, gs.output.trans T1.output, Nat.le_trans T1.size gs.size, fun i hi hd => (gs.block i (Nat.lt_of_lt_of_le hi T1.size) (fun e => by cases e; omega)).trans (T1.block i hi hd)⟩
      have le2 : C ≤ (w1.setCell ⟨g, k * 2, none⟩ (.string (mark q))).heap.size := Nat.le_trans H1.le gs.size
      have hL2k : (L.set k (mark q, t.2))[k]? = some (mark q, t.2) := by rw [List.getElem?_set_self (List.getElem?_eq_some_iff.1 HLK.out).1]
      have OU := N2.2.2.1 k u _ HU.out hL2k
      have MK := markTriK B u t.2 _ OU.1 hbt (q + 1) (by omega) (by omega)
      have c1 : ((q + 1 : Nat) : Int) = (q : Int) + 1 := by omega
      rw [c1] at MK
      have HMT := Lib.hid MK
      obtain ⟨ua, un, uc, rfl⟩ := NamK.own_slice OU.1
      have HN2 := Lib.hid N2
      have HT2 := Lib.hid T2
      have HE2 := Lib.hid le2
      have HLS := Lib.hid hL2k
      clear hrow hfl gs N2 hgC hgB T2 le2 hL2k OU MK c1 H1 T1 hb1 HO HTU MT
      go_wp2_with fail
      refine HMT.out.mono ?_
      rintro e w3 ⟨rfl, ho, hg⟩
      obtain ⟨N3, T3⟩ := HN2.out.graph HLS.out HU.out hg ho
      have H3 : Hid (Holds B C w3 (OwnNu B C (.slice (some ⟨g, 0, none⟩) n c) us (L.set k (mark q, marksK (q + 1) t.2.length)))) := Lib.hid ⟨ownNu_lives, Nat.le_trans HE2.out hg.size, by rw [List.set_set] at N3; exact N3⟩
      have T4 : Hid (Turn B C w w3) := Lib.hid ⟨T3.os.trans HT2.out.os, T3.tape.trans HT2.out.tape, T3.output.trans HT2.out.output, Nat.le_trans HT2.out.size T3.size, fun i hi hd => (T3.block i (Nat.lt_of_lt_of_le hi HT2.out.size) hd).trans (HT2.out.block i hi hd)⟩
      have HL4 : Hid ((L.set k (mark q, marksK (q + 1) t.2.length)).length = n ∧ (∀ i, i < k + 1 → (L.set k (mark q, marksK (q + 1) t.2.length))[i]? = (marksN k0 ts)[i]?) ∧ ∀ i, k + 1 ≤ i → (L.set k (mark q, marksK (q + 1) t.2.length))[i]? = ts[i]?) := Lib.hid ⟨by rw [List.length_set]; exact HLL.out.1, fun i hi => by
        rcases Nat.lt_or_ge i k with g | g
        · rw [List.getElem?_set_ne (by omega)]; exact HLL.out.2.1 i g
        · obtain rfl : i = k := by omega
          rw [List.getElem?_set_self (List.getElem?_eq_some_iff.1 HLK.out).1, HMK.out], fun i hi => by
        rw [List.getElem?_set_ne (by omega)]; exact HLL.out.2.2 i (by omega)⟩
      clear ho hg N3 T3 HN2 HT2 HE2 HLS HMT HLL e0 e1 f0
      go_wp2_with fail
      go_roundw
      case rel => exact ⟨k + 1, _, by omega, by go_num, by rw [HQ2.out]; congr 1, H3, HL4, T4⟩
      case measure => simp [intOf]; omega
    · obtain rfl : k = n := by omega
      have HF : Hid (L = marksN k0 ts ∧ ts.take k = ts) := Lib.hid ⟨List.ext_getElem? (fun i => by
        rcases Nat.lt_or_ge i k with g | g
        · exact HLL.out.2.1 i g
        · rw [List.getElem?_eq_none (by rw [HLL.out.1]; exact g), List.getElem?_eq_none (by rw [marksN_len, HL.out]; exact g)]), List.take_of_length_le (by rw [HL.out]; exact Nat.le_refl _)⟩
      go_wp2_with fail
      go_ret
      exact ⟨by rw [HF.out.2]; rfl, ⟨ownNC_lives, HO.out.le, us, by rw [← HF.out.1]; exact HO.out.now⟩, HTU.out⟩
end Go.Proofs.YtnjphlaohihbaaaGreat
/- Named graphs that are marked: their second look. -/
namespace Go.Proofs.YtnjphlaohihbaaaGreat
open Go.RowKit Go.WideShapes
theorem marksN_small {ts : List NamV} {k0 : Nat} (hs : cntN ts ≤ 3200000) (hto : totN ts ≤ 1048576) (hk : k0 ≤ 20000000) : SmAllN (marksN k0 ts) := by
  intro r hr
  obtain ⟨i, hi⟩ := List.mem_iff_getElem?.1 hr
  have hil := (List.getElem?_eq_some_iff.1 hi).1
  rw [marksN_len] at hil
  have ht : ts[i]? = some (ts[i]'hil) := List.getElem?_eq_getElem _
  have hm := marksN_at k0 ts i _ ht
  have hmt := totN_mem (List.mem_of_getElem? ht)
  have hle := cntN_take ts (i + 1)
  rw [List.take_succ_eq_append_getElem hil, cntN_snoc] at hle
  rw [hi] at hm
  generalize ts[i]'hil = t at *
  obtain rfl := Option.some.inj hm
  have hd := dig_len (k0 + cntN (ts.take i))
  refine ⟨?_, marksK_small _ _ (by omega) (by omega)⟩
  unfold mark maxLen
  simp only [bs_size, List.length_cons]
  omega
set_option maxRecDepth 100000 in
set_option maxHeartbeats 3200000 in
theorem heldNamN (a : Option Addr) (n cap : Nat) (ts : List NamV) (w : World) (k0 : Nat) (h : IsNams w a n cap (marksN k0 ts)) (hl : ts.length = n) (hs : cntN ts ≤ 3200000) (hto : totN ts ≤ 1048576) (hk0 : 0 < k0) (hk1 : k0 ≤ 20000000) :
    Calls Tryz.prog 30 #[.slice a n cap, .int .i64 k0] w fun e w' => e = .returned (.int .i64 ((k0 + cntN ts : Nat) : Int)) ∧ Below w.heap.size w w' := by
  have H := Lib.hid h
  have HL := Lib.hid hl
  have hnb : n ≤ 3200000 := by
    have : ts.length ≤ cntN ts := by unfold cntN; omega
    omega
  clear h hl
  go_enter Tryz.func30, Tryz.ntmps30
  go_wp2_with fail
  go_loopw [1, 5] (fun q i wr => ∃ k : Nat, k ≤ n ∧ i = .int .i64 k ∧ q = .int .i64 ((k0 + cntN (ts.take k) : Nat) : Int) ∧ Below w.heap.size w wr) (fun _ i _ => n - (intOf i).toNat)
  case atStart => exact ⟨0, Nat.zero_le _, rfl, by rw [List.take_zero]; rfl, Below.refl _ _⟩
  case round =>
    obtain ⟨k, hk, rfl, rfl, hnx⟩ := hrel
    by_cases hlt : k < n
    · have hk6 : (0 : Int) ≤ (k : Int) := by omega
      have hk7 : (k : Int) < (n : Int) := by omega
      have ht : ts[k]? = some (ts[k]'(by have := HL.out; omega)) := List.getElem?_eq_getElem _
      have hsn : ts.take (k + 1) = ts.take k ++ [ts[k]'(by have := HL.out; omega)] := List.take_succ_eq_append_getElem _
      have hle := cntN_take ts (k + 1)
      have hmt := totN_mem (List.mem_of_getElem? ht)
      generalize ts[k]'(by have := HL.out; omega) = t at ht hsn hmt
      have hq1 : cntN (ts.take (k + 1)) = cntN (ts.take k) + 1 + 3 * t.2.length := by rw [hsn, cntN_snoc]
      obtain ⟨b, off, rfl, hb, _, _, _, hc⟩ := H.out.cells (by omega)
      obtain ⟨ga, gn, gc, c0, c1, hz, _⟩ := hc k _ (marksN_at k0 ts k t ht)
      simp only at c0 c1 hz
      have hgn := hz.len
      rw [marksK_len] at hgn
      subst hgn
      obtain ⟨q, hq⟩ : ∃ q : Nat, k0 + cntN (ts.take k) = q := ⟨_, rfl⟩
      rw [hq] at c0 hz ⊢
      have hqb : q ≤ 24000000 := by omega
      have hq0 : 0 < q := by omega
      have HQ2 : Hid (((k0 + cntN (ts.take (k + 1)) : Nat) : Int) = ((q + 1 + 3 * t.2.length : Nat) : Int)) := Lib.hid (by omega)
      have M0 := Lib.hid (markTextB q hq0 (by omega))
      have HZ := Lib.hid hz
      have hlen : t.2.length ≤ 1048576 := by omega
      generalize mark q = t0 at *
      generalize t.2.length = gl at *
      have hd1 : ¬ ((q + 1 + 3 * gl : Nat) : Int) < 0 := by omega
      clear ht hsn hle hq1 hc hz hq
      go_wp2_with fail
      have KK := c0
      rw [← hnx.cell (p := ⟨b, _, none⟩) hb] at KK
      have LL : b < wr.heap.size := Nat.lt_of_lt_of_le hb hnx.size
      go_region_held3 (fun w' => w'.cell? ⟨b, off + k * 2, none⟩ = some (.string t0))
        (first | go_keep | (rw [ha0.cell (by first | (simp; done) | exact World.block_lt_of_cell? _ _ (by assumption))]; assumption))
        (first | (go_at_call 54; refine (M0.out _).mono ?_; rintro e wa0 ⟨rfl, ha0⟩))
      have B0 : Below w.heap.size w wa0 := (Below.drew hnx).trans (ha0.mono hnx.size)
      have KK := c1
      rw [← B0.cell (p := ⟨b, _, none⟩) hb] at KK
      have HT := heldTriK ga gl gc wa0 (q + 1) (HZ.out.next B0) hlen (by omega) (by omega)
      have d1 : ((q + 1 : Nat) : Int) = (q : Int) + 1 := by omega
      rw [d1] at HT
      have HHT := Lib.hid HT
      clear ha0 LL hnx HT d1
      go_wp2_with fail
      refine HHT.out.mono ?_
      rintro e w2 ⟨rfl, hb2⟩
      have B2 := B0.trans (hb2.mono B0.size)
      clear hb2 KK B0 HHT
      go_wp2_with fail
      go_roundw
      case rel => exact ⟨k + 1, by omega, by go_num, by rw [HQ2.out]; refine congrArg (Value.int IntKind.i64) ?_; omega, B2⟩
      case measure => simp [intOf]; omega
    · obtain rfl : k = n := by omega
      have HF : Hid (ts.take k = ts) := Lib.hid (List.take_of_length_le (by rw [HL.out]; exact Nat.le_refl _))
      go_wp2_with fail
      go_ret
      exact ⟨by rw [HF.out]; rfl, hnx⟩
theorem exHeldN {B C : Nat} {a : Option Addr} {n c : Nat} {ts : List NamV} {w : World} {k0 : Nat} (h : Holds B C w (OwnNC B C (.slice a n c) (marksN k0 ts))) (hs : n + totN ts ≤ 1048576) (hl : ts.length = n) (hk0 : 0 < k0) (hk1 : k0 ≤ 1000000) :
    Calls Tryz.prog 30 #[.slice a n c, .int .i64 k0] w fun e w' => e = .returned (.int .i64 ((k0 + (n + 3 * totN ts) : Nat) : Int)) ∧ Below w.heap.size w w' := by
  have hcnt : cntN ts = n + 3 * totN ts := by unfold cntN; rw [hl]
  have hs' : totN ts ≤ 1048576 := by omega
  rw [← hcnt]
  exact heldNamN a n c ts w k0 (h.now.read (marksN_small (by omega) hs' (by omega)) (by rw [marksN_len, hl])) hl (by omega) hs' hk0 (by omega)
end Go.Proofs.YtnjphlaohihbaaaGreat
