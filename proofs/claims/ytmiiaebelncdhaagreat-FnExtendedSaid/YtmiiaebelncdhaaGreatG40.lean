/- Rows merged: the specification's way. -/
import Derived.Test.YtmiiaebelncdhaaGreatG29
import Derived.Test.YtmiiaebelncdhaaGreatG19
import Derived.Deep.RegionHeld3
import Derived.Laws.AppendOwnNone
import Derived.Test.YtmiiaebelncdhaaGreatG28
import Derived.Test.YtmiiaebelncdhaaGreatG27
import Derived.Test.YtmiiaebelncdhaaGreatG18
import Derived.Deep.QuietTactic
import Derived.BigQuiet
import Derived.Test.YtmiiaebelncdhaaGreatG16
namespace Go.Proofs.YtmiiaebelncdhaaGreat
open Go.RowKit Go.WideShapes
def MergePost (la lb : List Pre2) (w : World) (e : Ending) (w' : World) : Prop :=
  (∃ v h, e = .returned (.tuple #[v, .bool true]) ∧ mergedP la lb = some h ∧ OwnP w.heap.size w' v h ∧ Below w.heap.size w w') ∨
  (e = .returned (.tuple #[.slice none 0 0, .bool false]) ∧ mergedP la lb = none ∧ Below w.heap.size w w')
theorem merged_no {la lb : List Pre2} (h : rowOk la = false ∨ rowOk lb = false) : mergedP la lb = none := by
  unfold mergedP
  rcases h with h | h <;> simp [h]
theorem merged_some {la lb q : List Pre2} (h : rowOk la = true) (k : rowOk lb = true) (hp : putAllP la lb = some q) : mergedP la lb = if rowOk q = true then some q else none := by
  unfold mergedP
  rw [if_pos ⟨h, k⟩, hp]
theorem merged_stop {la lb : List Pre2} (hp : putAllP la lb = none) : mergedP la lb = none := by
  unfold mergedP
  split
  · rw [hp]
  · rfl
theorem ownP_pres {B n c : Nat} {w : World} {a : Option Addr} {q : List Pre2} (h : OwnP B w (.slice a n c) q) (hs : SmP q) : IsPres w a n c q := by
  obtain ⟨a', c', e, i⟩ := OwnP.is h (fun t ht => by have := hs t ht; unfold maxLen; omega)
  cases e
  exact i
theorem row_len {ts : List Pre2} (h : rowOk ts = true) : ts.length ≤ 12 := by
  unfold rowOk at h; simp only [Bool.and_eq_true, decide_eq_true_eq] at h; exact h.1
theorem smP_all {la lb q : List Pre2} (ha : SmP la) (hb : SmP lb) {k : Nat} (h : putAllP la (lb.take k) = some q) : SmP q := fun t ht => by
  rcases putAllP_mem h ht with g | g
  · exact ha t g
  · exact hb t (List.mem_of_mem_take g)
end Go.Proofs.YtmiiaebelncdhaaGreat
/- Rows merged: the program's way. -/
namespace Go.Proofs.YtmiiaebelncdhaaGreat
open Go.RowKit Go.WideShapes
theorem bl_ne2 {a b : ByteArray} (h : a ≠ b) : (a.toList == b.toList) = false := by
  rw [beq_eq_false_iff_ne]
  intro e
  rw [ByteArray.toList_eq, ByteArray.toList_eq] at e
  exact h (data_inj e)
set_option maxRecDepth 100000 in
set_option maxHeartbeats 3200000 in
theorem implMerged (a b : Option Addr) (la ca lb cb : Nat) (ls ms : List Pre2) (w : World) (ha : IsPres w a la ca ls) (hb : IsPres w b lb cb ms) (hsa : SmP ls) (hsb : SmP ms) :
    Calls Tryz.prog 24 #[.slice a la ca, .slice b lb cb] w (MergePost ls ms w) := by
  obtain ⟨i0, hi, hz0, hz1, hz2⟩ := info_parts infoPair
  have C1 := implRowOk a la ca ls w ha hsa
  have C2 := fun W hi => implRowOk b lb cb ms W hi hsb
  have HA := Lib.hid ha
  have HB := Lib.hid hb
  cases hra : rowOk ls
  · rw [hra] at C1
    have HC1 := Lib.hid C1
    have HN := Lib.hid (merged_no (lb := ms) (.inl hra))
    clear C1 C2 ha hb hra
    go_enter Tryz.func24, Tryz.ntmps24
    go_wp2_with fail
    refine HC1.out.mono ?_
    rintro e w1 ⟨rfl, hb1⟩
    go_wp2_with fail
    go_ret2
    exact .inr ⟨rfl, HN.out, hb1⟩
  cases hrb : rowOk ms
  · rw [hra] at C1
    simp only [hrb] at C2
    have HC1 := Lib.hid C1
    have HC2 := Lib.hid C2
    have HN := Lib.hid (merged_no (la := ls) (.inr hrb))
    clear C1 C2 ha hb hra hrb
    go_enter Tryz.func24, Tryz.ntmps24
    go_wp2_with fail
    refine HC1.out.mono ?_
    rintro e w1 ⟨rfl, hb1⟩
    have B1 := hb1
    clear hb1
    go_wp2_with fail
    refine (HC2.out _ (HB.out.next B1)).mono ?_
    rintro e w2 ⟨rfl, hb2⟩
    go_wp2_with fail
    go_ret2
    exact .inr ⟨rfl, HN.out, B1.trans (hb2.mono B1.size)⟩
  rw [hra] at C1
  simp only [hrb] at C2
  have hla : la ≤ 12 := by have := row_len hra; rw [ha.len] at this; exact this
  have hlb : lb ≤ 12 := by have := row_len hrb; rw [hb.len] at this; exact this
  obtain ⟨LS, hLS⟩ : ∃ LS, LS = ls := ⟨_, rfl⟩
  have HLS := Lib.hid hLS
  rw [← hLS] at hra hsa
  have HR := Lib.hid (And.intro hra hrb)
  have HC1 := Lib.hid C1
  have HC2 := Lib.hid C2
  have HS := Lib.hid (And.intro hsa hsb)
  have HLB := Lib.hid hb.len
  clear C1 C2 hb hra hrb hsa hsb hLS HA
  go_enter Tryz.func24, Tryz.ntmps24
  go_wp2_with fail
  refine HC1.out.mono ?_
  rintro e w1 ⟨rfl, hb1⟩
  have B1 := hb1
  clear hb1 HC1
  go_wp2_with fail
  refine (HC2.out _ (HB.out.next B1)).mono ?_
  rintro e w2 ⟨rfl, hb2⟩
  have B2 := B1.trans (hb2.mono B1.size)
  clear hb2 B1 HC2
  go_wp2_with fail
  refine (clonePair a la ca ls _ (ha.next B2) (by omega)).mono ?_
  rintro e w3 ⟨v, rfl, o3, hb3⟩
  have B3 := B2.trans (hb3.mono B2.size)
  obtain ⟨g0, c0, rfl, _⟩ := o3.is ha.small
  have OZ : Hid (∃ q, putAllP LS (ms.take 0) = some q ∧ OwnP w.heap.size w3 (.slice g0 ls.length c0) q ∧ q.length = ls.length) := Lib.hid ⟨ls, by rw [HLS.out]; rfl, ownP_lower o3 B2.size, rfl⟩
  rw [ha.len] at OZ ⊢
  clear B2 ha hb3 o3
  go_wp2_with fail
  go_loopw [6, 23] (fun o i wr => ∃ k : Nat, k ≤ lb ∧ i = .int .i64 k ∧ (∃ g n c, o = .slice g n c ∧ n ≤ 12 + k ∧ Hid (∃ q, putAllP LS (ms.take k) = some q ∧ OwnP w.heap.size wr o q ∧ q.length = n)) ∧ Below w.heap.size w wr) (fun _ i _ => lb - (intOf i).toNat)
  case atStart => exact ⟨0, Nat.zero_le _, rfl, ⟨_, _, _, rfl, by omega, OZ⟩, B3⟩
  case round =>
    obtain ⟨k, hk, rfl, ⟨g', n, c, rfl, hn, HQ⟩, hnx⟩ := hrel
    clear OZ B3
    obtain ⟨q, hq1, hq2, hq3⟩ := HQ.out
    have hq1' := Lib.hid hq1
    have hq3' := Lib.hid hq3
    by_cases hlt : k < lb
    · obtain ⟨bb, off, rfl, hbb, _, _, hts, hc⟩ := HB.out.cells (by omega)
      have ht : ms[k]? = some (ms[k]'(by omega)) := List.getElem?_eq_getElem (by omega)
      have HK : Hid (ms.take (k + 1) = ms.take k ++ [ms[k]'(by omega)]) := Lib.hid (List.take_succ_eq_append_getElem (by omega))
      obtain ⟨c0, c1, m0, m1⟩ := hc k _ ht
      generalize ms[k]'(by omega) = t at ht c0 c1 m0 m1 HK
      clear m0 m1 hc hts ht
      rw [← hnx.cell (p := ⟨bb, _, none⟩) hbb] at c0 c1
      have hk6 : (0 : Int) ≤ (k : Int) := by omega
      have hk7 : (k : Int) < (lb : Int) := by omega
      have hsq : SmP q := smP_all HS.out.1 HS.out.2 hq1
      have haq : Asc q := putAllP_asc (asc_of (by have := HR.out.1; unfold rowOk at this; simp only [Bool.and_eq_true] at this; exact this.2)) hq1
      have T0 := Box2.new wr (.string t.1) (.string t.2) 39
      have BA := (Below.refl wr.heap.size wr).alloc (Nat.le_refl _) (.cells #[.string t.1, .string t.2] 39)
      have O1 := World.ownsRow.alloc hq2 (.cells #[.string t.1, .string t.2] 39)
      have B1 := hnx.trans (BA.mono hnx.size)
      have hlt1 := fun j hj => (World.ownsRow.lt hq2 j hj).2
      have hsz1 := hnx.size
      have CP := Lib.hid (implPlaceIn g' n c q t.1 (wr.alloc (.cells #[.string t.1, .string t.2] 39)) (ownP_pres O1 hsq) haq (by omega))
      clear hq1 hq2 HQ hnx BA
      go_wp2_with fail
      generalize wr.alloc (.cells #[.string t.1, .string t.2] 39) = wa at T0 O1 B1 CP ⊢
      generalize wr.heap.size = pb at T0 hlt1 hsz1 ⊢
      refine CP.out.mono ?_
      rintro e w5 ⟨lo, f, rfl, hlo, hpos, hyes, hno, hb5⟩
      have B5 := B1.trans (hb5.mono B1.size)
      have T5 : Box2 w5 pb (.string t.1) (.string t.2) 39 := (hb5.block pb (Array.getElem?_eq_some_iff.1 T0).1).trans T0
      have O5 : OwnP w.heap.size w5 (.slice g' n c) q := World.ownsRow.kept O1 (grown_of_below hb5) (by cases g' <;> simp [Value.ownBlock])
      clear hb5 CP B1 T0 O1 c0 c1
      obtain ⟨e0, e1⟩ := T5.cells
      cases f
      · have hnew := hno rfl
        have HH := putP_new (g := q) (p := t) hpos (fun u hu => hnew u (List.mem_of_getElem? hu))
        have V0 := Box2.new w5 (.string t.1) (.string t.2) 39
        have OV := World.ownsRow.alloc O5 (.cells #[.string t.1, .string t.2] 39)
        have BV := B5.alloc B5.size (.cells #[.string t.1, .string t.2] 39)
        have hlt5 := fun j hj => (World.ownsRow.lt O5 j hj)
        have CI := Lib.hid (insPair w.heap.size (.slice g' n c) q t lo (w5.alloc (.cells #[.string t.1, .string t.2] 39)) w5.heap.size 39 OV BV.size V0 (fun e => by have := (hlt5 _ e).2; omega) (by omega) hlo)
        have HI := Lib.hid HH
        have HBV := Lib.hid BV
        clear hyes hno hnew hpos HH OV V0 O5
        go_wp2_with fail
        refine CI.out.mono ?_
        rintro e w6 ⟨v6, rfl, o6, hg6⟩
        have B6 := HBV.out.grown hg6 HBV.out.size (fun j hj => (hlt5 j hj).1)
        obtain ⟨g6, c6, rfl, _⟩ := o6.is (fun u hu => by
          have : SmP ((q.take lo ++ [t]) ++ q.drop lo) := smP_all HS.out.1 HS.out.2 (k := k + 1) (by rw [HK.out, putAllP_snoc, hq1'.out]; exact HI.out)
          have := this u hu
          unfold maxLen; omega)
        have hl6 := ins_length q lo t hlo
        have H6 : Hid (∃ z, putAllP LS (ms.take (k + 1)) = some z ∧ OwnP w.heap.size w6 (.slice g6 ((q.take lo ++ [t]) ++ q.drop lo).length c6) z ∧ z.length = ((q.take lo ++ [t]) ++ q.drop lo).length) := Lib.hid ⟨_, by rw [HK.out, putAllP_snoc, hq1'.out]; exact HI.out, o6, rfl⟩
        rw [hl6, hq3'.out] at H6 ⊢
        clear CI hg6 o6 hl6 HI HBV hlt5 T5 B5
        go_wp2_with fail
        go_roundw
        case rel => exact ⟨k + 1, by omega, by go_num, ⟨g6, n + 1, c6, rfl, by omega, H6⟩, B6⟩
        case measure => simp [intOf]; omega
      · obtain ⟨u, hu, hux⟩ := hyes rfl
        have hll := (List.getElem?_eq_some_iff.1 hu).1
        obtain ⟨bq, offq, rfl, hbq, _, _, _, hcq⟩ := (ownP_pres O5 hsq).cells (by omega)
        obtain ⟨d0, d1, _, _⟩ := hcq lo _ hu
        have hk8 : (0 : Int) ≤ (lo : Int) := by omega
        have hk9 : (lo : Int) < (n : Int) := by omega
        have hk10 : lo < n := by omega
        have HO5 := Lib.hid O5
        have HB5 := Lib.hid B5
        by_cases heq : u.2 = t.2
        · have HH := Lib.hid (putP_same (g := q) (p := t) hpos hu hux heq)
          have e5 : (u.2.toList == t.2.toList) = true := by rw [heq]; simp
          have H6 : Hid (∃ q, putAllP LS (ms.take (k + 1)) = some q ∧ ∀ W, Below w5.heap.size w5 W → OwnP w.heap.size W (.slice (some ⟨bq, offq, none⟩) n c) q ∧ q.length = n) := Lib.hid ⟨q, by rw [HK.out, putAllP_snoc, hq1'.out]; exact HH.out, fun W hW => ⟨World.ownsRow.kept HO5.out (grown_of_below hW) (.inr (by simp [Value.ownBlock])), hq3'.out⟩⟩
          clear hyes hno hpos HH O5 B5 hcq hu hux heq hll hsq haq
          go_wp2_with fail
          go_quiet (fail)
          have B6 := below_drewN HB5.out nq
          have H7 : Hid (∃ q, putAllP LS (ms.take (k + 1)) = some q ∧ OwnP w.heap.size (w5.drewN nq) (.slice (some ⟨bq, offq, none⟩) n c) q ∧ q.length = n) := Lib.hid (by
            obtain ⟨q, h1, h2⟩ := H6.out
            have h3 := h2 _ (below_drewN (Below.refl w5.heap.size w5) nq)
            exact ⟨q, h1, h3.1, h3.2⟩)
          clear T5 e0 e1 d0 d1 H6 HO5 HB5
          generalize w5.drewN nq = wd at B6 H7 ⊢
          go_wp2_with fail
          go_roundw
          case rel => exact ⟨k + 1, by omega, by go_num, ⟨_, n, c, rfl, by omega, H7⟩, B6⟩
          case measure => simp [intOf]; omega
        · have HH := Lib.hid (putP_other (g := q) (p := t) hpos hu hux heq)
          have e5 : (u.2.toList == t.2.toList) = false := bl_ne2 heq
          have HN : Hid (mergedP LS ms = none) := Lib.hid (merged_stop (by
            rw [← List.take_append_drop (k + 1) ms]
            exact putAllP_none _ _ _ (by rw [HK.out, putAllP_snoc, hq1'.out]; exact HH.out)))
          clear hyes hno hpos HH O5 B5 hcq hu hux heq hll hsq haq
          go_wp2_with fail
          go_quiet (fail)
          have B6 := below_drewN HB5.out nq
          clear T5 e0 e1 d0 d1 HO5 HB5
          generalize w5.drewN nq = wd at B6 ⊢
          go_wp2_with fail
          go_ret2
          exact .inr ⟨rfl, by rw [← HLS.out]; exact HN.out, B6⟩
    · have hkl : ms.take k = ms := List.take_of_length_le (by rw [HLB.out]; omega)
      have hsq : SmP q := smP_all HS.out.1 HS.out.2 hq1
      have CR := implRowOk g' n c q wr (ownP_pres hq2 hsq) hsq
      have HMS := merged_some HR.out.1 HR.out.2 (by rw [hkl] at hq1; exact hq1)
      have HOQ := Lib.hid hq2
      cases hrq : rowOk q
      · rw [hrq] at CR HMS
        have HC := Lib.hid CR
        have HN : Hid (mergedP LS ms = none) := Lib.hid (by rw [HMS]; rfl)
        clear CR HMS hrq hq1 hq2 hq3 HQ hkl hsq
        go_wp2_with fail
        refine HC.out.mono ?_
        rintro e w5 ⟨rfl, hb5⟩
        have B5 := hnx.trans (hb5.mono hnx.size)
        clear hb5
        go_wp2_with fail
        go_ret2
        exact .inr ⟨rfl, by rw [← HLS.out]; exact HN.out, B5⟩
      · rw [hrq] at CR HMS
        have HC := Lib.hid CR
        have HN : Hid (mergedP LS ms = some q) := Lib.hid (by rw [HMS]; rfl)
        clear CR HMS hrq hq1 hq2 hq3 HQ hkl hsq
        go_wp2_with fail
        refine HC.out.mono ?_
        rintro e w5 ⟨rfl, hb5⟩
        have B5 := hnx.trans (hb5.mono hnx.size)
        have O5 : Hid (OwnP w.heap.size w5 (.slice g' n c) q) := Lib.hid (World.ownsRow.kept HOQ.out (grown_of_below hb5) (by cases g' <;> simp [Value.ownBlock]))
        clear hb5
        go_wp2_with fail
        go_ret2
        exact .inl ⟨_, q, rfl, by rw [← HLS.out]; exact HN.out, O5.out, B5⟩
end Go.Proofs.YtmiiaebelncdhaaGreat
/- Rows merged: both ways round are one. -/
namespace Go.Proofs.YtmiiaebelncdhaaGreat
open Go.RowKit
theorem ltP_ne {t u : Pre2} (h : LtP t u) : t ≠ u := by
  rintro rfl
  unfold LtP at h
  rw [ltb_irrefl] at h; cases h
theorem AscP.nodup {ts : List Pre2} (h : AscP ts) : ts.Nodup := List.Pairwise.imp (fun h => ltP_ne h) h
theorem ascP_ext {a b : List Pre2} (ha : AscP a) (hb : AscP b) (hm : ∀ t, t ∈ a ↔ t ∈ b) : a = b :=
  List.Perm.eq_of_pairwise (le := LtP) (fun x y _ _ h1 h2 => by unfold LtP at h1 h2; rw [ltb_asymm _ _ h1] at h2; cases h2) ha hb ((List.perm_ext_iff_of_nodup ha.nodup hb.nodup).2 hm)
theorem asc_name {g : List Pre2} (ha : Asc g) {t u : Pre2} (ht : t ∈ g) (hu : u ∈ g) (h : t.1 = u.1) : t = u := by
  obtain ⟨i, hi⟩ := List.mem_iff_getElem?.1 ht
  obtain ⟨j, hj⟩ := List.mem_iff_getElem?.1 hu
  rcases Nat.lt_trichotomy i j with c | c | c
  · have := ha i j t u c hi hj
    rw [lessP_is, h, ltb_irrefl] at this; cases this
  · subst c; rw [hi] at hj; exact Option.some.inj hj
  · have := ha j i u t c hj hi
    rw [lessP_is, h, ltb_irrefl] at this; cases this
theorem posP_at {g : List Pre2} (ha : Asc g) {q : Pre2} {x : ByteArray} (hq : q ∈ g) (h : q.1 = x) : g[posP x g]? = some q := by
  obtain ⟨i, hi⟩ := List.mem_iff_getElem?.1 hq
  have hl := (List.getElem?_eq_some_iff.1 hi).1
  have e : posP x g = i := by
    rcases Nat.lt_trichotomy (posP x g) i with c | c | c
    · have e : g[posP x g]? = some (g[posP x g]'(by omega)) := List.getElem?_eq_getElem (by omega)
      have h1 := posP_stop e
      have h2 := ha _ i _ q c e hi
      rw [lessP_is, h, h1] at h2; cases h2
    · exact c
    · have := posP_ahead c hi
      rw [h, ltb_irrefl] at this; cases this
  rw [e]; exact hi
theorem putP_mem_iff {g h : List Pre2} {p u : Pre2} (e : putP g p = some h) : u ∈ h ↔ u ∈ g ∨ u = p := by
  constructor
  · intro hu
    rcases putP_mem e hu with h1 | h1
    · exact .inr h1
    · exact .inl h1
  · have key : ∀ u, (u ∈ g ∨ u = p) → u ∈ (g.take (posP p.1 g) ++ [p]) ++ g.drop (posP p.1 g) := by
      intro u hu
      rcases hu with hu | rfl
      · rw [← List.take_append_drop (posP p.1 g) g, List.mem_append] at hu
        rw [List.mem_append, List.mem_append]
        rcases hu with hu | hu
        · exact .inl (.inl hu)
        · exact .inr hu
      · simp
    intro hu
    unfold putP at e
    split at e
    · rename_i q hq
      split at e
      · rename_i h1
        split at e
        · rename_i h2
          cases e
          rcases hu with hu | rfl
          · exact hu
          · have : q = u := Prod.ext h1 h2
            rw [← this]; exact List.mem_of_getElem? hq
        · cases e
      · cases e; exact key u hu
    · cases e; exact key u hu
theorem putP_none {g : List Pre2} (ha : Asc g) {p : Pre2} : putP g p = none ↔ ∃ q ∈ g, q.1 = p.1 ∧ q.2 ≠ p.2 := by
  constructor
  · intro e
    unfold putP at e
    split at e
    · rename_i q hq
      split at e
      · rename_i h1
        split at e
        · cases e
        · rename_i h2
          exact ⟨q, List.mem_of_getElem? hq, h1, h2⟩
      · cases e
    · cases e
  · rintro ⟨q, hq, h1, h2⟩
    exact putP_other rfl (posP_at ha hq h1) h1 h2
def ClashP (a b : List Pre2) : Prop := ∃ p ∈ b, ∃ q ∈ a, q.1 = p.1 ∧ q.2 ≠ p.2
theorem ClashP.comm {a b : List Pre2} (h : ClashP a b) : ClashP b a := by
  obtain ⟨p, hp, q, hq, h1, h2⟩ := h
  exact ⟨q, hq, p, hp, h1.symm, fun e => h2 e.symm⟩
theorem putAllP_none_iff : ∀ {b a : List Pre2}, Asc a → AscP b → (putAllP a b = none ↔ ClashP a b)
  | [], a, _, _ => by simp [putAllP, ClashP]
  | p :: r, a, ha, hb => by
    obtain ⟨hb1, hb2⟩ := List.pairwise_cons.1 hb
    unfold putAllP
    cases hp : putP a p with
    | none =>
      obtain ⟨q, hq, h1, h2⟩ := (putP_none ha).1 hp
      exact ⟨fun _ => ⟨p, List.mem_cons_self .., q, hq, h1, h2⟩, fun _ => rfl⟩
    | some h =>
      have ih := putAllP_none_iff (a := h) (putP_asc ha hp) hb2
      show putAllP h r = none ↔ _
      rw [ih]
      constructor
      · rintro ⟨s, hs, q, hq, h1, h2⟩
        rcases (putP_mem_iff hp).1 hq with hq | rfl
        · exact ⟨s, List.mem_cons_of_mem _ hs, q, hq, h1, h2⟩
        · have := hb1 s hs
          unfold LtP at this
          rw [h1, ltb_irrefl] at this; cases this
      · rintro ⟨s, hs, q, hq, h1, h2⟩
        rcases List.mem_cons.1 hs with rfl | hs
        · have := (putP_none ha).2 ⟨q, hq, h1, h2⟩
          rw [hp] at this; cases this
        · exact ⟨s, hs, q, (putP_mem_iff hp).2 (.inl hq), h1, h2⟩
theorem putAllP_mem_iff {u : Pre2} : ∀ {b a h : List Pre2}, putAllP a b = some h → (u ∈ h ↔ u ∈ a ∨ u ∈ b)
  | [], a, h, e => by simp [putAllP] at e; subst e; simp
  | q :: r, a, h, e => by
    unfold putAllP at e
    cases hp : putP a q with
    | none => rw [hp] at e; cases e
    | some h' =>
      rw [hp] at e
      rw [putAllP_mem_iff e, putP_mem_iff hp, List.mem_cons]
      constructor
      · rintro ((h1 | h1) | h1)
        · exact .inl h1
        · exact .inr (.inl h1)
        · exact .inr (.inr h1)
      · rintro (h1 | h1 | h1)
        · exact .inl (.inl h1)
        · exact .inl (.inr h1)
        · exact .inr h1
theorem row_asc {ts : List Pre2} (h : rowOk ts = true) : Asc ts := asc_of (by unfold rowOk at h; simp only [Bool.and_eq_true] at h; exact h.2)
theorem putAllP_comm {a b : List Pre2} (ha : Asc a) (hb : Asc b) : putAllP a b = putAllP b a := by
  have ha' := asc_iff.1 ha
  have hb' := asc_iff.1 hb
  cases h1 : putAllP a b with
  | none => exact ((putAllP_none_iff hb ha').2 ((putAllP_none_iff ha hb').1 h1).comm).symm
  | some g =>
    cases h2 : putAllP b a with
    | none => rw [(putAllP_none_iff ha hb').2 ((putAllP_none_iff hb ha').1 h2).comm] at h1; cases h1
    | some h =>
      congr 1
      refine ascP_ext (asc_iff.1 (putAllP_asc ha h1)) (asc_iff.1 (putAllP_asc hb h2)) fun t => ?_
      rw [putAllP_mem_iff h1, putAllP_mem_iff h2, Or.comm]
theorem merged_comm (a b : List Pre2) : mergedP a b = mergedP b a := by
  unfold mergedP
  by_cases h : rowOk a = true ∧ rowOk b = true
  · rw [if_pos h, if_pos h.symm, putAllP_comm (row_asc h.1) (row_asc h.2)]
  · rw [if_neg h, if_neg (fun k => h k.symm)]
theorem merged_parts {a b m : List Pre2} (h : mergedP a b = some m) : rowOk a = true ∧ rowOk b = true ∧ rowOk m = true ∧ putAllP a b = some m := by
  unfold mergedP at h
  split at h
  · rename_i hr
    split at h
    · rename_i g hg
      split at h
      · rename_i hm
        cases h
        exact ⟨hr.1, hr.2, hm, hg⟩
      · cases h
    · cases h
  · cases h
theorem merged_self {a b m : List Pre2} (h : mergedP a b = some m) : mergedP m a = some m := by
  obtain ⟨ha, hb, hm, hp⟩ := merged_parts h
  have h1 : putAllP m a = some m := by
    cases h2 : putAllP m a with
    | none =>
      obtain ⟨p, hpa, q, hqm, e1, e2⟩ := (putAllP_none_iff (row_asc hm) (asc_iff.1 (row_asc ha))).1 h2
      exact absurd (by rw [asc_name (row_asc hm) hqm ((putAllP_mem_iff hp).2 (.inl hpa)) e1]) e2
    | some g =>
      congr 1
      refine ascP_ext (asc_iff.1 (putAllP_asc (row_asc hm) h2)) (asc_iff.1 (row_asc hm)) fun t => ?_
      rw [putAllP_mem_iff h2]
      exact ⟨fun h => h.elim id (fun h => (putAllP_mem_iff hp).2 (.inl h)), .inl⟩
  unfold mergedP
  rw [if_pos ⟨hm, ha⟩, h1]
  show (if rowOk m = true then some m else none) = some m
  rw [if_pos hm]
theorem merged_len {a b m : List Pre2} (h : mergedP a b = some m) : m.length ≤ a.length + b.length := putAllP_len (merged_parts h).2.2.2
end Go.Proofs.YtmiiaebelncdhaaGreat
