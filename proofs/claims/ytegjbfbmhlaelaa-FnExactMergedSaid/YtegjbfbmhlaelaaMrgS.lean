/- Rows merged: the specification's way. -/
import Derived.Test.YtegjbfbmhlaelaaMrgP
import Derived.Test.YtegjbfbmhlaelaaRow2
import Derived.Deep.RegionHeld3
import Derived.Laws.AppendOwnNone
namespace Go.Proofs.Ytegjbfbmhlaelaa
open Go.RowKit Go.WideShapes
def MergePost (la lb : List Pre2) (w : World) (e : Ending) (w' : World) : Prop :=
  (∃ v h, e = .returned (.tuple #[v, .bool true]) ∧ mergedP la lb = some h ∧ OwnP w.heap.size w' v h ∧ Below w.heap.size w w') ∨
  (e = .returned (.tuple #[.slice none 0 0, .bool false]) ∧ mergedP la lb = none ∧ Below w.heap.size w w')
theorem merged_no {la lb : List Pre2} (h : rowOk la = false ∨ rowOk lb = false) : mergedP la lb = none := by
  unfold mergedP
  rcases h with h | h <;> simp [h]
theorem merged_some {la lb q : List Pre2} (h : rowOk la = true) (k : rowOk lb = true) (hp : putAllP la lb = some q) : mergedP la lb = if rowOk q = true then some q else none := by
  unfold mergedP
  rw [if_pos ⟨h, k⟩, hp]
theorem merged_stop {la lb : List Pre2} (hp : putAllP la lb = none) : mergedP la lb = none := by
  unfold mergedP
  split
  · rw [hp]
  · rfl
theorem ownP_pres {B n c : Nat} {w : World} {a : Option Addr} {q : List Pre2} (h : OwnP B w (.slice a n c) q) (hs : SmP q) : IsPres w a n c q := by
  obtain ⟨a', c', e, i⟩ := OwnP.is h (fun t ht => by have := hs t ht; unfold maxLen; omega)
  cases e
  exact i
theorem row_len {ts : List Pre2} (h : rowOk ts = true) : ts.length ≤ 12 := by
  unfold rowOk at h; simp only [Bool.and_eq_true, decide_eq_true_eq] at h; exact h.1
theorem smP_all {la lb q : List Pre2} (ha : SmP la) (hb : SmP lb) {k : Nat} (h : putAllP la (lb.take k) = some q) : SmP q := fun t ht => by
  rcases putAllP_mem h ht with g | g
  · exact ha t g
  · exact hb t (List.mem_of_mem_take g)
set_option maxRecDepth 100000 in
set_option maxHeartbeats 3200000 in
theorem specMerged (a b : Option Addr) (la ca lb cb : Nat) (ls ms : List Pre2) (w : World) (ha : IsPres w a la ca ls) (hb : IsPres w b lb cb ms) (hsa : SmP ls) (hsb : SmP ms) :
    Calls Try.prog 12 #[.slice a la ca, .slice b lb cb] w (MergePost ls ms w) := by
  obtain ⟨i0, hi, hz0, hz1, hz2⟩ := info_parts infoPair
  have C1 := specRowOk a la ca ls w ha hsa
  have C2 := fun W hi => specRowOk b lb cb ms W hi hsb
  have HA := Lib.hid ha
  have HB := Lib.hid hb
  cases hra : rowOk ls
  · rw [hra] at C1
    have HC1 := Lib.hid C1
    have HN := Lib.hid (merged_no (lb := ms) (.inl hra))
    clear C1 C2 ha hb hra
    go_enter Try.func12, Try.ntmps12
    go_wp2_with fail
    refine HC1.out.mono ?_
    rintro e w1 ⟨rfl, hb1⟩
    go_wp2_with fail
    go_ret2
    exact .inr ⟨rfl, HN.out, hb1⟩
  cases hrb : rowOk ms
  · rw [hra] at C1
    simp only [hrb] at C2
    have HC1 := Lib.hid C1
    have HC2 := Lib.hid C2
    have HN := Lib.hid (merged_no (la := ls) (.inr hrb))
    clear C1 C2 ha hb hra hrb
    go_enter Try.func12, Try.ntmps12
    go_wp2_with fail
    refine HC1.out.mono ?_
    rintro e w1 ⟨rfl, hb1⟩
    have B1 := hb1
    clear hb1
    go_wp2_with fail
    refine (HC2.out _ (HB.out.next B1)).mono ?_
    rintro e w2 ⟨rfl, hb2⟩
    go_wp2_with fail
    go_ret2
    exact .inr ⟨rfl, HN.out, B1.trans (hb2.mono B1.size)⟩
  rw [hra] at C1
  simp only [hrb] at C2
  have hla : la ≤ 12 := by have := row_len hra; rw [ha.len] at this; exact this
  have hlb : lb ≤ 12 := by have := row_len hrb; rw [hb.len] at this; exact this
  obtain ⟨LS, hLS⟩ : ∃ LS, LS = ls := ⟨_, rfl⟩
  have HLS := Lib.hid hLS
  rw [← hLS] at hra hsa
  have HR := Lib.hid (And.intro hra hrb)
  have HC1 := Lib.hid C1
  have HC2 := Lib.hid C2
  have HS := Lib.hid (And.intro hsa hsb)
  have HLB := Lib.hid hb.len
  clear C1 C2 hb hra hrb hsa hsb hLS HA
  go_enter Try.func12, Try.ntmps12
  go_wp2_with fail
  refine HC1.out.mono ?_
  rintro e w1 ⟨rfl, hb1⟩
  have B1 := hb1
  clear hb1 HC1
  go_wp2_with fail
  refine (HC2.out _ (HB.out.next B1)).mono ?_
  rintro e w2 ⟨rfl, hb2⟩
  have B2 := B1.trans (hb2.mono B1.size)
  clear hb2 B1 HC2
  have O0 : OwnP w2.heap.size (w2.alloc (.cells #[] 86)) (.slice (some ⟨w2.heap.size, 0, none⟩) 0 0) [] := World.ownsRow_lit (size := 2) (e := 86) w2 #[] 0 (Nat.le_refl _) (by decide) rfl
  have B3 := B2.alloc B2.size (.cells #[] 86)
  have HO := Lib.hid O0
  have h3 := ha.next B3
  clear O0
  rcases h3 with ⟨rfl, rfl, rfl, rfl⟩ | ⟨x, rfl, h1, h2, h3', h4⟩
  case' inl =>
    go_wp2_with (at_builtin; refine wpList_append_own_none rfl _ _ 24 rfl w2.heap.size 86 i0 2 Try.underlying24 hi _ _ _ rfl HO.out rfl ?_)
    have OZ : Hid (∃ q, putAllP LS (ms.take 0) = some q ∧ OwnP w.heap.size (w2.alloc (.cells #[] 86)) (.slice (some ⟨w2.heap.size, 0, none⟩) 0 0) q ∧ q.length = 0) := Lib.hid ⟨[], by rw [HLS.out]; rfl, ownP_lower HO.out B2.size, rfl⟩
    have BZ := B3
    have hn0 : 0 ≤ 12 := by omega
    obtain ⟨cc, hcc⟩ : ∃ c : Nat, c = 0 := ⟨_, rfl⟩
    clear B2 B3 HO ha hla
    go_wp2_with fail
    generalize w2.alloc (.cells #[] 86) = wz at OZ BZ ⊢
    generalize w2.heap.size = g at OZ ⊢
    clear hcc cc
  case' inr =>
    have A := Lib.hid (fun j u hj => pres_news h4 j u hj)
    have H3 := Lib.hid h3'
    clear h4 h3'
    go_wp2_with (at_builtin; refine wpList_append_own _ rfl _ _ 24 rfl w2.heap.size 86 i0 (.agg #[.string ⟨#[]⟩, .string ⟨#[]⟩]) 2 32 Try.underlying24 hi hz0 hz1 hz2 rfl (by decide) _ _ _ rfl HO.out x la ca (flatP ls) rfl (by rw [flatP_len, H3.out]) A.out (flatP_one ls) ?qc4 ?qc5 ?qc6 ?_)
    try (case qc4 => first | (rw [List.length_nil]; unfold maxLen; omega) | (unfold maxLen; omega))
    try (case qc5 => first | (rw [List.length_nil]; omega) | omega)
    try (case qc6 => first | omega | (simp only [World.size_alloc]; omega))
    intro v3 wz hown hgrow hnn
    have O3 : OwnP w2.heap.size wz v3 ls := by unfold OwnP; rw [H3.out]; simpa [flatP] using hown
    have BZ := B3.grown hgrow B3.size (fun j hj => by simp [Value.ownBlock] at hj; have := B2.size; omega)
    obtain ⟨g, cq, rfl⟩ : ∃ g c, v3 = .slice (some ⟨g, 0, none⟩) la c := by
      rcases hown.2 with ⟨e, _⟩ | ⟨g, c, cur, e, _⟩
      · exact absurd e (by simpa using hnn)
      · refine ⟨g, c, ?_⟩; simpa using e
    have OZ : Hid (∃ q, putAllP LS (ms.take 0) = some q ∧ OwnP w.heap.size wz (.slice (some ⟨g, 0, none⟩) la cq) q ∧ q.length = la) := Lib.hid ⟨ls, by rw [HLS.out]; rfl, ownP_lower O3 B2.size, H3.out⟩
    clear B2 B3 HO ha hown hgrow hnn O3 A h1 h2
    go_wp2_with fail
  all_goals
    go_loopw [6, 7] (fun o i wr => ∃ k : Nat, k ≤ lb ∧ i = .int .i64 k ∧ (∃ g n c, o = .slice (some ⟨g, 0, none⟩) n c ∧ n ≤ 12 + k ∧ Hid (∃ q, putAllP LS (ms.take k) = some q ∧ OwnP w.heap.size wr o q ∧ q.length = n)) ∧ Below w.heap.size w wr) (fun _ i _ => lb - (intOf i).toNat)
    case atStart => exact ⟨0, Nat.zero_le _, rfl, ⟨_, _, _, rfl, by omega, OZ⟩, BZ⟩
    case round =>
      obtain ⟨k, hk, rfl, ⟨g', n, c, rfl, hn, HQ⟩, hnx⟩ := hrel
      clear OZ BZ
      obtain ⟨q, hq1, hq2, hq3⟩ := HQ.out
      have hq1' := Lib.hid hq1
      have hq3' := Lib.hid hq3
      by_cases hlt : k < lb
      · obtain ⟨bb, off, rfl, hbb, _, _, hts, hc⟩ := HB.out.cells (by omega)
        have ht : ms[k]? = some (ms[k]'(by omega)) := List.getElem?_eq_getElem (by omega)
        have HK : Hid (ms.take (k + 1) = ms.take k ++ [ms[k]'(by omega)]) := Lib.hid (List.take_succ_eq_append_getElem (by omega))
        obtain ⟨c0, c1, m0, m1⟩ := hc k _ ht
        generalize ms[k]'(by omega) = t at ht c0 c1 m0 m1 HK
        clear m0 m1 hc hts ht
        rw [← hnx.cell (p := ⟨bb, _, none⟩) hbb] at c0 c1
        have l1 : bb < wr.drew.heap.size := Nat.lt_of_lt_of_le hbb hnx.size
        have c0d : wr.drew.cell? ⟨bb, off + k * 2, none⟩ = some (.string t.1) := c0
        have c1d : wr.drew.cell? ⟨bb, off + k * 2 + 1, none⟩ = some (.string t.2) := c1
        have hk6 : (0 : Int) ≤ (k : Int) := by omega
        have hk7 : (k : Int) < (lb : Int) := by omega
        have CP := Lib.hid (specPutP w.heap.size g' n c q t.1 t.2 wr.drew (World.ownsRow.drew hq2) hq3 (by omega) hnx.size)
        have BD := Lib.hid hnx.drew
        clear hq1 hq2 hq3 HQ hnx c0 c1
        go_wp2_with fail
        go_region_held3 (fun w' => w'.cell? ⟨bb, off + k * 2, none⟩ = some (.string t.1) ∧ w'.cell? ⟨bb, off + k * 2 + 1, none⟩ = some (.string t.2))
          (first | go_keep | (have q0 := (hb5.cell (p := ⟨bb, off + k * 2, none⟩) l1).trans c0d; have q1 := (hb5.cell (p := ⟨bb, off + k * 2 + 1, none⟩) l1).trans c1d; with_reducible exact ⟨q0, q1⟩))
          (first | (go_at_call 65; refine CP.out.mono ?_; rintro e w5 ⟨g2, n2, c2, f, rfl, hyes, hno, hb5⟩))
        have B5 := BD.out.trans (hb5.mono BD.out.size)
        clear hb5 CP c0d c1d
        cases f
        · have HN : Hid (mergedP LS ms = none) := Lib.hid (merged_stop (by
            rw [← List.take_append_drop (k + 1) ms]
            exact putAllP_none _ _ _ (by rw [HK.out, putAllP_snoc, hq1'.out]; exact hno rfl)))
          clear hyes hno
          go_wp2_with fail
          go_ret2
          exact .inr ⟨rfl, by rw [← HLS.out]; exact HN.out, B5⟩
        · obtain ⟨h, e1, e2, e3⟩ := hyes rfl
          have HH : Hid (∃ q, putAllP LS (ms.take (k + 1)) = some q ∧ OwnP w.heap.size w5 (.slice (some ⟨g2, 0, none⟩) n2 c2) q ∧ q.length = n2) := Lib.hid ⟨h, by rw [HK.out, putAllP_snoc, hq1'.out]; exact e1, e2, e3⟩
          have hn2 : n2 ≤ n + 1 := by have := putP_len e1; rw [hq3'.out, e3] at this; exact this
          clear hyes hno e1 e2 e3
          go_wp2_with fail
          go_roundw
          case rel => exact ⟨k + 1, by omega, by go_num, ⟨g2, n2, c2, rfl, by omega, HH⟩, B5⟩
          case measure => simp [intOf]; omega
      · have hkl : ms.take k = ms := List.take_of_length_le (by rw [HLB.out]; omega)
        have hsq : SmP q := smP_all HS.out.1 HS.out.2 hq1
        have CR := specRowOk (some ⟨g', 0, none⟩) n c q wr (ownP_pres hq2 hsq) hsq
        have HMS := merged_some HR.out.1 HR.out.2 (by rw [hkl] at hq1; exact hq1)
        have HOQ := Lib.hid hq2
        cases hrq : rowOk q
        · rw [hrq] at CR HMS
          have HC := Lib.hid CR
          have HN : Hid (mergedP LS ms = none) := Lib.hid (by rw [HMS]; rfl)
          clear CR HMS hrq hq1 hq2 hq3 HQ hkl hsq
          go_wp2_with fail
          refine HC.out.mono ?_
          rintro e w5 ⟨rfl, hb5⟩
          have B5 := hnx.trans (hb5.mono hnx.size)
          clear hb5
          go_wp2_with fail
          go_ret2
          exact .inr ⟨rfl, by rw [← HLS.out]; exact HN.out, B5⟩
        · rw [hrq] at CR HMS
          have HC := Lib.hid CR
          have HN : Hid (mergedP LS ms = some q) := Lib.hid (by rw [HMS]; rfl)
          clear CR HMS hrq hq1 hq2 hq3 HQ hkl hsq
          go_wp2_with fail
          refine HC.out.mono ?_
          rintro e w5 ⟨rfl, hb5⟩
          have B5 := hnx.trans (hb5.mono hnx.size)
          have O5 : Hid (OwnP w.heap.size w5 (.slice (some ⟨g', 0, none⟩) n c) q) := Lib.hid (World.ownsRow.kept HOQ.out (grown_of_below hb5) (.inr (by simp [Value.ownBlock])))
          clear hb5
          go_wp2_with fail
          go_ret2
          exact .inl ⟨_, q, rfl, by rw [← HLS.out]; exact HN.out, O5.out, B5⟩
end Go.Proofs.Ytegjbfbmhlaelaa
