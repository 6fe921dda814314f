/- Rows merged: the program's way. -/
import Derived.Test.YtiajdnhmjdfeeaaGreatKAS
import Derived.Test.YtiajdnhmjdfeeaaGreatK33
import Derived.Test.YtiajdnhmjdfeeaaGreatK32
import Derived.Test.YtiajdnhmjdfeeaaGreatK26
import Derived.Test.YtiajdnhmjdfeeaaGreatKA02
import Derived.Deep.QuietTactic
import Derived.BigQuiet
namespace Go.Proofs.YtiajdnhmjdfeeaaGreat
open Go.RowKit Go.WideShapes
theorem bl_ne2 {a b : ByteArray} (h : a ≠ b) : (a.toList == b.toList) = false := by
  rw [beq_eq_false_iff_ne]
  intro e
  rw [ByteArray.toList_eq, ByteArray.toList_eq] at e
  exact h (data_inj e)
set_option maxRecDepth 100000 in
set_option maxHeartbeats 3200000 in
theorem implMerged (a b : Option Addr) (la ca lb cb : Nat) (ls ms : List Pre2) (w : World) (ha : IsPres w a la ca ls) (hb : IsPres w b lb cb ms) (hsa : SmP ls) (hsb : SmP ms) :
    Calls Tryz.prog 28 #[.slice a la ca, .slice b lb cb] w (MergePost ls ms w) := by
  obtain ⟨i0, hi, hz0, hz1, hz2⟩ := info_parts infoPair
  have C1 := implRowOk a la ca ls w ha hsa
  have C2 := fun W hi => implRowOk b lb cb ms W hi hsb
  have HA := Lib.hid ha
  have HB := Lib.hid hb
  cases hra : rowOk ls
  · rw [hra] at C1
    have HC1 := Lib.hid C1
    have HN := Lib.hid (merged_no (lb := ms) (.inl hra))
    clear C1 C2 ha hb hra
    go_enter Tryz.func28, Tryz.ntmps28
    go_wp2_with fail
    refine HC1.out.mono ?_
    rintro e w1 ⟨rfl, hb1⟩
    go_wp2_with fail
    go_ret2
    exact .inr ⟨rfl, HN.out, hb1⟩
  cases hrb : rowOk ms
  · rw [hra] at C1
    simp only [hrb] at C2
    have HC1 := Lib.hid C1
    have HC2 := Lib.hid C2
    have HN := Lib.hid (merged_no (la := ls) (.inr hrb))
    clear C1 C2 ha hb hra hrb
    go_enter Tryz.func28, Tryz.ntmps28
    go_wp2_with fail
    refine HC1.out.mono ?_
    rintro e w1 ⟨rfl, hb1⟩
    have B1 := hb1
    clear hb1
    go_wp2_with fail
    refine (HC2.out _ (HB.out.next B1)).mono ?_
    rintro e w2 ⟨rfl, hb2⟩
    go_wp2_with fail
    go_ret2
    exact .inr ⟨rfl, HN.out, B1.trans (hb2.mono B1.size)⟩
  rw [hra] at C1
  simp only [hrb] at C2
  have hla : la ≤ 12 := by have := row_len hra; rw [ha.len] at this; exact this
  have hlb : lb ≤ 12 := by have := row_len hrb; rw [hb.len] at this; exact this
  obtain ⟨LS, hLS⟩ : ∃ LS, LS = ls := ⟨_, rfl⟩
  have HLS := Lib.hid hLS
  rw [← hLS] at hra hsa
  have HR := Lib.hid (And.intro hra hrb)
  have HC1 := Lib.hid C1
  have HC2 := Lib.hid C2
  have HS := Lib.hid (And.intro hsa hsb)
  have HLB := Lib.hid hb.len
  clear C1 C2 hb hra hrb hsa hsb hLS HA
  go_enter Tryz.func28, Tryz.ntmps28
  go_wp2_with fail
  refine HC1.out.mono ?_
  rintro e w1 ⟨rfl, hb1⟩
  have B1 := hb1
  clear hb1 HC1
  go_wp2_with fail
  refine (HC2.out _ (HB.out.next B1)).mono ?_
  rintro e w2 ⟨rfl, hb2⟩
  have B2 := B1.trans (hb2.mono B1.size)
  clear hb2 B1 HC2
  go_wp2_with fail
  refine (clonePair a la ca ls _ (ha.next B2) (by omega)).mono ?_
  rintro e w3 ⟨v, rfl, o3, hb3⟩
  have B3 := B2.trans (hb3.mono B2.size)
  obtain ⟨g0, c0, rfl, _⟩ := o3.is ha.small
  have OZ : Hid (∃ q, putAllP LS (ms.take 0) = some q ∧ OwnP w.heap.size w3 (.slice g0 ls.length c0) q ∧ q.length = ls.length) := Lib.hid ⟨ls, by rw [HLS.out]; rfl, ownP_lower o3 B2.size, rfl⟩
  rw [ha.len] at OZ ⊢
  clear B2 ha hb3 o3
  go_wp2_with fail
  go_loopw [6, 23] (fun o i wr => ∃ k : Nat, k ≤ lb ∧ i = .int .i64 k ∧ (∃ g n c, o = .slice g n c ∧ n ≤ 12 + k ∧ Hid (∃ q, putAllP LS (ms.take k) = some q ∧ OwnP w.heap.size wr o q ∧ q.length = n)) ∧ Below w.heap.size w wr) (fun _ i _ => lb - (intOf i).toNat)
  case atStart => exact ⟨0, Nat.zero_le _, rfl, ⟨_, _, _, rfl, by omega, OZ⟩, B3⟩
  case round =>
    obtain ⟨k, hk, rfl, ⟨g', n, c, rfl, hn, HQ⟩, hnx⟩ := hrel
    clear OZ B3
    obtain ⟨q, hq1, hq2, hq3⟩ := HQ.out
    have hq1' := Lib.hid hq1
    have hq3' := Lib.hid hq3
    by_cases hlt : k < lb
    · obtain ⟨bb, off, rfl, hbb, _, _, hts, hc⟩ := HB.out.cells (by omega)
      have ht : ms[k]? = some (ms[k]'(by omega)) := List.getElem?_eq_getElem (by omega)
      have HK : Hid (ms.take (k + 1) = ms.take k ++ [ms[k]'(by omega)]) := Lib.hid (List.take_succ_eq_append_getElem (by omega))
      obtain ⟨c0, c1, m0, m1⟩ := hc k _ ht
      generalize ms[k]'(by omega) = t at ht c0 c1 m0 m1 HK
      clear m0 m1 hc hts ht
      rw [← hnx.cell (p := ⟨bb, _, none⟩) hbb] at c0 c1
      have hk6 : (0 : Int) ≤ (k : Int) := by omega
      have hk7 : (k : Int) < (lb : Int) := by omega
      have hsq : SmP q := smP_all HS.out.1 HS.out.2 hq1
      have haq : Asc q := putAllP_asc (asc_of (by have := HR.out.1; unfold rowOk at this; simp only [Bool.and_eq_true] at this; exact this.2)) hq1
      have T0 := Box2.new wr (.string t.1) (.string t.2) 55
      have BA := (Below.refl wr.heap.size wr).alloc (Nat.le_refl _) (.cells #[.string t.1, .string t.2] 55)
      have O1 := World.ownsRow.alloc hq2 (.cells #[.string t.1, .string t.2] 55)
      have B1 := hnx.trans (BA.mono hnx.size)
      have hlt1 := fun j hj => (World.ownsRow.lt hq2 j hj).2
      have hsz1 := hnx.size
      have CP := Lib.hid (implPlaceIn g' n c q t.1 (wr.alloc (.cells #[.string t.1, .string t.2] 55)) (ownP_pres O1 hsq) haq (by omega))
      clear hq1 hq2 HQ hnx BA
      go_wp2_with fail
      generalize wr.alloc (.cells #[.string t.1, .string t.2] 55) = wa at T0 O1 B1 CP ⊢
      generalize wr.heap.size = pb at T0 hlt1 hsz1 ⊢
      refine CP.out.mono ?_
      rintro e w5 ⟨lo, f, rfl, hlo, hpos, hyes, hno, hb5⟩
      have B5 := B1.trans (hb5.mono B1.size)
      have T5 : Box2 w5 pb (.string t.1) (.string t.2) 55 := (hb5.block pb (Array.getElem?_eq_some_iff.1 T0).1).trans T0
      have O5 : OwnP w.heap.size w5 (.slice g' n c) q := World.ownsRow.kept O1 (grown_of_below hb5) (by cases g' <;> simp [Value.ownBlock])
      clear hb5 CP B1 T0 O1 c0 c1
      obtain ⟨e0, e1⟩ := T5.cells
      cases f
      · have hnew := hno rfl
        have HH := putP_new (g := q) (p := t) hpos (fun u hu => hnew u (List.mem_of_getElem? hu))
        have V0 := Box2.new w5 (.string t.1) (.string t.2) 55
        have OV := World.ownsRow.alloc O5 (.cells #[.string t.1, .string t.2] 55)
        have BV := B5.alloc B5.size (.cells #[.string t.1, .string t.2] 55)
        have hlt5 := fun j hj => (World.ownsRow.lt O5 j hj)
        have CI := Lib.hid (insPair w.heap.size (.slice g' n c) q t lo (w5.alloc (.cells #[.string t.1, .string t.2] 55)) w5.heap.size 55 OV BV.size V0 (fun e => by have := (hlt5 _ e).2; omega) (by omega) hlo)
        have HI := Lib.hid HH
        have HBV := Lib.hid BV
        clear hyes hno hnew hpos HH OV V0 O5
        go_wp2_with fail
        refine CI.out.mono ?_
        rintro e w6 ⟨v6, rfl, o6, hg6⟩
        have B6 := HBV.out.grown hg6 HBV.out.size (fun j hj => (hlt5 j hj).1)
        obtain ⟨g6, c6, rfl, _⟩ := o6.is (fun u hu => by
          have : SmP ((q.take lo ++ [t]) ++ q.drop lo) := smP_all HS.out.1 HS.out.2 (k := k + 1) (by rw [HK.out, putAllP_snoc, hq1'.out]; exact HI.out)
          have := this u hu
          unfold maxLen; omega)
        have hl6 := ins_length q lo t hlo
        have H6 : Hid (∃ z, putAllP LS (ms.take (k + 1)) = some z ∧ OwnP w.heap.size w6 (.slice g6 ((q.take lo ++ [t]) ++ q.drop lo).length c6) z ∧ z.length = ((q.take lo ++ [t]) ++ q.drop lo).length) := Lib.hid ⟨_, by rw [HK.out, putAllP_snoc, hq1'.out]; exact HI.out, o6, rfl⟩
        rw [hl6, hq3'.out] at H6 ⊢
        clear CI hg6 o6 hl6 HI HBV hlt5 T5 B5
        go_wp2_with fail
        go_roundw
        case rel => exact ⟨k + 1, by omega, by go_num, ⟨g6, n + 1, c6, rfl, by omega, H6⟩, B6⟩
        case measure => simp [intOf]; omega
      · obtain ⟨u, hu, hux⟩ := hyes rfl
        have hll := (List.getElem?_eq_some_iff.1 hu).1
        obtain ⟨bq, offq, rfl, hbq, _, _, _, hcq⟩ := (ownP_pres O5 hsq).cells (by omega)
        obtain ⟨d0, d1, _, _⟩ := hcq lo _ hu
        have hk8 : (0 : Int) ≤ (lo : Int) := by omega
        have hk9 : (lo : Int) < (n : Int) := by omega
        have hk10 : lo < n := by omega
        have HO5 := Lib.hid O5
        have HB5 := Lib.hid B5
        by_cases heq : u.2 = t.2
        · have HH := Lib.hid (putP_same (g := q) (p := t) hpos hu hux heq)
          have e5 : (u.2.toList == t.2.toList) = true := by rw [heq]; simp
          have H6 : Hid (∃ q, putAllP LS (ms.take (k + 1)) = some q ∧ ∀ W, Below w5.heap.size w5 W → OwnP w.heap.size W (.slice (some ⟨bq, offq, none⟩) n c) q ∧ q.length = n) := Lib.hid ⟨q, by rw [HK.out, putAllP_snoc, hq1'.out]; exact HH.out, fun W hW => ⟨World.ownsRow.kept HO5.out (grown_of_below hW) (.inr (by simp [Value.ownBlock])), hq3'.out⟩⟩
          clear hyes hno hpos HH O5 B5 hcq hu hux heq hll hsq haq
          go_wp2_with fail
          go_quiet (fail)
          have B6 := below_drewN HB5.out nq
          have H7 : Hid (∃ q, putAllP LS (ms.take (k + 1)) = some q ∧ OwnP w.heap.size (w5.drewN nq) (.slice (some ⟨bq, offq, none⟩) n c) q ∧ q.length = n) := Lib.hid (by
            obtain ⟨q, h1, h2⟩ := H6.out
            have h3 := h2 _ (below_drewN (Below.refl w5.heap.size w5) nq)
            exact ⟨q, h1, h3.1, h3.2⟩)
          clear T5 e0 e1 d0 d1 H6 HO5 HB5
          generalize w5.drewN nq = wd at B6 H7 ⊢
          go_wp2_with fail
          go_roundw
          case rel => exact ⟨k + 1, by omega, by go_num, ⟨_, n, c, rfl, by omega, H7⟩, B6⟩
          case measure => simp [intOf]; omega
        · have HH := Lib.hid (putP_other (g := q) (p := t) hpos hu hux heq)
          have e5 : (u.2.toList == t.2.toList) = false := bl_ne2 heq
          have HN : Hid (mergedP LS ms = none) := Lib.hid (merged_stop (by
            rw [← List.take_append_drop (k + 1) ms]
            exact putAllP_none _ _ _ (by rw [HK.out, putAllP_snoc, hq1'.out]; exact HH.out)))
          clear hyes hno hpos HH O5 B5 hcq hu hux heq hll hsq haq
          go_wp2_with fail
          go_quiet (fail)
          have B6 := below_drewN HB5.out nq
          clear T5 e0 e1 d0 d1 HO5 HB5
          generalize w5.drewN nq = wd at B6 ⊢
          go_wp2_with fail
          go_ret2
          exact .inr ⟨rfl, by rw [← HLS.out]; exact HN.out, B6⟩
    · have hkl : ms.take k = ms := List.take_of_length_le (by rw [HLB.out]; omega)
      have hsq : SmP q := smP_all HS.out.1 HS.out.2 hq1
      have CR := implRowOk g' n c q wr (ownP_pres hq2 hsq) hsq
      have HMS := merged_some HR.out.1 HR.out.2 (by rw [hkl] at hq1; exact hq1)
      have HOQ := Lib.hid hq2
      cases hrq : rowOk q
      · rw [hrq] at CR HMS
        have HC := Lib.hid CR
        have HN : Hid (mergedP LS ms = none) := Lib.hid (by rw [HMS]; rfl)
        clear CR HMS hrq hq1 hq2 hq3 HQ hkl hsq
        go_wp2_with fail
        refine HC.out.mono ?_
        rintro e w5 ⟨rfl, hb5⟩
        have B5 := hnx.trans (hb5.mono hnx.size)
        clear hb5
        go_wp2_with fail
        go_ret2
        exact .inr ⟨rfl, by rw [← HLS.out]; exact HN.out, B5⟩
      · rw [hrq] at CR HMS
        have HC := Lib.hid CR
        have HN : Hid (mergedP LS ms = some q) := Lib.hid (by rw [HMS]; rfl)
        clear CR HMS hrq hq1 hq2 hq3 HQ hkl hsq
        go_wp2_with fail
        refine HC.out.mono ?_
        rintro e w5 ⟨rfl, hb5⟩
        have B5 := hnx.trans (hb5.mono hnx.size)
        have O5 : Hid (OwnP w.heap.size w5 (.slice g' n c) q) := Lib.hid (World.ownsRow.kept HOQ.out (grown_of_below hb5) (by cases g' <;> simp [Value.ownBlock]))
        clear hb5
        go_wp2_with fail
        go_ret2
        exact .inl ⟨_, q, rfl, by rw [← HLS.out]; exact HN.out, O5.out, B5⟩
end Go.Proofs.YtiajdnhmjdfeeaaGreat
