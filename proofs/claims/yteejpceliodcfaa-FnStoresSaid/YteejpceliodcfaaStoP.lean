/- The specification's triples in a store's order. -/
import Derived.Test.YteejpceliodcfaaStoM
import Derived.Test.YteejpceliodcfaaFlat
import Derived.Test.YteejpceliodcfaaOwnG
import Derived.Test.YteejpceliodcfaaBox
import Derived.Deep.RegionHeld3
namespace Go.Proofs.Yteejpceliodcfaa
open Go.RowKit Go.WideShapes
theorem specTurn1 (t : Tri3) (w : World) : Calls Try.prog 110 #[.agg #[.string t.1, .string t.2.1, .string t.2.2], .int .i64 1] w fun e w' => e = .returned (.agg #[.string t.2.1, .string t.2.2, .string t.1]) ∧ Below w.heap.size w w' := by
  go_enter Try.func110, Try.ntmps110
  go_wp2_with fail
  refine bodyPost_ret (v := .agg #[.string t.2.1, .string t.2.2, .string t.1]) (by simp [results, Try.results110, go_sem, *]) rfl ⟨rfl, ?_⟩
  exact ((Below.refl _ _).alloc (Nat.le_refl _) _).alloc (by simp) _
theorem specTurn2 (t : Tri3) (w : World) : Calls Try.prog 110 #[.agg #[.string t.1, .string t.2.1, .string t.2.2], .int .i64 2] w fun e w' => e = .returned (.agg #[.string t.2.2, .string t.1, .string t.2.1]) ∧ Below w.heap.size w w' := by
  go_enter Try.func110, Try.ntmps110
  go_wp2_with fail
  refine bodyPost_ret (v := .agg #[.string t.2.2, .string t.1, .string t.2.1]) (by simp [results, Try.results110, go_sem, *]) rfl ⟨rfl, ?_⟩
  exact ((Below.refl _ _).alloc (Nat.le_refl _) _).alloc (by simp) _
set_option maxRecDepth 100000 in
set_option maxHeartbeats 3200000 in
theorem specSorted1 (a : Option Addr) (len cap : Nat) (ts : List Tri3) (w : World) (h : IsTris w a len cap ts) (hl : len ≤ 1048576) :
    Calls Try.prog 68 #[.slice a len cap, .int .i64 1] w (CopyPost (insH 1 ts) w) := by
  obtain ⟨i0, hi, hz0, hz1, hz2⟩ := info_parts infoTri
  have H := Lib.hid h
  have HM := Lib.hid h.small
  have HT := Lib.hid h.len
  have B0 := (Below.refl w.heap.size w).alloc (Nat.le_refl _) (.cells #[] 46)
  have O0 : OwnT w.heap.size (w.alloc (.cells #[] 46)) (.slice (some ⟨w.heap.size, 0, none⟩) 0 0) [] := World.ownsRow_lit (size := 3) (e := 46) w #[] 0 (Nat.le_refl _) (by decide) rfl
  clear h
  go_enter Try.func68, Try.ntmps68
  go_wp2_with fail
  go_loopw [5, 6] (fun v i wr => ∃ k g c : Nat, k ≤ len ∧ i = .int .i64 k ∧ v = .slice (some ⟨g, 0, none⟩) k c ∧ Hid (OwnT w.heap.size wr (.slice (some ⟨g, 0, none⟩) k c) (insH 1 (ts.take k))) ∧ Below w.heap.size w wr) (fun _ i _ => len - (intOf i).toNat)
  case atStart => exact ⟨0, w.heap.size, 0, Nat.zero_le _, rfl, rfl, Lib.hid (by simpa [insH] using O0), B0⟩
  case round =>
    obtain ⟨k, g, c, hk, rfl, rfl, hown, hnx⟩ := hrel
    clear O0 B0
    by_cases hlt : k < len
    · obtain ⟨b, off, rfl, hb, hl', hm, hts, hcs⟩ := H.out.cells (by omega)
      have ht : ts[k]? = some (ts[k]'(by omega)) := List.getElem?_eq_getElem (by omega)
      obtain ⟨d0, d1, d2, m0, m1, m2⟩ := hcs k _ ht
      have HS : Hid (ts.take (k + 1) = ts.take k ++ [ts[k]'(by omega)]) := Lib.hid (List.take_succ_eq_append_getElem (by omega))
      have hal : (insH 1 (ts.take k)).length = k := by rw [insH_len, List.length_take]; omega
      have HAM : Hid (∀ u ∈ insH 1 (ts.take k), u.1.size ≤ maxLen ∧ u.2.1.size ≤ maxLen ∧ u.2.2.size ≤ maxLen) := Lib.hid (fun u hu => HM.out u (List.mem_of_mem_take (insH_sub hu)))
      generalize ts[k]'(by omega) = t at ht d0 d1 d2 m0 m1 m2 HS
      have HX : Hid (insH 1 (ts.take (k + 1)) = putH 1 (insH 1 (ts.take k)) t) := Lib.hid (by rw [HS.out, insH_snoc])
      obtain ⟨acc, hacc⟩ : ∃ acc, insH 1 (ts.take k) = acc := ⟨_, rfl⟩
      rw [hacc] at hown hal HAM HX
      have DW := Lib.hid (And.intro d0 (And.intro d1 d2))
      have HL := Lib.hid hal
      have hk6 : (0 : Int) ≤ (k : Int) := by omega
      have hk7 : (k : Int) < (len : Int) := by omega
      clear ht hts hcs m0 m1 m2 hacc HS hal d0 d1 d2 hl' hm
      go_wp2_with fail
      obtain ⟨wo, hwo⟩ : ∃ wo : World, wo = wr := ⟨_, rfl⟩
      go_loopw [7] (fun i w2 => ∃ q : Nat, q ≤ k ∧ i = .int .i64 q ∧ Hid (∀ i u, i < q → acc[i]? = some u → aheadH 1 u t = true) ∧ Hid (OwnT w.heap.size w2 (.slice (some ⟨g, 0, none⟩) k c) acc) ∧ Below w.heap.size w w2) (fun i _ => k - (intOf i).toNat)
      case atStart => exact ⟨0, Nat.zero_le _, rfl, Lib.hid (fun i u hi => by omega), hown, hnx⟩
      case round =>
        obtain ⟨q, hq, rfl, hah, ho2, hn2⟩ := hrel
        clear hown hnx hwo
        obtain ⟨x, cx, hvx, his⟩ := OwnT.is ho2.out HAM.out
        rw [HL.out] at hvx his
        simp only [Value.slice.injEq, true_and] at hvx
        obtain ⟨rfl, rfl⟩ := hvx
        obtain ⟨d0, d1, d2⟩ := DW.out
        rw [← hn2.cell (p := ⟨b, _, none⟩) hb] at d0 d1 d2
        have hq6 : (0 : Int) ≤ (q : Int) := by omega
        have l0 : b < wr.heap.size := Nat.lt_of_lt_of_le hb hn2.size
        by_cases hlt2 : q < k
        case' pos =>
          obtain ⟨b', off', hbo, hb', _, hm', hts', hcs'⟩ := his.cells (by omega)
          cases hbo
          have hu : acc[q]? = some (acc[q]'(by have := HL.out; omega)) := List.getElem?_eq_getElem _
          obtain ⟨c0, c1, c2, n0, n1, n2⟩ := hcs' q _ hu
          clear n0 n1 n2
          simp only [Nat.zero_add] at c0 c1 c2
          generalize acc[q]'(by have := HL.out; omega) = u at hu c0 c1 c2
          have hq7 : (q : Int) < (k : Int) := by omega
          have HU := Lib.hid hu
          have T1 := Lib.hid (specTurn1 u)
          have T2 := Lib.hid (specTurn1 t)
          have A1 := specAhead u.2.1 u.2.2 u.1 t.2.1 t.2.2 t.1
          change ∀ w, Calls _ _ _ w fun e w' => e = .returned (.bool (aheadH 1 u t)) ∧ Below w.heap.size w w' at A1
          obtain ⟨ah, hqa⟩ : ∃ ah, aheadH 1 u t = ah := ⟨_, rfl⟩
          rw [hqa] at A1
          have HQA := Lib.hid hqa
          have C1 := Lib.hid A1
          obtain ⟨u0, u1, u2⟩ := u
          obtain ⟨t0, t1, t2⟩ := t
          simp only at c0 c1 c2 d0 d1 d2 T1 T2
          have HB2 := Lib.hid hn2
          clear A1 hqa hu hts' hcs' hm' his hn2
          go_wp2_with fail
          go_region_held3 (fun w' => w'.cell? ⟨g, q * 3, none⟩ = some (.string u0) ∧ w'.cell? ⟨g, q * 3 + 1, none⟩ = some (.string u1) ∧ w'.cell? ⟨g, q * 3 + 2, none⟩ = some (.string u2) ∧ w'.cell? ⟨b, off + k * 3, none⟩ = some (.string t0) ∧ w'.cell? ⟨b, off + k * 3 + 1, none⟩ = some (.string t1) ∧ w'.cell? ⟨b, off + k * 3 + 2, none⟩ = some (.string t2))
            (first | go_keep | (go_split_ands; refine ⟨?_, ?_, ?_, ?_, ?_, ?_⟩ <;> (rw [h4.cell (World.block_lt_of_cell? _ _ (by assumption))]; assumption)) | (go_split_ands; refine ⟨?_, ?_, ?_, ?_, ?_, ?_⟩ <;> (rw [h3.cell (World.block_lt_of_cell? _ _ (by assumption))]; assumption)) | (go_split_ands; refine ⟨?_, ?_, ?_, ?_, ?_, ?_⟩ <;> (rw [h5.cell (World.block_lt_of_cell? _ _ (by assumption))]; assumption)))
            (first
              | (go_at_call_of 110 (Value.agg #[.string u0, .string u1, .string u2]); refine (T1.out _).mono ?_; rintro e w3 ⟨rfl, h3⟩)
              | (go_at_call_of 110 (Value.agg #[.string t0, .string t1, .string t2]); refine (T2.out _).mono ?_; rintro e w4 ⟨rfl, h4⟩)
              | (go_at_call 99; refine (C1.out _).mono ?_; rintro e w5 ⟨rfl, h5⟩))
          have X3 := HB2.out.drew.trans (h3.mono HB2.out.size)
          have X4 := X3.trans (h4.mono X3.size)
          have BE := X4.trans (h5.mono X4.size)
          have OE : OwnT w.heap.size w5 (.slice (some ⟨g, 0, none⟩) k c) acc := own_next (own_next (own_next (World.ownsRow.drew ho2.out) (grown_of_below h3)) (grown_of_below h4)) (grown_of_below h5)
          clear X3 X4 h3 h4 h5 c0 c1 c2 d0 d1 d2 ho2 HB2 T1 T2 C1
          generalize w5 = we at BE OE ⊢
          cases ah
          case' true =>
            have HN : Hid (∀ i u, i < q + 1 → acc[i]? = some u → aheadH 1 u (t0, t1, t2) = true) := Lib.hid (fun i v hi hv => by
              rcases Nat.lt_or_ge i q with g | g
              · exact hah.out i v g hv
              · obtain rfl : i = q := by omega
                rw [HU.out] at hv; obtain rfl := Option.some.inj hv; exact HQA.out)
            have HO := Lib.hid OE
            clear OE hah HU HQA
            go_wp2_with fail
            go_roundw
            case rel => exact ⟨q + 1, by omega, by go_num, HN, HO, BE⟩
            case measure => simp [intOf]; omega
          case' false =>
            have HA : Hid (atH 1 (t0, t1, t2) acc = q) := Lib.hid (atH_is hah.out (by have := HL.out; omega) (fun v hv => by rw [HU.out] at hv; obtain rfl := Option.some.inj hv; exact HQA.out))
            clear hah HU HQA
        case' neg =>
          have hqk : q = k := by omega
          have HA : Hid (atH 1 t acc = q) := Lib.hid (atH_is hah.out (by have := HL.out; omega) (fun v hv => by have := (List.getElem?_eq_some_iff.1 hv).1; have := HL.out; omega))
          have hd2 : decide ((q : Int) < (k : Int)) = false := decide_eq_false (by omega)
          have OE := ho2.out
          have BE := hn2
          obtain ⟨t0, t1, t2⟩ := t
          clear hqk hah ho2 hn2 his
          go_wp2_with fail
          go_quiet (fail)
          have BE2 : Below w.heap.size w (wr.drewN nq) := below_drewN BE nq
          have OE2 : OwnT w.heap.size (wr.drewN nq) (.slice (some ⟨g, 0, none⟩) k c) acc := OE
          clear BE OE d0 d1 d2 hd2
          have BE := BE2
          have OE := OE2
          clear BE2 OE2
          generalize wr.drewN nq = we at BE OE ⊢
        all_goals
          have hgl := (World.ownsRow.lt OE g (by simp [Value.ownBlock]))
          have O0 : OwnT we.heap.size (we.alloc (.cells #[] 46)) (.slice (some ⟨we.heap.size, 0, none⟩) 0 0) [] := World.ownsRow_lit (size := 3) (e := 46) we #[] 0 (Nat.le_refl _) (by decide) rfl
          have BA := BE.alloc BE.size (.cells #[] 46)
          have OA : OwnT w.heap.size (we.alloc (.cells #[] 46)) (.slice (some ⟨g, 0, none⟩) k c) acc := World.ownsRow.alloc OE (.cells #[] 46)
          obtain ⟨x, cx, hvx, his⟩ := OwnT.is OA HAM.out
          rw [HL.out] at hvx his
          simp only [Value.slice.injEq, true_and] at hvx
          obtain ⟨rfl, rfl⟩ := hvx
          have HF1 := Lib.hid (his.front q)
          have HI := Lib.hid (OwnT.is OE HAM.out)
          have HO := Lib.hid O0
          have hlk : (acc.take q).length = q := by rw [List.length_take, HL.out]; omega
          obtain ⟨tk, htk⟩ : ∃ l, acc.take q = l := ⟨_, rfl⟩
          rw [htk] at hlk HF1
          have HTKE := Lib.hid htk
          have HLK := Lib.hid hlk
          have OEH := Lib.hid OE
          have hcap : k ≤ c := by
            rcases OE.2 with ⟨h, _⟩ | ⟨_, _, _, h, _, _, h1, _⟩
            · cases h
            · cases h; exact h1
          clear htk hlk O0 OA his OE BE
          go_wp2_with (at_builtin; refine wpList_append_own _ rfl _ _ 27 rfl we.heap.size 46 i0 (.agg #[.string ⟨#[]⟩, .string ⟨#[]⟩, .string ⟨#[]⟩]) 3 48 Try.underlying27 hi hz0 hz1 hz2 rfl (by decide) _ _ _ rfl HO.out ⟨g, 0, none⟩ q _ (flat tk) rfl (by rw [flat_len, HLK.out]) HF1.out (by first | exact flat_one _ | (intro x hx; simp at hx; rcases hx with rfl | rfl | rfl <;> rfl)) ?h63a ?h48a ?hbsa ?_)
          case h63a => rw [List.length_nil]; unfold maxLen; omega
          case h48a => rw [List.length_nil]; omega
          case hbsa => first | omega | (simp only [World.size_alloc]; omega)
          intro v1 w1 hown1 hg1 _
          have O1 : OwnT we.heap.size w1 v1 tk := by unfold OwnT; rw [HLK.out]; simpa [flat] using hown1
          have B1 : Below w.heap.size w w1 := BA.grown hg1 BA.size (fun j hj => by simp [Value.ownBlock] at hj; omega)
          have hs1 : we.heap.size + 1 ≤ w1.heap.size := by have := hg1.size; rw [World.size_alloc] at this; omega
          have hge : we.grownBy w1 none := ⟨hg1.os, hg1.tape, hg1.output, by omega, fun j hj _ => by
            rw [hg1.block j (by rw [World.size_alloc]; omega) (by simp [Value.ownBlock]; omega)]; exact Below.heap_alloc _ _ j hj⟩
          have OE1 := Lib.hid (own_next OEH.out hge)
          have HO1 := Lib.hid O1
          have hne1 := fun j hj => (World.ownsRow.lt O1 j hj).1
          obtain ⟨f0, f1, f2⟩ := DW.out
          try simp only at f0 f1 f2
          rw [← B1.cell (p := ⟨b, _, none⟩) hb] at f0 f1 f2
          clear hown1 hg1 HO HF1 BA O1 hge OEH
          have HC : ∀ (j : Nat) (x : Value), [Value.string t0, .string t1, .string t2][j]? = some x → (w1.alloc (.cells #[.string t0, .string t1, .string t2] 46)).cell? ((⟨w1.heap.size, 0, none⟩ : Addr).add j) = some x := three_cell
          have HH := Lib.hid HC
          have B1a := B1.alloc B1.size (.cells #[.string t0, .string t1, .string t2] 46)
          have O1a := Lib.hid (World.ownsRow.alloc HO1.out (.cells #[.string t0, .string t1, .string t2] 46))
          have OE1a := Lib.hid (World.ownsRow.alloc OE1.out (.cells #[.string t0, .string t1, .string t2] 46))
          clear HC
          go_wp2_with (at_builtin; refine wpList_append_own _ rfl _ _ 27 rfl we.heap.size 46 i0 (.agg #[.string ⟨#[]⟩, .string ⟨#[]⟩, .string ⟨#[]⟩]) 3 48 Try.underlying27 hi hz0 hz1 hz2 rfl (by decide) _ _ _ rfl O1a.out ⟨w1.heap.size, 0, none⟩ 1 _ [.string t0, .string t1, .string t2] rfl rfl HH.out (by first | exact flat_one _ | (intro x hx; simp at hx; rcases hx with rfl | rfl | rfl <;> rfl)) ?h63b ?h48b ?hbsb ?_)
          case h63b => rw [HLK.out]; unfold maxLen; omega
          case h48b => rw [HLK.out]; omega
          case hbsb => first | omega | (simp only [World.size_alloc]; omega)
          intro v2 w2 hown2 hg2 _
          have O2 : OwnT we.heap.size w2 v2 (tk ++ [(t0, t1, t2)]) := own3_snoc (t := (t0, t1, t2)) hown2
          have B2 : Below w.heap.size w w2 := B1a.grown hg2 B1a.size (fun j hj => by have := hne1 j hj; omega)
          have hs2 : we.heap.size + 1 ≤ w2.heap.size := by have := hg2.size; rw [World.size_alloc] at this; omega
          have OE2 : OwnT w.heap.size w2 (.slice (some ⟨g, 0, none⟩) k c) acc := World.ownsRow.kept OE1a.out hg2 (.inr (fun e => by have := hne1 g e.symm; omega))
          have hne2 := fun j hj => (World.ownsRow.lt O2 j hj).1
          have HO2 := Lib.hid O2
          have O2b := O2
          obtain ⟨x, cx, hvx, his⟩ := OwnT.is OE2 HAM.out
          rw [HL.out] at hvx his
          simp only [Value.slice.injEq, true_and] at hvx
          obtain ⟨rfl, rfl⟩ := hvx
          have HF2 := Lib.hid (his.back q (by rw [HL.out]; omega))
          have hld : (acc.drop q).length = k - q := by rw [List.length_drop, HL.out]
          obtain ⟨td, htd⟩ : ∃ l, acc.drop q = l := ⟨_, rfl⟩
          rw [htd] at hld HF2
          have HTD := Lib.hid htd
          have HLD := Lib.hid hld
          have hlp : (tk ++ [(t0, t1, t2)]).length = q + 1 := by rw [List.length_append, HLK.out]; rfl
          obtain ⟨pf, hpf⟩ : ∃ l, tk ++ [(t0, t1, t2)] = l := ⟨_, rfl⟩
          rw [hpf] at hlp O2b
          have HPF := Lib.hid hpf
          have HLP := Lib.hid hlp
          have HOY := Lib.hid O2b
          clear hown2 hg2 O1a HH B1a O2 HO1 B1 OE1 OE1a OE2 his htd hld hlp hpf O2b f0 f1 f2
          by_cases hcq : c = q
          · have HTD0 : Hid (td = []) := Lib.hid (List.length_eq_zero_iff.1 (by rw [HLD.out]; omega))
            go_wp2_with (at_builtin; refine wpList_append_own _ rfl _ _ 27 rfl we.heap.size 46 i0 (.agg #[.string ⟨#[]⟩, .string ⟨#[]⟩, .string ⟨#[]⟩]) 3 48 Try.underlying27 hi hz0 hz1 hz2 rfl (by decide) _ _ _ rfl HOY.out _ (k - q) _ (flat td) rfl (by rw [flat_len, HLD.out]) ?hcl (by exact flat_one _) ?h63c ?h48c ?hbsc ?_)
            case hcl => intro j u hj; rw [HTD0.out] at hj; simp [flat] at hj
            case h63c => rw [HLP.out]; unfold maxLen; omega
            case h48c => rw [HLP.out]; omega
            case hbsc => first | omega | (simp only [World.size_alloc]; omega)
            intro v3 w3 hown3 hg3 _
            have O3 : OwnT we.heap.size w3 v3 (pf ++ td) := by unfold OwnT; rw [List.length_append, HLD.out, flat_append]; exact hown3
            have hpl : (pf ++ td).length = k + 1 := by rw [List.length_append, HLP.out, HLD.out]; omega
            have B3 : Below w.heap.size w w3 := B2.grown hg3 B2.size (fun j hj => by have := hne2 j hj; omega)
            obtain ⟨g3, c3, rfl⟩ := own_some O3 (by omega)
            have O4 := own_base O3 (Nat.le_of_lt (Nat.lt_of_le_of_lt hgl.1 hgl.2))
            rw [hpl] at O4 ⊢
            have HR : Hid (OwnT w.heap.size w3 (.slice (some ⟨g3, 0, none⟩) (k + 1) c3) (insH 1 (ts.take (k + 1)))) := Lib.hid (by
              rw [HX.out]; unfold putH; rw [HA.out, HTKE.out, HTD.out, HPF.out]; exact O4)
            clear hown3 hg3 O3 O4 hpl
            go_wp2_with fail
            go_roundw
            case rel => exact ⟨k + 1, g3, c3, by omega, by go_num, by go_num, HR, B3⟩
            case measure => simp [intOf]; omega
          · go_wp2_with (at_builtin; refine wpList_append_own _ rfl _ _ 27 rfl we.heap.size 46 i0 (.agg #[.string ⟨#[]⟩, .string ⟨#[]⟩, .string ⟨#[]⟩]) 3 48 Try.underlying27 hi hz0 hz1 hz2 rfl (by decide) _ _ _ rfl HOY.out _ (k - q) _ (flat td) rfl (by rw [flat_len, HLD.out]) ?hcl (by exact flat_one _) ?h63c ?h48c ?hbsc ?_)
            case hcl => first | exact HF2.out | (simpa using HF2.out)
            case h63c => rw [HLP.out]; unfold maxLen; omega
            case h48c => rw [HLP.out]; omega
            case hbsc => first | omega | (simp only [World.size_alloc]; omega)
            intro v3 w3 hown3 hg3 _
            have O3 : OwnT we.heap.size w3 v3 (pf ++ td) := by unfold OwnT; rw [List.length_append, HLD.out, flat_append]; exact hown3
            have hpl : (pf ++ td).length = k + 1 := by rw [List.length_append, HLP.out, HLD.out]; omega
            have B3 : Below w.heap.size w w3 := B2.grown hg3 B2.size (fun j hj => by have := hne2 j hj; omega)
            obtain ⟨g3, c3, rfl⟩ := own_some O3 (by omega)
            have O4 := own_base O3 (Nat.le_of_lt (Nat.lt_of_le_of_lt hgl.1 hgl.2))
            rw [hpl] at O4 ⊢
            have HR : Hid (OwnT w.heap.size w3 (.slice (some ⟨g3, 0, none⟩) (k + 1) c3) (insH 1 (ts.take (k + 1)))) := Lib.hid (by
              rw [HX.out]; unfold putH; rw [HA.out, HTKE.out, HTD.out, HPF.out]; exact O4)
            clear hown3 hg3 O3 O4 hpl
            go_wp2_with fail
            go_roundw
            case rel => exact ⟨k + 1, g3, c3, by omega, by go_num, by go_num, HR, B3⟩
            case measure => simp [intOf]; omega
    · obtain rfl : k = len := by omega
      have HR : Hid (OwnT w.heap.size wr (.slice (some ⟨g, 0, none⟩) k c) (insH 1 ts)) := Lib.hid (by
        have := hown.out
        rwa [List.take_of_length_le (by rw [HT.out]; exact Nat.le_refl _)] at this)
      clear hown
      go_wp2_with fail
      go_ret
      exact ⟨_, rfl, HR.out, hnx⟩
set_option maxRecDepth 100000 in
set_option maxHeartbeats 3200000 in
theorem specSorted2 (a : Option Addr) (len cap : Nat) (ts : List Tri3) (w : World) (h : IsTris w a len cap ts) (hl : len ≤ 1048576) :
    Calls Try.prog 68 #[.slice a len cap, .int .i64 2] w (CopyPost (insH 2 ts) w) := by
  obtain ⟨i0, hi, hz0, hz1, hz2⟩ := info_parts infoTri
  have H := Lib.hid h
  have HM := Lib.hid h.small
  have HT := Lib.hid h.len
  have B0 := (Below.refl w.heap.size w).alloc (Nat.le_refl _) (.cells #[] 46)
  have O0 : OwnT w.heap.size (w.alloc (.cells #[] 46)) (.slice (some ⟨w.heap.size, 0, none⟩) 0 0) [] := World.ownsRow_lit (size := 3) (e := 46) w #[] 0 (Nat.le_refl _) (by decide) rfl
  clear h
  go_enter Try.func68, Try.ntmps68
  go_wp2_with fail
  go_loopw [5, 6] (fun v i wr => ∃ k g c : Nat, k ≤ len ∧ i = .int .i64 k ∧ v = .slice (some ⟨g, 0, none⟩) k c ∧ Hid (OwnT w.heap.size wr (.slice (some ⟨g, 0, none⟩) k c) (insH 2 (ts.take k))) ∧ Below w.heap.size w wr) (fun _ i _ => len - (intOf i).toNat)
  case atStart => exact ⟨0, w.heap.size, 0, Nat.zero_le _, rfl, rfl, Lib.hid (by simpa [insH] using O0), B0⟩
  case round =>
    obtain ⟨k, g, c, hk, rfl, rfl, hown, hnx⟩ := hrel
    clear O0 B0
    by_cases hlt : k < len
    · obtain ⟨b, off, rfl, hb, hl', hm, hts, hcs⟩ := H.out.cells (by omega)
      have ht : ts[k]? = some (ts[k]'(by omega)) := List.getElem?_eq_getElem (by omega)
      obtain ⟨d0, d1, d2, m0, m1, m2⟩ := hcs k _ ht
      have HS : Hid (ts.take (k + 1) = ts.take k ++ [ts[k]'(by omega)]) := Lib.hid (List.take_succ_eq_append_getElem (by omega))
      have hal : (insH 2 (ts.take k)).length = k := by rw [insH_len, List.length_take]; omega
      have HAM : Hid (∀ u ∈ insH 2 (ts.take k), u.1.size ≤ maxLen ∧ u.2.1.size ≤ maxLen ∧ u.2.2.size ≤ maxLen) := Lib.hid (fun u hu => HM.out u (List.mem_of_mem_take (insH_sub hu)))
      generalize ts[k]'(by omega) = t at ht d0 d1 d2 m0 m1 m2 HS
      have HX : Hid (insH 2 (ts.take (k + 1)) = putH 2 (insH 2 (ts.take k)) t) := Lib.hid (by rw [HS.out, insH_snoc])
      obtain ⟨acc, hacc⟩ : ∃ acc, insH 2 (ts.take k) = acc := ⟨_, rfl⟩
      rw [hacc] at hown hal HAM HX
      have DW := Lib.hid (And.intro d0 (And.intro d1 d2))
      have HL := Lib.hid hal
      have hk6 : (0 : Int) ≤ (k : Int) := by omega
      have hk7 : (k : Int) < (len : Int) := by omega
      clear ht hts hcs m0 m1 m2 hacc HS hal d0 d1 d2 hl' hm
      go_wp2_with fail
      obtain ⟨wo, hwo⟩ : ∃ wo : World, wo = wr := ⟨_, rfl⟩
      go_loopw [7] (fun i w2 => ∃ q : Nat, q ≤ k ∧ i = .int .i64 q ∧ Hid (∀ i u, i < q → acc[i]? = some u → aheadH 2 u t = true) ∧ Hid (OwnT w.heap.size w2 (.slice (some ⟨g, 0, none⟩) k c) acc) ∧ Below w.heap.size w w2) (fun i _ => k - (intOf i).toNat)
      case atStart => exact ⟨0, Nat.zero_le _, rfl, Lib.hid (fun i u hi => by omega), hown, hnx⟩
      case round =>
        obtain ⟨q, hq, rfl, hah, ho2, hn2⟩ := hrel
        clear hown hnx hwo
        obtain ⟨x, cx, hvx, his⟩ := OwnT.is ho2.out HAM.out
        rw [HL.out] at hvx his
        simp only [Value.slice.injEq, true_and] at hvx
        obtain ⟨rfl, rfl⟩ := hvx
        obtain ⟨d0, d1, d2⟩ := DW.out
        rw [← hn2.cell (p := ⟨b, _, none⟩) hb] at d0 d1 d2
        have hq6 : (0 : Int) ≤ (q : Int) := by omega
        have l0 : b < wr.heap.size := Nat.lt_of_lt_of_le hb hn2.size
        by_cases hlt2 : q < k
        case' pos =>
          obtain ⟨b', off', hbo, hb', _, hm', hts', hcs'⟩ := his.cells (by omega)
          cases hbo
          have hu : acc[q]? = some (acc[q]'(by have := HL.out; omega)) := List.getElem?_eq_getElem _
          obtain ⟨c0, c1, c2, n0, n1, n2⟩ := hcs' q _ hu
          clear n0 n1 n2
          simp only [Nat.zero_add] at c0 c1 c2
          generalize acc[q]'(by have := HL.out; omega) = u at hu c0 c1 c2
          have hq7 : (q : Int) < (k : Int) := by omega
          have HU := Lib.hid hu
          have T1 := Lib.hid (specTurn2 u)
          have T2 := Lib.hid (specTurn2 t)
          have A1 := specAhead u.2.2 u.1 u.2.1 t.2.2 t.1 t.2.1
          change ∀ w, Calls _ _ _ w fun e w' => e = .returned (.bool (aheadH 2 u t)) ∧ Below w.heap.size w w' at A1
          obtain ⟨ah, hqa⟩ : ∃ ah, aheadH 2 u t = ah := ⟨_, rfl⟩
          rw [hqa] at A1
          have HQA := Lib.hid hqa
          have C1 := Lib.hid A1
          obtain ⟨u0, u1, u2⟩ := u
          obtain ⟨t0, t1, t2⟩ := t
          simp only at c0 c1 c2 d0 d1 d2 T1 T2
          have HB2 := Lib.hid hn2
          clear A1 hqa hu hts' hcs' hm' his hn2
          go_wp2_with fail
          go_region_held3 (fun w' => w'.cell? ⟨g, q * 3, none⟩ = some (.string u0) ∧ w'.cell? ⟨g, q * 3 + 1, none⟩ = some (.string u1) ∧ w'.cell? ⟨g, q * 3 + 2, none⟩ = some (.string u2) ∧ w'.cell? ⟨b, off + k * 3, none⟩ = some (.string t0) ∧ w'.cell? ⟨b, off + k * 3 + 1, none⟩ = some (.string t1) ∧ w'.cell? ⟨b, off + k * 3 + 2, none⟩ = some (.string t2))
            (first | go_keep | (go_split_ands; refine ⟨?_, ?_, ?_, ?_, ?_, ?_⟩ <;> (rw [h4.cell (World.block_lt_of_cell? _ _ (by assumption))]; assumption)) | (go_split_ands; refine ⟨?_, ?_, ?_, ?_, ?_, ?_⟩ <;> (rw [h3.cell (World.block_lt_of_cell? _ _ (by assumption))]; assumption)) | (go_split_ands; refine ⟨?_, ?_, ?_, ?_, ?_, ?_⟩ <;> (rw [h5.cell (World.block_lt_of_cell? _ _ (by assumption))]; assumption)))
            (first
              | (go_at_call_of 110 (Value.agg #[.string u0, .string u1, .string u2]); refine (T1.out _).mono ?_; rintro e w3 ⟨rfl, h3⟩)
              | (go_at_call_of 110 (Value.agg #[.string t0, .string t1, .string t2]); refine (T2.out _).mono ?_; rintro e w4 ⟨rfl, h4⟩)
              | (go_at_call 99; refine (C1.out _).mono ?_; rintro e w5 ⟨rfl, h5⟩))
          have X3 := HB2.out.drew.trans (h3.mono HB2.out.size)
          have X4 := X3.trans (h4.mono X3.size)
          have BE := X4.trans (h5.mono X4.size)
          have OE : OwnT w.heap.size w5 (.slice (some ⟨g, 0, none⟩) k c) acc := own_next (own_next (own_next (World.ownsRow.drew ho2.out) (grown_of_below h3)) (grown_of_below h4)) (grown_of_below h5)
          clear X3 X4 h3 h4 h5 c0 c1 c2 d0 d1 d2 ho2 HB2 T1 T2 C1
          generalize w5 = we at BE OE ⊢
          cases ah
          case' true =>
            have HN : Hid (∀ i u, i < q + 1 → acc[i]? = some u → aheadH 2 u (t0, t1, t2) = true) := Lib.hid (fun i v hi hv => by
              rcases Nat.lt_or_ge i q with g | g
              · exact hah.out i v g hv
              · obtain rfl : i = q := by omega
                rw [HU.out] at hv; obtain rfl := Option.some.inj hv; exact HQA.out)
            have HO := Lib.hid OE
            clear OE hah HU HQA
            go_wp2_with fail
            go_roundw
            case rel => exact ⟨q + 1, by omega, by go_num, HN, HO, BE⟩
            case measure => simp [intOf]; omega
          case' false =>
            have HA : Hid (atH 2 (t0, t1, t2) acc = q) := Lib.hid (atH_is hah.out (by have := HL.out; omega) (fun v hv => by rw [HU.out] at hv; obtain rfl := Option.some.inj hv; exact HQA.out))
            clear hah HU HQA
        case' neg =>
          have hqk : q = k := by omega
          have HA : Hid (atH 2 t acc = q) := Lib.hid (atH_is hah.out (by have := HL.out; omega) (fun v hv => by have := (List.getElem?_eq_some_iff.1 hv).1; have := HL.out; omega))
          have hd2 : decide ((q : Int) < (k : Int)) = false := decide_eq_false (by omega)
          have OE := ho2.out
          have BE := hn2
          obtain ⟨t0, t1, t2⟩ := t
          clear hqk hah ho2 hn2 his
          go_wp2_with fail
          go_quiet (fail)
          have BE2 : Below w.heap.size w (wr.drewN nq) := below_drewN BE nq
          have OE2 : OwnT w.heap.size (wr.drewN nq) (.slice (some ⟨g, 0, none⟩) k c) acc := OE
          clear BE OE d0 d1 d2 hd2
          have BE := BE2
          have OE := OE2
          clear BE2 OE2
          generalize wr.drewN nq = we at BE OE ⊢
        all_goals
          have hgl := (World.ownsRow.lt OE g (by simp [Value.ownBlock]))
          have O0 : OwnT we.heap.size (we.alloc (.cells #[] 46)) (.slice (some ⟨we.heap.size, 0, none⟩) 0 0) [] := World.ownsRow_lit (size := 3) (e := 46) we #[] 0 (Nat.le_refl _) (by decide) rfl
          have BA := BE.alloc BE.size (.cells #[] 46)
          have OA : OwnT w.heap.size (we.alloc (.cells #[] 46)) (.slice (some ⟨g, 0, none⟩) k c) acc := World.ownsRow.alloc OE (.cells #[] 46)
          obtain ⟨x, cx, hvx, his⟩ := OwnT.is OA HAM.out
          rw [HL.out] at hvx his
          simp only [Value.slice.injEq, true_and] at hvx
          obtain ⟨rfl, rfl⟩ := hvx
          have HF1 := Lib.hid (his.front q)
          have HI := Lib.hid (OwnT.is OE HAM.out)
          have HO := Lib.hid O0
          have hlk : (acc.take q).length = q := by rw [List.length_take, HL.out]; omega
          obtain ⟨tk, htk⟩ : ∃ l, acc.take q = l := ⟨_, rfl⟩
          rw [htk] at hlk HF1
          have HTKE := Lib.hid htk
          have HLK := Lib.hid hlk
          have OEH := Lib.hid OE
          have hcap : k ≤ c := by
            rcases OE.2 with ⟨h, _⟩ | ⟨_, _, _, h, _, _, h1, _⟩
            · cases h
            · cases h; exact h1
          clear htk hlk O0 OA his OE BE
          go_wp2_with (at_builtin; refine wpList_append_own _ rfl _ _ 27 rfl we.heap.size 46 i0 (.agg #[.string ⟨#[]⟩, .string ⟨#[]⟩, .string ⟨#[]⟩]) 3 48 Try.underlying27 hi hz0 hz1 hz2 rfl (by decide) _ _ _ rfl HO.out ⟨g, 0, none⟩ q _ (flat tk) rfl (by rw [flat_len, HLK.out]) HF1.out (by first | exact flat_one _ | (intro x hx; simp at hx; rcases hx with rfl | rfl | rfl <;> rfl)) ?h63a ?h48a ?hbsa ?_)
          case h63a => rw [List.length_nil]; unfold maxLen; omega
          case h48a => rw [List.length_nil]; omega
          case hbsa => first | omega | (simp only [World.size_alloc]; omega)
          intro v1 w1 hown1 hg1 _
          have O1 : OwnT we.heap.size w1 v1 tk := by unfold OwnT; rw [HLK.out]; simpa [flat] using hown1
          have B1 : Below w.heap.size w w1 := BA.grown hg1 BA.size (fun j hj => by simp [Value.ownBlock] at hj; omega)
          have hs1 : we.heap.size + 1 ≤ w1.heap.size := by have := hg1.size; rw [World.size_alloc] at this; omega
          have hge : we.grownBy w1 none := ⟨hg1.os, hg1.tape, hg1.output, by omega, fun j hj _ => by
            rw [hg1.block j (by rw [World.size_alloc]; omega) (by simp [Value.ownBlock]; omega)]; exact Below.heap_alloc _ _ j hj⟩
          have OE1 := Lib.hid (own_next OEH.out hge)
          have HO1 := Lib.hid O1
          have hne1 := fun j hj => (World.ownsRow.lt O1 j hj).1
          obtain ⟨f0, f1, f2⟩ := DW.out
          try simp only at f0 f1 f2
          rw [← B1.cell (p := ⟨b, _, none⟩) hb] at f0 f1 f2
          clear hown1 hg1 HO HF1 BA O1 hge OEH
          have HC : ∀ (j : Nat) (x : Value), [Value.string t0, .string t1, .string t2][j]? = some x → (w1.alloc (.cells #[.string t0, .string t1, .string t2] 46)).cell? ((⟨w1.heap.size, 0, none⟩ : Addr).add j) = some x := three_cell
          have HH := Lib.hid HC
          have B1a := B1.alloc B1.size (.cells #[.string t0, .string t1, .string t2] 46)
          have O1a := Lib.hid (World.ownsRow.alloc HO1.out (.cells #[.string t0, .string t1, .string t2] 46))
          have OE1a := Lib.hid (World.ownsRow.alloc OE1.out (.cells #[.string t0, .string t1, .string t2] 46))
          clear HC
          go_wp2_with (at_builtin; refine wpList_append_own _ rfl _ _ 27 rfl we.heap.size 46 i0 (.agg #[.string ⟨#[]⟩, .string ⟨#[]⟩, .string ⟨#[]⟩]) 3 48 Try.underlying27 hi hz0 hz1 hz2 rfl (by decide) _ _ _ rfl O1a.out ⟨w1.heap.size, 0, none⟩ 1 _ [.string t0, .string t1, .string t2] rfl rfl HH.out (by first | exact flat_one _ | (intro x hx; simp at hx; rcases hx with rfl | rfl | rfl <;> rfl)) ?h63b ?h48b ?hbsb ?_)
          case h63b => rw [HLK.out]; unfold maxLen; omega
          case h48b => rw [HLK.out]; omega
          case hbsb => first | omega | (simp only [World.size_alloc]; omega)
          intro v2 w2 hown2 hg2 _
          have O2 : OwnT we.heap.size w2 v2 (tk ++ [(t0, t1, t2)]) := own3_snoc (t := (t0, t1, t2)) hown2
          have B2 : Below w.heap.size w w2 := B1a.grown hg2 B1a.size (fun j hj => by have := hne1 j hj; omega)
          have hs2 : we.heap.size + 1 ≤ w2.heap.size := by have := hg2.size; rw [World.size_alloc] at this; omega
          have OE2 : OwnT w.heap.size w2 (.slice (some ⟨g, 0, none⟩) k c) acc := World.ownsRow.kept OE1a.out hg2 (.inr (fun e => by have := hne1 g e.symm; omega))
          have hne2 := fun j hj => (World.ownsRow.lt O2 j hj).1
          have HO2 := Lib.hid O2
          have O2b := O2
          obtain ⟨x, cx, hvx, his⟩ := OwnT.is OE2 HAM.out
          rw [HL.out] at hvx his
          simp only [Value.slice.injEq, true_and] at hvx
          obtain ⟨rfl, rfl⟩ := hvx
          have HF2 := Lib.hid (his.back q (by rw [HL.out]; omega))
          have hld : (acc.drop q).length = k - q := by rw [List.length_drop, HL.out]
          obtain ⟨td, htd⟩ : ∃ l, acc.drop q = l := ⟨_, rfl⟩
          rw [htd] at hld HF2
          have HTD := Lib.hid htd
          have HLD := Lib.hid hld
          have hlp : (tk ++ [(t0, t1, t2)]).length = q + 1 := by rw [List.length_append, HLK.out]; rfl
          obtain ⟨pf, hpf⟩ : ∃ l, tk ++ [(t0, t1, t2)] = l := ⟨_, rfl⟩
          rw [hpf] at hlp O2b
          have HPF := Lib.hid hpf
          have HLP := Lib.hid hlp
          have HOY := Lib.hid O2b
          clear hown2 hg2 O1a HH B1a O2 HO1 B1 OE1 OE1a OE2 his htd hld hlp hpf O2b f0 f1 f2
          by_cases hcq : c = q
          · have HTD0 : Hid (td = []) := Lib.hid (List.length_eq_zero_iff.1 (by rw [HLD.out]; omega))
            go_wp2_with (at_builtin; refine wpList_append_own _ rfl _ _ 27 rfl we.heap.size 46 i0 (.agg #[.string ⟨#[]⟩, .string ⟨#[]⟩, .string ⟨#[]⟩]) 3 48 Try.underlying27 hi hz0 hz1 hz2 rfl (by decide) _ _ _ rfl HOY.out _ (k - q) _ (flat td) rfl (by rw [flat_len, HLD.out]) ?hcl (by exact flat_one _) ?h63c ?h48c ?hbsc ?_)
            case hcl => intro j u hj; rw [HTD0.out] at hj; simp [flat] at hj
            case h63c => rw [HLP.out]; unfold maxLen; omega
            case h48c => rw [HLP.out]; omega
            case hbsc => first | omega | (simp only [World.size_alloc]; omega)
            intro v3 w3 hown3 hg3 _
            have O3 : OwnT we.heap.size w3 v3 (pf ++ td) := by unfold OwnT; rw [List.length_append, HLD.out, flat_append]; exact hown3
            have hpl : (pf ++ td).length = k + 1 := by rw [List.length_append, HLP.out, HLD.out]; omega
            have B3 : Below w.heap.size w w3 := B2.grown hg3 B2.size (fun j hj => by have := hne2 j hj; omega)
            obtain ⟨g3, c3, rfl⟩ := own_some O3 (by omega)
            have O4 := own_base O3 (Nat.le_of_lt (Nat.lt_of_le_of_lt hgl.1 hgl.2))
            rw [hpl] at O4 ⊢
            have HR : Hid (OwnT w.heap.size w3 (.slice (some ⟨g3, 0, none⟩) (k + 1) c3) (insH 2 (ts.take (k + 1)))) := Lib.hid (by
              rw [HX.out]; unfold putH; rw [HA.out, HTKE.out, HTD.out, HPF.out]; exact O4)
            clear hown3 hg3 O3 O4 hpl
            go_wp2_with fail
            go_roundw
            case rel => exact ⟨k + 1, g3, c3, by omega, by go_num, by go_num, HR, B3⟩
            case measure => simp [intOf]; omega
          · go_wp2_with (at_builtin; refine wpList_append_own _ rfl _ _ 27 rfl we.heap.size 46 i0 (.agg #[.string ⟨#[]⟩, .string ⟨#[]⟩, .string ⟨#[]⟩]) 3 48 Try.underlying27 hi hz0 hz1 hz2 rfl (by decide) _ _ _ rfl HOY.out _ (k - q) _ (flat td) rfl (by rw [flat_len, HLD.out]) ?hcl (by exact flat_one _) ?h63c ?h48c ?hbsc ?_)
            case hcl => first | exact HF2.out | (simpa using HF2.out)
            case h63c => rw [HLP.out]; unfold maxLen; omega
            case h48c => rw [HLP.out]; omega
            case hbsc => first | omega | (simp only [World.size_alloc]; omega)
            intro v3 w3 hown3 hg3 _
            have O3 : OwnT we.heap.size w3 v3 (pf ++ td) := by unfold OwnT; rw [List.length_append, HLD.out, flat_append]; exact hown3
            have hpl : (pf ++ td).length = k + 1 := by rw [List.length_append, HLP.out, HLD.out]; omega
            have B3 : Below w.heap.size w w3 := B2.grown hg3 B2.size (fun j hj => by have := hne2 j hj; omega)
            obtain ⟨g3, c3, rfl⟩ := own_some O3 (by omega)
            have O4 := own_base O3 (Nat.le_of_lt (Nat.lt_of_le_of_lt hgl.1 hgl.2))
            rw [hpl] at O4 ⊢
            have HR : Hid (OwnT w.heap.size w3 (.slice (some ⟨g3, 0, none⟩) (k + 1) c3) (insH 2 (ts.take (k + 1)))) := Lib.hid (by
              rw [HX.out]; unfold putH; rw [HA.out, HTKE.out, HTD.out, HPF.out]; exact O4)
            clear hown3 hg3 O3 O4 hpl
            go_wp2_with fail
            go_roundw
            case rel => exact ⟨k + 1, g3, c3, by omega, by go_num, by go_num, HR, B3⟩
            case measure => simp [intOf]; omega
    · obtain rfl : k = len := by omega
      have HR : Hid (OwnT w.heap.size wr (.slice (some ⟨g, 0, none⟩) k c) (insH 2 ts)) := Lib.hid (by
        have := hown.out
        rwa [List.take_of_length_le (by rw [HT.out]; exact Nat.le_refl _)] at this)
      clear hown
      go_wp2_with fail
      go_ret
      exact ⟨_, rfl, HR.out, hnx⟩
end Go.Proofs.Yteejpceliodcfaa
