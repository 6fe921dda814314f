/- The contract of TurtleText of the specification. -/
import Derived.Test.YtdhieemalhadmabTurtM
import Derived.Test.YtdhieemalhadmabShort2
import Derived.Test.YtdhieemalhadmabGraph2
import Derived.Deep.RegionHeld3
import Derived.BigQuiet
import Derived.WalkSmall
namespace Go.Proofs.Ytdhieemalhadmab
open Go.RowKit Go.WideShapes
theorem specShort (a : Option Addr) (len cap : Nat) (ls : List Pre2) (w : World) (h : IsPres w a len cap ls) (hsm : SmP ls) (hp : presOk ls = true) (s : ByteArray) (hs : s.size ≤ 1048576) :
    Calls Try.prog 58 #[.slice a len cap, .string s] w fun e w' => e = .returned (.string (bs (shortL ls s.data.toList))) ∧ Below w.heap.size w w' := by
  refine specL3Short a len cap ls w h hsm (pres_mem hp) s hs _ ?_ ?_
  · intro hk
    unfold shortL
    split
    · rfl
    · simp only [hk, decide_false, Bool.false_and, Bool.false_eq_true, if_false]
  · intro x hk hin
    unfold shortL
    rw [hin]
    simp only [hp, hk, decide_true, Bool.and_true, if_true]
set_option maxRecDepth 100000 in
theorem specPred (a : Option Addr) (len cap : Nat) (ls : List Pre2) (w : World) (h : IsPres w a len cap ls) (hsm : SmP ls) (hp : presOk ls = true) (p : ByteArray) (hps : p.size ≤ 1048576) :
    Calls Try.prog 66 #[.slice a len cap, .string p] w fun e w' => e = .returned (.string (bs (predL ls p))) ∧ Below w.heap.size w w' := by
  have C := specShort a len cap ls w h hsm hp p hps
  unfold predL
  cases e : (p.toList == [60, 116, 121, 112, 101, 62])
  · have D := Lib.hid C
    have HQ : Hid (bs (shortL ls p.data.toList) = bs (if false = true then [97] else shortL ls p.data.toList)) := Lib.hid rfl
    clear C h hsm
    rw [← HQ.out]
    clear HQ
    generalize bs (shortL ls p.data.toList) = q at *
    go_enter Try.func66, Try.ntmps66
    go_wp2_with fail
    refine D.out.mono ?_
    rintro e w1 ⟨rfl, hb1⟩
    go_wp2_with fail
    go_ret
    exact ⟨rfl, hb1⟩
  · have HQ : Hid ({ data := #[97] } = bs (if true = true then [97] else shortL ls p.data.toList)) := Lib.hid rfl
    rw [← HQ.out]
    clear C h hsm HQ
    go_enter Try.func66, Try.ntmps66
    go_wp2_with fail
    go_ret
    exact ⟨rfl, Below.refl _ _⟩
set_option maxRecDepth 100000 in
set_option maxHeartbeats 3200000 in
theorem specTurtleText (a a' : Option Addr) (len cap len' cap' : Nat) (ls : List Pre2) (ts : List Tri3) (w : World) (hp : IsPres w a len cap ls) (hg : IsTris w a' len' cap' ts) (hsp : SmP ls) (hst : SmT ts) :
    Calls Try.prog 22 #[.slice a len cap, .slice a' len' cap'] w fun e w' => e = .returned (.string (bs (turtleL ls ts))) ∧ Below w.heap.size w w' := by
  have hlen : len ≤ 9223372036854775807 := by
    rcases hp with ⟨_, rfl, _, _⟩ | ⟨_, _, h1, h2, _⟩
    · omega
    · unfold maxLen at h2; omega
  have hlen' : len' ≤ 9223372036854775807 := by
    rcases hg with ⟨_, rfl, _, _⟩ | ⟨_, _, h1, h2, _⟩
    · omega
    · unfold maxLen at h2; omega
  have C1 := specPrefixesOk a len cap ls w hp hsp
  have C2 : ∀ wr, Below w.heap.size w wr → Calls Try.prog 65 #[.slice a' len' cap'] wr fun e w' => e = .returned (.bool (graphOk ts)) ∧ Below wr.heap.size wr w' := fun wr hb => specGraphOk a' len' cap' ts wr (hg.next hb) (fun t ht => by have := hst t ht; omega)
  obtain ⟨q, hq⟩ : ∃ q, turtleL ls ts = q := ⟨_, rfl⟩
  rw [hq]
  unfold turtleL at hq
  cases k1 : presOk ls
  · rw [k1] at C1 hq
    have D1 := Lib.hid C1
    have HQ : Hid ([] = q) := Lib.hid hq
    clear C1 C2 hp hg hsp hst k1 hq
    go_enter Try.func22, Try.ntmps22
    go_wp2_with fail
    refine D1.out.mono ?_
    rintro e w1 ⟨rfl, hb1⟩
    go_wp2_with fail
    go_ret
    exact ⟨by rw [← HQ.out]; rfl, hb1⟩
  cases k2 : graphOk ts
  · rw [k1] at C1 hq
    rw [k2] at hq
    simp only [k2] at C2
    have D1 := Lib.hid C1
    have D2 := Lib.hid C2
    have HQ : Hid ([] = q) := Lib.hid hq
    clear C1 C2 hp hg hsp hst k1 k2 hq
    go_enter Try.func22, Try.ntmps22
    go_wp2_with fail
    refine D1.out.mono ?_
    rintro e w1 ⟨rfl, hb1⟩
    go_wp2_with fail
    refine (D2.out _ hb1).mono ?_
    rintro e w2 ⟨rfl, hb2⟩
    go_wp2_with fail
    go_ret
    exact ⟨by rw [← HQ.out]; rfl, hb1.trans (hb2.mono hb1.size)⟩
  have CS : ∀ wr, Below w.heap.size w wr → ∀ s : ByteArray, s.size ≤ 1048576 → Calls Try.prog 58 #[.slice a len cap, .string s] wr fun e w' => e = .returned (.string (bs (shortL ls s.data.toList))) ∧ Below wr.heap.size wr w' := fun wr hb s hs => specShort a len cap ls wr (hp.next hb) hsp k1 s hs
  have CP : ∀ wr, Below w.heap.size w wr → ∀ s : ByteArray, s.size ≤ 1048576 → Calls Try.prog 66 #[.slice a len cap, .string s] wr fun e w' => e = .returned (.string (bs (predL ls s))) ∧ Below wr.heap.size wr w' := fun wr hb s hs => specPred a len cap ls wr (hp.next hb) hsp k1 s hs
  rw [k1] at C1 hq
  rw [k2] at hq
  simp only [Bool.and_true, if_true] at hq
  have hn := graphOk_len k2
  have hbs := body_small hsp k2 hst
  have hl4 : ls.length ≤ 4 := by
    unfold presOk at k1
    simp only [Bool.and_eq_true, decide_eq_true_eq] at k1
    exact k1.1
  simp only [k2] at C2
  have D1 := Lib.hid C1
  have D2 := Lib.hid C2
  have DS := Lib.hid CS
  have DP := Lib.hid CP
  have HQ := Lib.hid hq
  have HP := Lib.hid hp
  have HG := Lib.hid hg
  have HSP := Lib.hid hsp
  have HST := Lib.hid hst
  have HT := Lib.hid hp.len
  have HT' := Lib.hid hg.len
  have HB := Lib.hid hbs
  have HH : Hid (∀ k, (headL (ls.take k)).length ≤ 8388800) := Lib.hid (fun k => by
    have a := head_small (ls := ls.take k) fun t ht => hsp t (List.mem_of_mem_take ht)
    have c : (ls.take k).length ≤ ls.length := by rw [List.length_take]; omega
    omega)
  clear C1 C2 CS CP hp hg hsp hst k1 k2 hq hbs
  have hn' : len' ≤ 80 := by rw [← HT'.out]; exact hn
  go_enter Try.func22, Try.ntmps22
  go_wp2_with fail
  refine D1.out.mono ?_
  rintro e w1 ⟨rfl, hb1⟩
  go_wp2_with fail
  refine (D2.out _ hb1).mono ?_
  rintro e w2 ⟨rfl, hb2⟩
  have B2 := hb1.trans (hb2.mono hb1.size)
  clear hb1 hb2 D1 D2
  go_wp2_with fail
  go_loopw [5, 6] (fun v i wr => ∃ k : Nat, k ≤ len ∧ i = .int .i64 k ∧ v = .string (bs (headL (ls.take k))) ∧ Below w.heap.size w wr) (fun _ i _ => len - (intOf i).toNat)
  case atStart => exact ⟨0, Nat.zero_le _, rfl, rfl, B2⟩
  case round =>
    obtain ⟨k, hk, rfl, rfl, hnx⟩ := hrel
    by_cases hlt : k < len
    · obtain ⟨b, off, rfl, hb, hl, hm, hts, hc⟩ := HP.out.cells (by omega)
      have ht : ls[k]? = some ls[k] := List.getElem?_eq_getElem (by omega)
      have HK : Hid (ls.take (k + 1) = ls.take k ++ [ls[k]]) := Lib.hid (List.take_succ_eq_append_getElem (by omega))
      obtain ⟨s1, s2⟩ := HSP.out ls[k] (List.getElem_mem _)
      obtain ⟨c0, c1, m0, m1⟩ := hc k _ ht
      clear m0 m1
      rw [← hnx.cell (p := ⟨b, _, none⟩) hb] at c0 c1
      generalize ls[k] = p at c0 c1 HK s1 s2
      obtain ⟨Y, hY⟩ : ∃ Y, bs (headL (ls.take k)) = Y := ⟨_, rfl⟩
      have hYs : Y.size ≤ 8388800 := by rw [← hY, bs_size]; exact HH.out k
      have hYl : Y.data.toList = headL (ls.take k) := by rw [← hY, bs_toList]
      rw [hY]
      have hk6 : (0 : Int) ≤ (k : Int) := by omega
      have hk7 : (k : Int) < (len : Int) := by omega
      obtain ⟨j0, g0⟩ : ∃ j, Y ++ { data := #[64, 112, 114, 101, 102, 105, 120, 32] } = j := ⟨_, rfl⟩
      obtain ⟨j1, g1⟩ : ∃ j, j0 ++ p.1 = j := ⟨_, rfl⟩
      obtain ⟨j2, g2⟩ : ∃ j, j1 ++ { data := #[58, 32, 60] } = j := ⟨_, rfl⟩
      obtain ⟨j3, g3⟩ : ∃ j, j2 ++ p.2 = j := ⟨_, rfl⟩
      obtain ⟨j4, g4⟩ : ∃ j, j3 ++ { data := #[62, 32, 46, 10] } = j := ⟨_, rfl⟩
      have q1 : (ByteArray.mk #[64, 112, 114, 101, 102, 105, 120, 32]).size = 8 := rfl
      have q2 : (ByteArray.mk #[58, 32, 60]).size = 3 := rfl
      have q3 : (ByteArray.mk #[62, 32, 46, 10]).size = 4 := rfl
      have z0 : j0.size ≤ 8388808 := by rw [← g0, ByteArray.size_append]; omega
      have z1 : j1.size ≤ 9437384 := by rw [← g1, ByteArray.size_append]; omega
      have z2 : j2.size ≤ 9437387 := by rw [← g2, ByteArray.size_append]; omega
      have z3 : j3.size ≤ 10485963 := by rw [← g3, ByteArray.size_append]; omega
      have a0 := addFact (by omega) g0
      have a1 := addFact (by omega) g1
      have a2 := addFact (by omega) g2
      have a3 := addFact (by omega) g3
      have a4 := addFact (by omega) g4
      have HJ : Hid (j4 = bs (headL (ls.take (k + 1)))) := Lib.hid (by
        apply bs_eq
        rw [HK.out, headL_snoc, ← g4, ← g3, ← g2, ← g1, ← g0]
        simp [hYl, preLine])
      clear HK ht hts hc hm hY hYl g0 g1 g2 g3 g4
      go_wp2_with fail
      go_quiet (fail)
      go_wp2_with fail
      go_roundw
      case rel => exact ⟨k + 1, by omega, by go_num, by rw [HJ.out], below_drewN hnx _⟩
      case measure => simp [intOf]; omega
    · have hHl := HH.out k
      rw [List.take_of_length_le (by rw [HT.out]; omega)] at hHl ⊢
      obtain ⟨H, hH⟩ : ∃ H, headL ls = H := ⟨_, rfl⟩
      rw [hH] at hHl HQ ⊢
      clear hH
      go_wp2_with fail
      go_loopw [5, 7] (fun v i wz => ∃ k : Nat, k ≤ len' ∧ i = .int .i64 k ∧ v = .string (bs (H ++ bodyL ls ts k)) ∧ Below w.heap.size w wz) (fun _ i _ => len' - (intOf i).toNat)
      case atStart => exact ⟨0, Nat.zero_le _, rfl, by simp [bodyL], hnx⟩
      clear hnx
      case round =>
        obtain ⟨k, hk, rfl, rfl, hnx⟩ := hrel
        by_cases hlt2 : k < len'
        · obtain ⟨b, off, rfl, hb, hl, hm, hts, hc⟩ := HG.out.cells (by omega)
          have ht : ts[k]? = some ts[k] := List.getElem?_eq_getElem (by omega)
          have hmm := HST.out ts[k] (List.getElem_mem _)
          obtain ⟨c0, c1, c2, m0, m1, m2⟩ := hc k _ ht
          clear m0 m1 m2
          rw [← hnx.cell (p := ⟨b, _, none⟩) hb] at c0 c1 c2
          obtain ⟨t, htt⟩ : ∃ t, ts[k] = t := ⟨_, rfl⟩
          rw [htt] at c0 c1 c2 ht hmm
          obtain ⟨Y, hY⟩ : ∃ Y, bs (H ++ bodyL ls ts k) = Y := ⟨_, rfl⟩
          have hYs : Y.size ≤ 600000000 := by
            rw [← hY, bs_size, List.length_append]
            have := HB.out k (by rw [HT'.out]; omega)
            omega
          have hYl : Y.data.toList = H ++ bodyL ls ts k := by rw [← hY, bs_toList]
          rw [hY]
          have hk6 : (0 : Int) ≤ (k : Int) := by omega
          have hk7 : (k : Int) < (len' : Int) := by omega
          have l0 : b < wr.heap.size := Nat.lt_of_lt_of_le hb hnx.size
          obtain ⟨S, hS⟩ : ∃ S, bs (shortL ls t.1.data.toList) = S := ⟨_, rfl⟩
          obtain ⟨P, hP⟩ : ∃ P, bs (predL ls t.2.1) = P := ⟨_, rfl⟩
          obtain ⟨O, hO⟩ : ∃ O, bs (shortL ls t.2.2.data.toList) = O := ⟨_, rfl⟩
          have zs : S.size ≤ 2097153 := by rw [← hS, bs_size]; exact short_small HSP.out hmm.1
          have zp : P.size ≤ 2097153 := by rw [← hP, bs_size]; exact pred_small HSP.out hmm.2.1
          have zo : O.size ≤ 2097153 := by rw [← hO, bs_size]; exact short_small HSP.out hmm.2.2
          have FS := fun wz hb => DS.out wz hb t.1 hmm.1
          have FP := fun wz hb => DP.out wz hb t.2.1 hmm.2.1
          have FO := fun wz hb => DS.out wz hb t.2.2 hmm.2.2
          rw [hS] at FS
          rw [hP] at FP
          rw [hO] at FO
          have GS := Lib.hid FS
          have GP := Lib.hid FP
          have GO := Lib.hid FO
          have HC : Hid (commaL ls t = [32, 44, 32] ++ O.data.toList) := Lib.hid (by rw [← hO]; rfl)
          have HSm : Hid (semiL ls t = [32, 59, 10, 32, 32] ++ (P.data.toList ++ 32 :: O.data.toList)) := Lib.hid (by rw [← hO, ← hP]; rfl)
          have HF : Hid (fullL ls t = S.data.toList ++ 32 :: (P.data.toList ++ 32 :: O.data.toList)) := Lib.hid (by rw [← hO, ← hP, ← hS]; rfl)
          have HYL := Lib.hid hYl
          have KC := hc
          have q1 : (ByteArray.mk #[32]).size = 1 := rfl
          have q3 : (ByteArray.mk #[32, 46, 10]).size = 3 := rfl
          have q5 : (ByteArray.mk #[32, 59, 10, 32, 32]).size = 5 := rfl
          clear htt hts hc hm FS FP FO hS hP hO hY hYl
          rcases Nat.eq_zero_or_pos k with rfl | h0
          · simp only [Nat.zero_mul, Nat.add_zero] at c0 c1 c2
            obtain ⟨y0, g0⟩ : ∃ y, Y ++ S = y := ⟨_, rfl⟩
            have z0 : y0.size ≤ 602097163 := by rw [← g0, ByteArray.size_append]; omega
            have a0 := addFact (by omega) g0
            obtain ⟨y1, g1⟩ : ∃ y, y0 ++ { data := #[32] } = y := ⟨_, rfl⟩
            have z1 : y1.size ≤ 602097164 := by rw [← g1, ByteArray.size_append]; omega
            have a1 := addFact (by omega) g1
            obtain ⟨y2, g2⟩ : ∃ y, y1 ++ P = y := ⟨_, rfl⟩
            have z2 : y2.size ≤ 604194317 := by rw [← g2, ByteArray.size_append]; omega
            have a2 := addFact (by omega) g2
            obtain ⟨y3, g3⟩ : ∃ y, y2 ++ { data := #[32] } = y := ⟨_, rfl⟩
            have z3 : y3.size ≤ 604194318 := by rw [← g3, ByteArray.size_append]; omega
            have a3 := addFact (by omega) g3
            obtain ⟨y4, g4⟩ : ∃ y, y3 ++ O = y := ⟨_, rfl⟩
            have z4 : y4.size ≤ 606291471 := by rw [← g4, ByteArray.size_append]; omega
            have a4 := addFact (by omega) g4
            have HJ : Hid (y4 = bs (H ++ bodyL ls ts (0 + 1))) := Lib.hid (by
              apply bs_eq
              have e : stepL ls ts 0 = fullL ls t := by unfold stepL; simp [ht]
              show _ = H ++ (bodyL ls ts 0 ++ stepL ls ts 0)
              rw [e, HF.out, ← g4, ← g3, ← g2, ← g1, ← g0]
              simp [HYL.out])
            have hz9 : (0 : Int) < (len' : Int) := by omega
            clear ht KC g0 g1 g2 g3 g4
            go_wp2_with fail
            go_quiet (fail)
            go_wp2_with fail
            go_quiet (fail)
            go_wp2_with fail
            go_region_held3 (fun w' => w'.cell? ⟨b, off, none⟩ = some (.string t.1) ∧ w'.cell? ⟨b, off + 1, none⟩ = some (.string t.2.1) ∧ w'.cell? ⟨b, off + 2, none⟩ = some (.string t.2.2))
              (first | go_keep | (go_split_ands; refine ⟨?_, ?_, ?_⟩ <;> (rw [hc4.cell (by first | (simp; done) | exact World.block_lt_of_cell? _ _ (by assumption))]; assumption)) | (go_split_ands; refine ⟨?_, ?_, ?_⟩ <;> (rw [hb4.cell (by first | (simp; done) | exact World.block_lt_of_cell? _ _ (by assumption))]; assumption)) | (go_split_ands; refine ⟨?_, ?_, ?_⟩ <;> (rw [ha4.cell (by first | (simp; done) | exact World.block_lt_of_cell? _ _ (by assumption))]; assumption)))
              (first
                | (go_at_call_of 58 (Value.string t.1); refine (GS.out _ (by first | exact below_drewN hnx _ | exact Below.drew (below_drewN hnx _) | exact below_drewN (below_drewN hnx _) _ | exact Below.drew (below_drewN (below_drewN hnx _) _) | exact below_drewN (below_drewN (below_drewN hnx _) _) _)).mono ?_; rintro e wa ⟨rfl, ha4⟩; have ha8 : Below w.heap.size w wa := Below.trans (by first | exact below_drewN hnx _ | exact Below.drew (below_drewN hnx _) | exact below_drewN (below_drewN hnx _) _ | exact Below.drew (below_drewN (below_drewN hnx _) _) | exact below_drewN (below_drewN (below_drewN hnx _) _) _) (ha4.mono hnx.size))
                | (go_at_call 66; refine (GP.out _ ha8).mono ?_; rintro e wb ⟨rfl, hb4⟩; have hb8 : Below w.heap.size w wb := Below.trans ha8 (hb4.mono ha8.size))
                | (go_at_call_of 58 (Value.string t.2.2); refine (GO.out _ hb8).mono ?_; rintro e wc ⟨rfl, hc4⟩; have hc8 : Below w.heap.size w wc := Below.trans hb8 (hc4.mono hb8.size)))
            have BB : Below w.heap.size w wc := hc8
            go_wp2_with fail
            go_roundw
            case rel => exact ⟨0 + 1, by omega, by go_num, by rw [HJ.out], BB⟩
            case measure => simp [intOf]; omega
          · obtain ⟨j, rfl⟩ : ∃ j, k = j + 1 := ⟨k - 1, by omega⟩
            have hjj : j < ts.length := by rw [HT'.out]; omega
            have hu : ts[j]? = some ts[j] := List.getElem?_eq_getElem hjj
            obtain ⟨p0, p1, p2, m0, m1, m2⟩ := KC j _ hu
            clear m0 m1 m2 p2
            rw [← hnx.cell (p := ⟨b, _, none⟩) hb] at p0 p1
            obtain ⟨u, huu⟩ : ∃ u, ts[j] = u := ⟨_, rfl⟩
            rw [huu] at p0 p1 hu
            have HSTEP : Hid (stepL ls ts (j + 1) = if sameS t u then (if sameP t u then commaL ls t else semiL ls t) else [32, 46, 10] ++ fullL ls t) := Lib.hid (by unfold stepL; simp [ht, hu])
            have hj1 : ((j + 1 : Nat) : Int) - 1 = (j : Int) := by omega
            have hj2 : IntKind.i64.wrap (((j + 1 : Nat) : Int) - 1) = (j : Int) := by rw [hj1]; exact IntWalk.i64_in _ (by omega)
            have hjl : j < len' := by omega
            have hk8 : (0 : Int) ≤ (j : Int) + 1 := by omega
            have hk9 : (j : Int) + 1 < (len' : Int) := by omega
            have hj6 : (0 : Int) ≤ (j : Int) := by omega
            have hj7 : (j : Int) < (len' : Int) := by omega
            have hj8 : IntKind.i64.wrap (j : Int) = (j : Int) := IntWalk.i64_in _ (by omega)
            have hj4 : (j : Int) + 1 - 1 = (j : Int) := by omega
            have hj5 : IntKind.i64.wrap ((j : Int) + 1 - 1) = (j : Int) := by rw [hj4]; exact IntWalk.i64_in _ (by omega)
            have hj3 : decide ((0 : Int) < ((j + 1 : Nat) : Int)) = true := by rw [decide_eq_true_eq]; omega
            clear huu hu ht KC
            cases h1 : sameS t u
            · have hs1 : (t.1.toList == u.1.toList) = false := h1
              obtain ⟨y0, g0⟩ : ∃ y, Y ++ { data := #[32, 46, 10] } = y := ⟨_, rfl⟩
              have z0 : y0.size ≤ 600000013 := by rw [← g0, ByteArray.size_append]; omega
              have a0 := addFact (by omega) g0
              obtain ⟨y1, g1⟩ : ∃ y, y0 ++ S = y := ⟨_, rfl⟩
              have z1 : y1.size ≤ 602097166 := by rw [← g1, ByteArray.size_append]; omega
              have a1 := addFact (by omega) g1
              obtain ⟨y2, g2⟩ : ∃ y, y1 ++ { data := #[32] } = y := ⟨_, rfl⟩
              have z2 : y2.size ≤ 602097167 := by rw [← g2, ByteArray.size_append]; omega
              have a2 := addFact (by omega) g2
              obtain ⟨y3, g3⟩ : ∃ y, y2 ++ P = y := ⟨_, rfl⟩
              have z3 : y3.size ≤ 604194320 := by rw [← g3, ByteArray.size_append]; omega
              have a3 := addFact (by omega) g3
              obtain ⟨y4, g4⟩ : ∃ y, y3 ++ { data := #[32] } = y := ⟨_, rfl⟩
              have z4 : y4.size ≤ 604194321 := by rw [← g4, ByteArray.size_append]; omega
              have a4 := addFact (by omega) g4
              obtain ⟨y5, g5⟩ : ∃ y, y4 ++ O = y := ⟨_, rfl⟩
              have z5 : y5.size ≤ 606291474 := by rw [← g5, ByteArray.size_append]; omega
              have a5 := addFact (by omega) g5
              have HJ : Hid (y5 = bs (H ++ bodyL ls ts (j + 1 + 1))) := Lib.hid (by
                apply bs_eq
                show _ = H ++ (bodyL ls ts (j + 1) ++ stepL ls ts (j + 1))
                rw [HSTEP.out, h1]
                simp only [Bool.false_eq_true, if_false]
                rw [HF.out, ← g5, ← g4, ← g3, ← g2, ← g1, ← g0]
                simp [HYL.out])
              clear h1 g0 g1 g2 g3 g4 g5
              go_wp2_with fail
              go_quiet (fail)
              go_wp2_with fail
              go_quiet (fail)
              go_wp2_with fail
              go_region_held3 (fun w' => w'.cell? ⟨b, off + (j + 1) * 3, none⟩ = some (.string t.1) ∧ w'.cell? ⟨b, off + (j + 1) * 3 + 1, none⟩ = some (.string t.2.1) ∧ w'.cell? ⟨b, off + (j + 1) * 3 + 2, none⟩ = some (.string t.2.2))
                (first | go_keep | (go_split_ands; refine ⟨?_, ?_, ?_⟩ <;> (rw [hc4.cell (by first | (simp; done) | exact World.block_lt_of_cell? _ _ (by assumption))]; assumption)) | (go_split_ands; refine ⟨?_, ?_, ?_⟩ <;> (rw [hb4.cell (by first | (simp; done) | exact World.block_lt_of_cell? _ _ (by assumption))]; assumption)) | (go_split_ands; refine ⟨?_, ?_, ?_⟩ <;> (rw [ha4.cell (by first | (simp; done) | exact World.block_lt_of_cell? _ _ (by assumption))]; assumption)))
                (first
                  | (go_at_call_of 58 (Value.string t.1); refine (GS.out _ (by first | exact below_drewN hnx _ | exact Below.drew (below_drewN hnx _) | exact below_drewN (below_drewN hnx _) _ | exact Below.drew (below_drewN (below_drewN hnx _) _) | exact below_drewN (below_drewN (below_drewN hnx _) _) _)).mono ?_; rintro e wa ⟨rfl, ha4⟩; have ha8 : Below w.heap.size w wa := Below.trans (by first | exact below_drewN hnx _ | exact Below.drew (below_drewN hnx _) | exact below_drewN (below_drewN hnx _) _ | exact Below.drew (below_drewN (below_drewN hnx _) _) | exact below_drewN (below_drewN (below_drewN hnx _) _) _) (ha4.mono hnx.size))
                  | (go_at_call 66; refine (GP.out _ ha8).mono ?_; rintro e wb ⟨rfl, hb4⟩; have hb8 : Below w.heap.size w wb := Below.trans ha8 (hb4.mono ha8.size))
                  | (go_at_call_of 58 (Value.string t.2.2); refine (GO.out _ hb8).mono ?_; rintro e wc ⟨rfl, hc4⟩; have hc8 : Below w.heap.size w wc := Below.trans hb8 (hc4.mono hb8.size)))
              have BB : Below w.heap.size w wc := hc8
              go_wp2_with fail
              go_roundw
              case rel => exact ⟨j + 1 + 1, by omega, by go_num, by rw [HJ.out], BB⟩
              case measure => simp [intOf]; omega
            · cases h2 : sameP t u
              · have hs1 : (t.1.toList == u.1.toList) = true := h1
                have hs2 : (t.2.1.toList == u.2.1.toList) = false := h2
                obtain ⟨y0, g0⟩ : ∃ y, Y ++ { data := #[32, 59, 10, 32, 32] } = y := ⟨_, rfl⟩
                have z0 : y0.size ≤ 600000015 := by rw [← g0, ByteArray.size_append]; omega
                have a0 := addFact (by omega) g0
                obtain ⟨y1, g1⟩ : ∃ y, y0 ++ P = y := ⟨_, rfl⟩
                have z1 : y1.size ≤ 602097168 := by rw [← g1, ByteArray.size_append]; omega
                have a1 := addFact (by omega) g1
                obtain ⟨y2, g2⟩ : ∃ y, y1 ++ { data := #[32] } = y := ⟨_, rfl⟩
                have z2 : y2.size ≤ 602097169 := by rw [← g2, ByteArray.size_append]; omega
                have a2 := addFact (by omega) g2
                obtain ⟨y3, g3⟩ : ∃ y, y2 ++ O = y := ⟨_, rfl⟩
                have z3 : y3.size ≤ 604194322 := by rw [← g3, ByteArray.size_append]; omega
                have a3 := addFact (by omega) g3
                have HJ : Hid (y3 = bs (H ++ bodyL ls ts (j + 1 + 1))) := Lib.hid (by
                  apply bs_eq
                  show _ = H ++ (bodyL ls ts (j + 1) ++ stepL ls ts (j + 1))
                  rw [HSTEP.out, h1, h2]
                  simp only [Bool.false_eq_true, if_false, if_true]
                  rw [HSm.out, ← g3, ← g2, ← g1, ← g0]
                  simp [HYL.out])
                clear h1 h2 g0 g1 g2 g3
                go_wp2_with fail
                go_quiet (fail)
                go_wp2_with fail
                go_quiet (fail)
                go_wp2_with fail
                go_region_held3 (fun w' => w'.cell? ⟨b, off + (j + 1) * 3, none⟩ = some (.string t.1) ∧ w'.cell? ⟨b, off + (j + 1) * 3 + 1, none⟩ = some (.string t.2.1) ∧ w'.cell? ⟨b, off + (j + 1) * 3 + 2, none⟩ = some (.string t.2.2))
                  (first | go_keep | (go_split_ands; refine ⟨?_, ?_, ?_⟩ <;> (rw [hc4.cell (by first | (simp; done) | exact World.block_lt_of_cell? _ _ (by assumption))]; assumption)) | (go_split_ands; refine ⟨?_, ?_, ?_⟩ <;> (rw [hb4.cell (by first | (simp; done) | exact World.block_lt_of_cell? _ _ (by assumption))]; assumption)) | (go_split_ands; refine ⟨?_, ?_, ?_⟩ <;> (rw [ha4.cell (by first | (simp; done) | exact World.block_lt_of_cell? _ _ (by assumption))]; assumption)))
                  (first
                    | (go_at_call 66; refine (GP.out _ (by first | exact below_drewN hnx _ | exact Below.drew (below_drewN hnx _) | exact below_drewN (below_drewN hnx _) _ | exact Below.drew (below_drewN (below_drewN hnx _) _) | exact below_drewN (below_drewN (below_drewN hnx _) _) _)).mono ?_; rintro e wa ⟨rfl, ha4⟩; have ha8 : Below w.heap.size w wa := Below.trans (by first | exact below_drewN hnx _ | exact Below.drew (below_drewN hnx _) | exact below_drewN (below_drewN hnx _) _ | exact Below.drew (below_drewN (below_drewN hnx _) _) | exact below_drewN (below_drewN (below_drewN hnx _) _) _) (ha4.mono hnx.size))
                    | (go_at_call_of 58 (Value.string t.2.2); refine (GO.out _ ha8).mono ?_; rintro e wb ⟨rfl, hb4⟩; have hb8 : Below w.heap.size w wb := Below.trans ha8 (hb4.mono ha8.size)))
                have BB : Below w.heap.size w wb := hb8
                go_wp2_with fail
                go_roundw
                case rel => exact ⟨j + 1 + 1, by omega, by go_num, by rw [HJ.out], BB⟩
                case measure => simp [intOf]; omega
              · have hs1 : (t.1.toList == u.1.toList) = true := h1
                have hs2 : (t.2.1.toList == u.2.1.toList) = true := h2
                have q6 : (ByteArray.mk #[32, 44, 32]).size = 3 := rfl
                obtain ⟨y0, g0⟩ : ∃ y, Y ++ { data := #[32, 44, 32] } = y := ⟨_, rfl⟩
                have z0 : y0.size ≤ 600000013 := by rw [← g0, ByteArray.size_append]; omega
                have a0 := addFact (by omega) g0
                obtain ⟨y1, g1⟩ : ∃ y, y0 ++ O = y := ⟨_, rfl⟩
                have z1 : y1.size ≤ 602097166 := by rw [← g1, ByteArray.size_append]; omega
                have a1 := addFact (by omega) g1
                have HJ : Hid (y1 = bs (H ++ bodyL ls ts (j + 1 + 1))) := Lib.hid (by
                  apply bs_eq
                  show _ = H ++ (bodyL ls ts (j + 1) ++ stepL ls ts (j + 1))
                  rw [HSTEP.out, h1, h2]
                  simp only [if_true]
                  rw [HC.out, ← g1, ← g0]
                  simp [HYL.out])
                clear h1 h2 g0 g1
                go_wp2_with fail
                go_quiet (fail)
                go_wp2_with fail
                refine (GO.out _ (by first | exact below_drewN hnx _ | exact Below.drew (below_drewN hnx _) | exact below_drewN (below_drewN hnx _) _ | exact Below.drew (below_drewN (below_drewN hnx _) _) | exact below_drewN (below_drewN (below_drewN hnx _) _) _)).mono ?_
                rintro e wc ⟨rfl, hc4⟩
                have BB : Below w.heap.size w wc := Below.trans (by first | exact below_drewN hnx _ | exact Below.drew (below_drewN hnx _) | exact below_drewN (below_drewN hnx _) _ | exact Below.drew (below_drewN (below_drewN hnx _) _) | exact below_drewN (below_drewN (below_drewN hnx _) _) _) (hc4.mono hnx.size)
                go_wp2_with fail
                go_roundw
                case rel => exact ⟨j + 1 + 1, by omega, by go_num, by rw [HJ.out], BB⟩
                case measure => simp [intOf]; omega
        · by_cases hz0 : len' = 0
          · obtain rfl : k = 0 := by omega
            have HF : Hid (bs (H ++ bodyL ls ts 0) = bs q) := Lib.hid (by
              rw [← HQ.out, HT'.out, hz0]; simp [bodyL, termL])
            have hz1 : ¬ (0 : Int) < (len' : Int) := by omega
            go_wp2_with fail
            go_ret
            exact ⟨by rw [← HF.out]; rfl, hnx⟩
          · have hz1 : (0 : Int) < (len' : Int) := by omega
            obtain ⟨Y, hY⟩ : ∃ Y, bs (H ++ bodyL ls ts k) = Y := ⟨_, rfl⟩
            have hYs : Y.size ≤ 600000000 := by
              rw [← hY, bs_size, List.length_append]
              have := HB.out k (by rw [HT'.out]; omega)
              omega
            have HF : Hid (Y ++ { data := #[32, 46, 10] } = bs q) := Lib.hid (by
              apply bs_eq
              have hk3 : k = len' := by omega
              have hll : ts.length = len' := HT'.out
              have e : termL ts ts.length = [32, 46, 10] := by
                obtain ⟨m, hm⟩ : ∃ m, ts.length = m + 1 := ⟨ts.length - 1, by omega⟩
                rw [hm]
                exact term_end (t := ts[m]) (List.getElem?_eq_getElem (by omega)) (List.getElem?_eq_none (by omega))
              rw [← HQ.out, e, hll, ← hY, hk3]; simp [bs_toList])
            rw [hY]
            clear hY
            go_wp2_with fail
            go_ret
            exact ⟨by rw [← HF.out]; rfl, hnx⟩
end Go.Proofs.Ytdhieemalhadmab
