/- The walk of FnExactDataWithout. -/
import Derived.Test.YtnjphlaohihbaaaGreatG00
import Derived.Test.YtnjphlaohihbaaaGreatG23
import Derived.Test.YtnjphlaohihbaaaGreatG22
import Derived.Test.YtnjphlaohihbaaaGreatG14
import Derived.Test.YtnjphlaohihbaaaGreatG24
import Derived.Test.YtnjphlaohihbaaaGreatG12
import Derived.Test.YtnjphlaohihbaaaGreatG02
import Derived.Deep.RegionHeld3
namespace Go.Proofs.YtnjphlaohihbaaaGreat
open Go.RowKit Go.WideShapes
theorem Cells.three {g : Nat} {x y z : Value} {T : TypeId} {w : World} (h : Cells g #[x, y, z] T w) : w.cell? ⟨g, 0, none⟩ = some x ∧ w.cell? ⟨g, 1, none⟩ = some y ∧ w.cell? ⟨g, 2, none⟩ = some z := ⟨h.at 0, h.at 1, h.at 2⟩
namespace fnExactDataWithout
theorem totN_bound : ∀ (ts : List NamV), (∀ r ∈ ts, r.2.length ≤ 80) → totN ts ≤ 80 * ts.length
  | [], _ => by simp [totN]
  | r :: rs, h => by
    have h1 := totN_bound rs (fun q hq => h q (by simp [hq]))
    have h2 := h r (by simp)
    unfold totN at h1 ⊢
    simp only [List.map_cons, List.sum_cons, List.length_cons]
    omega
theorem dataWithout_most (ts : List NamV) (s : ByteArray) (t : Tri3) (h : SmN ts) (hs : s.size ≤ 1048576) :
    ((dataWithout ts s t).getD []).length + totN ((dataWithout ts s t).getD []) ≤ 1000 ∧ SmAllN ((dataWithout ts s t).getD []) := by
  have none : (([] : List NamV)).length + totN [] ≤ 1000 ∧ SmAllN [] := ⟨by simp [totN], fun r hr => by simp at hr⟩
  unfold dataWithout
  split
  · rename_i hp
    split
    · exact none
    · rename_i g hg
      have h6 : ts.length ≤ 6 := by unfold dataOk at hp; rw [Bool.and_eq_true, decide_eq_true_eq] at hp; exact hp.1
      have h7 : (putNam ts (s, g)).length ≤ 7 := by
        have h1 := putGo_len (s, g) ts (decide ((s, g).2.length = 0))
        unfold putNam; refine Nat.le_trans h1 ?_; split <;> omega
      have h80 : ∀ r ∈ putNam ts (s, g), r.2.length ≤ 80 := fun r hr => by
        rcases putNam_mem.1 hr with ⟨_, rfl⟩ | ⟨hr, _⟩
        · exact graphOk_len (withoutT_some hg).2.2.2
        · have := dataOk_nam hp r hr
          unfold namT at this
          rw [Bool.and_eq_true, Bool.and_eq_true] at this
          exact graphOk_len this.2.1
      have hb := totN_bound _ h80
      refine ⟨by show (putNam ts (s, g)).length + totN (putNam ts (s, g)) ≤ 1000; omega, ?_⟩
      exact (putNam_sm h ⟨hs, fun u hu => graphAt_sm h s u (withoutT_mem hg u hu)⟩).all
  · exact none
theorem dw_shape {r : Option (List NamV)} {w w' : World} {e : Ending} {N : Nat} (h : ResN r w e w') (l : (r.getD []).length = N) :
    ∃ a c, e = .returned (.tuple #[.slice a N c, .bool r.isSome]) ∧ Holds w.heap.size w'.heap.size w' (OwnNC w.heap.size w'.heap.size (.slice a N c) (r.getD [])) ∧ Below w.heap.size w w' := by
  obtain ⟨v, he, ho, hb⟩ := h
  have H := ownNC_new ho
  obtain ⟨us, h1, _, _⟩ := ho
  subst l
  rcases h1.2 with ⟨rfl, e2⟩ | ⟨g, c, cur, rfl, _⟩
  · exact ⟨none, 0, by rw [he, e2], by rw [e2]; exact H, hb⟩
  · exact ⟨_, _, he, H, hb⟩
set_option maxRecDepth 100000 in
set_option maxHeartbeats 16000000 in
theorem walk (a0 : Option Addr) (n0 c0 : Nat) (t0 : List NamV) (s1 : ByteArray) (tA tB tC : ByteArray) (w : World) (h0 : IsNams w a0 n0 c0 t0) (hs1 : s1.size ≤ maxLen) (htA : tA.size ≤ maxLen) (htB : tB.size ≤ maxLen) (htC : tC.size ≤ maxLen) :
    Calls Tryz.prog 6 #[.slice a0 n0 c0, .string s1, .agg #[.string tA, .string tB, .string tC]] w fun e w' => e = .returned (.bool true) ∧ Below w.heap.size w w' := by
  obtain ⟨W1, hW1⟩ : ∃ W, w.alloc (.cells #[.string tA, .string tB, .string tC] 44) = W := ⟨_, rfl⟩
  have B0 : Hid (Below w.heap.size w W1) := Lib.hid (by rw [← hW1]; exact (Below.refl w.heap.size w).alloc (Nat.le_refl _) _)
  have A90 : Hid (Holds w.heap.size (w.heap.size + 1) W1 (Cells w.heap.size #[.string tA, .string tB, .string tC] 44)) := Lib.hid (by
    have := cells_new w #[.string tA, .string tB, .string tC] 44
    rw [hW1] at this; exact this)
  have HW := Lib.hid hW1
  clear hW1
  unfold maxLen at htA htB htC
  have H0 := Lib.hid h0
  have HL0 := Lib.hid h0.len
  have HM0 : Hid (SmAllN t0) := Lib.hid h0.small
  have hm0 := h0.maxl
  clear h0
  unfold maxLen at hs1
  by_cases hbig_s1 : (1048576 : Int) < s1.size
  · go_enter Tryz.func6, Tryz.ntmps6
    go_wp2_with fail
    go_ret
    exact ⟨rfl, by rw [HW.out]; exact B0.out⟩
  have hl_s1 : s1.size ≤ 1048576 := by omega
  go_enter Tryz.func6, Tryz.ntmps6
  go_wp2_with fail
  rw [HW.out]
  refine (szNams a0 n0 c0 t0 _ (H0.out.next B0.out) 1048576 (by omega) (by omega) hm0).mono ?_
  rintro e w1 ⟨g0, rfl, hg, hb⟩
  have B1 := Lib.hid (B0.out.trans (hb.mono B0.out.size))
  have A91 := Lib.hid (A90.out.next hb)
  clear B0 A90
  clear hb
  rcases hg with rfl | ⟨e0, f0, ps0⟩
  · go_wp2_with fail
    go_ret
    exact ⟨rfl, B1.out⟩
  have S0 : Hid (SmN t0) := Lib.hid ps0
  have l0 : n0 + totN t0 ≤ 1048576 := by omega
  clear ps0 hm0
  have d0 : ¬ g0 < 0 := by omega
  obtain ⟨u0, u1, u2⟩ := A91.out.now.three
  go_wp2_with fail
  refine (szTri tA tB tC _ e0 (by omega) (by omega) (by omega) (by omega) _).mono ?_
  rintro e w2 ⟨rfl, hb⟩
  clear u0 u1 u2
  have B2 := Lib.hid (B1.out.trans (hb.mono B1.out.size))
  have A92 := Lib.hid (A91.out.next hb)
  clear B1 A91
  clear hb
  by_cases hqs : (tA.size : Int) + tB.size + tC.size ≤ g0
  rotate_left
  · rw [szT_no hqs]
    go_wp2_with fail
    go_ret
    exact ⟨rfl, B2.out⟩
  rw [szT_yes hqs]
  have d9 : ¬ g0 - (tA.size : Int) - tB.size - tC.size < 0 := by omega
  have hqt : tA.size + tB.size + tC.size ≤ 1048576 := by omega
  obtain ⟨N, hN⟩ : ∃ N, ((dataWithout t0 s1 (tA, tB, tC)).getD []).length = N := ⟨_, rfl⟩
  have C1 := fun x0 y0 W hi => (specDataWithout x0 n0 y0 t0 s1 tA tB tC W hi S0.out hl_s1 hqt (by omega)).mono fun e w' h => dw_shape h hN
  have C2 := fun x0 y0 W hi => (implDataWithout x0 n0 y0 t0 s1 tA tB tC W hi S0.out hl_s1 hqt (by omega)).mono fun e w' h => dw_shape h hN
  have hmost := dataWithout_most t0 s1 (tA, tB, tC) S0.out hl_s1
  rw [hN] at hmost
  generalize (dataWithout t0 s1 (tA, tB, tC)).getD [] = R at C1 C2 hN hmost
  generalize (dataWithout t0 s1 (tA, tB, tC)).isSome = bb at C1 C2
  have HN := Lib.hid hN
  have HRM := Lib.hid hmost.2
  have rl : N + totN R ≤ 1048576 := by have := hmost.1; omega
  have HC1 := Lib.hid C1
  have HC2 := Lib.hid C2
  clear C1 C2 hmost hN
  clear e0 f0
  go_wp2_with fail
  have B3 := Lib.hid B2.out.drew
  have A93 := Lib.hid A92.out.drew
  clear B2 A92
  refine wp_region_held_drew (S := (fun w' => w'.cell? ⟨w.heap.size, 0, none⟩ = some (.string tA) ∧ w'.cell? ⟨w.heap.size, 1, none⟩ = some (.string tB) ∧ w'.cell? ⟨w.heap.size, 2, none⟩ = some (.string tC))) (by kernel_rfl) ?_ (fun hHeld => ?_)
  · exact A93.out.now.three
  refine wpAnyH_take (i := 0) (v := ?_) rfl (by kernel_rfl) (by kernel_rfl) (by kernel_rfl) (fun _ _ _ h => h) (Or.inl ⟨by kernel_rfl, ?_⟩) (by assumption) ?_
  rotate_left
  · intro w hSw; (try dsimp only at hSw); go_simp; try with_reducible rfl
  refine wpAnyH_take (i := 2) (v := ?_) rfl (by kernel_rfl) (by kernel_rfl) (by kernel_rfl) (fun _ _ _ h => h) (Or.inl ⟨by kernel_rfl, ?_⟩) (by assumption) ?_
  rotate_left
  · intro w hSw; (try dsimp only at hSw); go_simp; try with_reducible rfl
  refine wpAnyH_take (i := 3) (v := ?_) rfl (by kernel_rfl) (by kernel_rfl) (by kernel_rfl) (fun _ _ _ h => h) (Or.inl ⟨by kernel_rfl, ?_⟩) (by assumption) ?_
  rotate_left
  · intro w hSw; (try dsimp only at hSw); go_simp; try with_reducible rfl
  refine wpAnyH_ready (rs := [1]) (by kernel_rfl) (by simp) ?_
  refine AllReadyH.cons rfl (fun K hK => ?_) AllReadyH.nil
  go_simp
  refine (exToN a0 n0 c0 t0 _ (H0.out.next B3.out) l0 HL0.out).mono ?_
  rintro e w3 ⟨x0_S, y0_S, rfl, hh, hb⟩
  have B4 := Lib.hid (B3.out.trans (hb.mono B3.out.size))
  have A94 := Lib.hid (A93.out.next hb)
  clear B3 A93
  have Q0S4 := Lib.hid (hh)
  clear hb hh
  go_wp2_with fail
  clear hHeld
  refine hK.out _ _ ?_ (fun hHeld => ?_)
  · exact A94.out.now.three
  clear hK K
  refine wpAnyH_ready (rs := [4]) (by kernel_rfl) (by simp) ?_
  refine AllReadyH.cons rfl (fun K hK => ?_) AllReadyH.nil
  go_simp
  refine (toTri tA tB tC _).mono ?_
  rintro e w4 ⟨rfl, hb⟩
  have B5 := Lib.hid (B4.out.trans (hb.mono B4.out.size))
  have A95 := Lib.hid (A94.out.next hb)
  have Q0S5 := Lib.hid (Q0S4.out.next hb)
  clear B4 A94 Q0S4
  clear hb
  go_wp2_with fail
  clear hHeld
  refine hK.out _ _ ?_ (fun hHeld => ?_)
  · exact A95.out.now.three
  clear hK K
  refine wpAnyH_ready (rs := [5]) (by kernel_rfl) (by simp) ?_
  refine AllReadyH.cons rfl (fun K hK => ?_) AllReadyH.nil
  go_simp
  have LEA9_S := Lib.hid A95.out.le
  have LEw_S := Lib.hid B5.out.size
  refine (HC1.out x0_S y0_S _ (Q0S5.out.now.read HM0.out HL0.out)).mono ?_
  rintro e w5 ⟨ras, rcs, rfl, hh, hb⟩
  clear Q0S5
  have B6 := Lib.hid (B5.out.trans (hb.mono B5.out.size))
  have A96 := Lib.hid (A95.out.next hb)
  clear B5 A95
  have S6 := Lib.hid (hh)
  clear hb hh
  go_wp2_with fail
  clear hHeld
  refine hK.out _ _ ?_ (fun hHeld => ?_)
  · exact A96.out.now.three
  clear hK K
  refine wpAnyH_take (i := 6) (v := ?_) rfl (by kernel_rfl) (by kernel_rfl) (by kernel_rfl) (fun _ _ _ h => h) (Or.inl ⟨by kernel_rfl, ?_⟩) (by assumption) ?_
  rotate_left
  · intro w hSw; (try dsimp only at hSw); go_simp; try with_reducible rfl
  refine wpAnyH_take (i := 7) (v := ?_) rfl (by kernel_rfl) (by kernel_rfl) (by kernel_rfl) (fun _ _ _ h => h) (Or.inl ⟨by kernel_rfl, ?_⟩) (by assumption) ?_
  rotate_left
  · intro w hSw; (try dsimp only at hSw); go_simp; try with_reducible rfl
  refine wpAnyH_take (i := 8) (v := ?_) rfl (by kernel_rfl) (by kernel_rfl) (by kernel_rfl) (fun _ _ _ h => h) (Or.inl ⟨by kernel_rfl, ?_⟩) (by assumption) ?_
  rotate_left
  · intro w hSw; (try dsimp only at hSw); go_simp; try with_reducible rfl
  refine wpAnyH_take (i := 9) (v := ?_) rfl (by kernel_rfl) (by kernel_rfl) (by kernel_rfl) (fun _ _ _ h => h) (Or.inl ⟨by kernel_rfl, ?_⟩) (by assumption) ?_
  rotate_left
  · intro w hSw; (try dsimp only at hSw); go_simp; try with_reducible rfl
  refine wpAnyH_take (i := 10) (v := ?_) rfl (by kernel_rfl) (by kernel_rfl) (by kernel_rfl) (fun _ _ _ h => h) (Or.inl ⟨by kernel_rfl, ?_⟩) (by assumption) ?_
  rotate_left
  · intro w hSw; (try dsimp only at hSw); go_simp; try with_reducible rfl
  refine wpAnyH_done (by kernel_rfl) ?_ _
  try simp only [Act.put, List.setIfInBounds_toArray, List.set_cons_zero, List.set_cons_succ, List.getElem_toArray, List.getElem_cons_zero, List.getElem_cons_succ]
  clear hHeld
  go_wp2_with fail
  have LEA9_X0 := Lib.hid A96.out.le
  have LES_X0 := Lib.hid S6.out.le
  have LEw_X0 := Lib.hid B6.out.size
  refine (exToN a0 n0 c0 t0 _ (H0.out.next B6.out) l0 HL0.out).mono ?_
  rintro e w6 ⟨x0_x, y0_x, rfl, hh, hb⟩
  have B7 := Lib.hid (B6.out.trans (hb.mono B6.out.size))
  have A97 := Lib.hid (A96.out.next hb)
  have S7 := Lib.hid (S6.out.next hb)
  clear B6 A96 S6
  have X07 := Lib.hid (hh)
  clear hb hh
  obtain ⟨u0, u1, u2⟩ := A97.out.now.three
  go_wp2_with fail
  refine (toTri tA tB tC _).mono ?_
  rintro e w7 ⟨rfl, hb⟩
  clear u0 u1 u2
  have B8 := Lib.hid (B7.out.trans (hb.mono B7.out.size))
  have A98 := Lib.hid (A97.out.next hb)
  have S8 := Lib.hid (S7.out.next hb)
  have X08 := Lib.hid (X07.out.next hb)
  clear B7 A97 S7 X07
  clear hb
  go_wp2_with fail
  have LEA9_G := Lib.hid A98.out.le
  have LES_G := Lib.hid S8.out.le
  have LEX0_G := Lib.hid X08.out.le
  have LEw_G := Lib.hid B8.out.size
  refine (HC2.out x0_x y0_x _ (X08.out.now.read HM0.out HL0.out)).mono ?_
  rintro e w8 ⟨rag, rcg, rfl, hh, hb⟩
  have B9 := Lib.hid (B8.out.trans (hb.mono B8.out.size))
  have A99 := Lib.hid (A98.out.next hb)
  have S9 := Lib.hid (S8.out.next hb)
  have X09 := Lib.hid (X08.out.next hb)
  clear B8 A98 S8 X08
  have G9 := Lib.hid (hh)
  clear hb hh
  go_wp2_with fail
  refine (eqNams rag ras N rcg N rcs R _ (G9.out.now.read HRM.out HN.out) (S9.out.now.read HRM.out HN.out) rl).mono ?_
  rintro e w9 ⟨rfl, hb⟩
  have B10 := Lib.hid (B9.out.trans (hb.mono B9.out.size))
  have A910 := Lib.hid (A99.out.next hb)
  have S10 := Lib.hid (S9.out.next hb)
  have X010 := Lib.hid (X09.out.next hb)
  have G10 := Lib.hid (G9.out.next hb)
  clear B9 A99 S9 X09 G9
  clear hb
  obtain ⟨bf, hbf⟩ : ∃ q : Bool, q = bb := ⟨_, rfl⟩
  have HBF := Lib.hid hbf
  clear hbf
  cases bb
  all_goals
    go_wp2_with fail
    refine (exToN a0 n0 c0 t0 _ (H0.out.next B10.out) l0 HL0.out).mono ?_
    rintro e w10 ⟨x0_e, y0_e, rfl, hh, hb⟩
    have B11 := Lib.hid (B10.out.trans (hb.mono B10.out.size))
    have A911 := Lib.hid (A910.out.next hb)
    have S11 := Lib.hid (S10.out.next hb)
    have X011 := Lib.hid (X010.out.next hb)
    have G11 := Lib.hid (G10.out.next hb)
    clear B10 A910 S10 X010 G10
    have E011 := Lib.hid (hh)
    clear hb hh
    go_wp2_with fail
    refine (eqNams x0_x x0_e n0 y0_x n0 y0_e t0 _ (X011.out.now.read HM0.out HL0.out) (E011.out.now.read HM0.out HL0.out) l0).mono ?_
    rintro e w11 ⟨rfl, hb⟩
    clear E011
    have B12 := Lib.hid (B11.out.trans (hb.mono B11.out.size))
    have A912 := Lib.hid (A911.out.next hb)
    have S12 := Lib.hid (S11.out.next hb)
    have X012 := Lib.hid (X011.out.next hb)
    have G12 := Lib.hid (G11.out.next hb)
    clear B11 A911 S11 X011 G11
    clear hb
    go_wp2_with fail
    obtain ⟨q0, hq0⟩ : ∃ q : Nat, 1 + (n0 + 3 * totN t0) = q := ⟨_, rfl⟩
    have MK := exMarkN X012.out l0 HL0.out 1 (by omega) (by omega)
    rw [hq0] at MK
    have b0 : 0 < q0 ∧ q0 ≤ 9000000 := by have := l0; omega
    clear hq0
    refine (MK).mono ?_
    rintro e w12 ⟨rfl, hh, ht⟩
    have B13 := Lib.hid (B12.out.trans (ht.below B12.out.size LEw_X0.out))
    have A913 := Lib.hid (A912.out.step ht (.inl LEA9_X0.out))
    have S13 := Lib.hid (S12.out.step ht (.inl LES_X0.out))
    have X013 := Lib.hid hh
    have G13 := Lib.hid (G12.out.step ht (.inr LEX0_G.out))
    clear hh ht
    clear MK
    clear X013
    have nk : ¬ (q0 : Int) < 0 := by omega
    go_wp2_with fail
    refine (eqNams rag ras N rcg N rcs R _ (G13.out.now.read HRM.out HN.out) (S13.out.now.read HRM.out HN.out) rl).mono ?_
    rintro e w13 ⟨rfl, hb⟩
    have B14 := Lib.hid (B13.out.trans (hb.mono B13.out.size))
    have A914 := Lib.hid (A913.out.next hb)
    have S14 := Lib.hid (S13.out.next hb)
    have G14 := Lib.hid (G13.out.next hb)
    clear B13 A913 S13 G13
    clear hb
    go_wp2_with fail
    obtain ⟨qq, hqq⟩ : ∃ q : Nat, 1 + (N + 3 * totN R) = q := ⟨_, rfl⟩
    have MK := exMarkN G14.out rl HN.out 1 (by omega) (by omega)
    rw [hqq] at MK
    have HQQ := Lib.hid hqq
    have nq : ¬ (qq : Int) < 0 := by omega
    clear hqq
    refine (MK).mono ?_
    rintro e w14 ⟨rfl, hh, ht⟩
    have B15 := Lib.hid (B14.out.trans (ht.below B14.out.size LEw_G.out))
    have A915 := Lib.hid (A914.out.step ht (.inl LEA9_G.out))
    have S15 := Lib.hid (S14.out.step ht (.inl LES_G.out))
    have G15 := Lib.hid hh
    clear hh ht
    clear MK
    go_wp2_with fail
    have HD := exHeldN G15.out rl HN.out (by omega) (by omega)
    rw [HQQ.out] at HD
    refine HD.mono ?_
    rintro e w15 ⟨rfl, hb⟩
    clear HD
    have B16 := Lib.hid (B15.out.trans (hb.mono B15.out.size))
    have A916 := Lib.hid (A915.out.next hb)
    have S16 := Lib.hid (S15.out.next hb)
    have G16 := Lib.hid (G15.out.next hb)
    clear B15 A915 S15 G15
    clear hb
    go_wp2_with fail
    have B17 := Lib.hid B16.out.drew
    have A917 := Lib.hid A916.out.drew
    have S17 := Lib.hid S16.out.drew
    have G17 := Lib.hid G16.out.drew
    clear B16 A916 S16 G16
    refine wp_region_held_drew (S := (fun w' => w'.cell? ⟨w.heap.size, 0, none⟩ = some (.string tA) ∧ w'.cell? ⟨w.heap.size, 1, none⟩ = some (.string tB) ∧ w'.cell? ⟨w.heap.size, 2, none⟩ = some (.string tC))) (by kernel_rfl) ?_ (fun hHeld => ?_)
    · exact A917.out.now.three
    refine wpAnyH_take (i := 0) (v := ?_) rfl (by kernel_rfl) (by kernel_rfl) (by kernel_rfl) (fun _ _ _ h => h) (Or.inl ⟨by kernel_rfl, ?_⟩) (by assumption) ?_
    rotate_left
    · intro w hSw; (try dsimp only at hSw); go_simp; try with_reducible rfl
    refine wpAnyH_take (i := 2) (v := ?_) rfl (by kernel_rfl) (by kernel_rfl) (by kernel_rfl) (fun _ _ _ h => h) (Or.inl ⟨by kernel_rfl, ?_⟩) (by assumption) ?_
    rotate_left
    · intro w hSw; (try dsimp only at hSw); go_simp; try with_reducible rfl
    refine wpAnyH_take (i := 3) (v := ?_) rfl (by kernel_rfl) (by kernel_rfl) (by kernel_rfl) (fun _ _ _ h => h) (Or.inl ⟨by kernel_rfl, ?_⟩) (by assumption) ?_
    rotate_left
    · intro w hSw; (try dsimp only at hSw); go_simp; try with_reducible rfl
    refine wpAnyH_ready (rs := [1]) (by kernel_rfl) (by simp) ?_
    refine AllReadyH.cons rfl (fun K hK => ?_) AllReadyH.nil
    go_simp
    refine (exToN a0 n0 c0 t0 _ (H0.out.next B17.out) l0 HL0.out).mono ?_
    rintro e w16 ⟨x0_H, y0_H, rfl, hh, hb⟩
    have B18 := Lib.hid (B17.out.trans (hb.mono B17.out.size))
    have A918 := Lib.hid (A917.out.next hb)
    have S18 := Lib.hid (S17.out.next hb)
    have G18 := Lib.hid (G17.out.next hb)
    clear B17 A917 S17 G17
    have Q0H18 := Lib.hid (hh)
    clear hb hh
    go_wp2_with fail
    clear hHeld
    refine hK.out _ _ ?_ (fun hHeld => ?_)
    · exact A918.out.now.three
    clear hK K
    refine wpAnyH_ready (rs := [4]) (by kernel_rfl) (by simp) ?_
    refine AllReadyH.cons rfl (fun K hK => ?_) AllReadyH.nil
    go_simp
    refine (toTri tA tB tC _).mono ?_
    rintro e w17 ⟨rfl, hb⟩
    have B19 := Lib.hid (B18.out.trans (hb.mono B18.out.size))
    have A919 := Lib.hid (A918.out.next hb)
    have S19 := Lib.hid (S18.out.next hb)
    have G19 := Lib.hid (G18.out.next hb)
    have Q0H19 := Lib.hid (Q0H18.out.next hb)
    clear B18 A918 S18 G18 Q0H18
    clear hb
    go_wp2_with fail
    clear hHeld
    refine hK.out _ _ ?_ (fun hHeld => ?_)
    · exact A919.out.now.three
    clear hK K
    refine wpAnyH_ready (rs := [5]) (by kernel_rfl) (by simp) ?_
    refine AllReadyH.cons rfl (fun K hK => ?_) AllReadyH.nil
    go_simp
    have LEA9_H := Lib.hid A919.out.le
    have LES_H := Lib.hid S19.out.le
    have LEG_H := Lib.hid G19.out.le
    have LEw_H := Lib.hid B19.out.size
    refine (HC2.out x0_H y0_H _ (Q0H19.out.now.read HM0.out HL0.out)).mono ?_
    rintro e w18 ⟨rah, rch, rfl, hh, hb⟩
    clear Q0H19
    have B20 := Lib.hid (B19.out.trans (hb.mono B19.out.size))
    have A920 := Lib.hid (A919.out.next hb)
    have S20 := Lib.hid (S19.out.next hb)
    have G20 := Lib.hid (G19.out.next hb)
    clear B19 A919 S19 G19
    have H20 := Lib.hid (hh)
    clear hb hh
    go_wp2_with fail
    clear hHeld
    refine hK.out _ _ ?_ (fun hHeld => ?_)
    · exact A920.out.now.three
    clear hK K
    refine wpAnyH_take (i := 6) (v := ?_) rfl (by kernel_rfl) (by kernel_rfl) (by kernel_rfl) (fun _ _ _ h => h) (Or.inl ⟨by kernel_rfl, ?_⟩) (by assumption) ?_
    rotate_left
    · intro w hSw; (try dsimp only at hSw); go_simp; try with_reducible rfl
    refine wpAnyH_take (i := 7) (v := ?_) rfl (by kernel_rfl) (by kernel_rfl) (by kernel_rfl) (fun _ _ _ h => h) (Or.inl ⟨by kernel_rfl, ?_⟩) (by assumption) ?_
    rotate_left
    · intro w hSw; (try dsimp only at hSw); go_simp; try with_reducible rfl
    refine wpAnyH_take (i := 8) (v := ?_) rfl (by kernel_rfl) (by kernel_rfl) (by kernel_rfl) (fun _ _ _ h => h) (Or.inl ⟨by kernel_rfl, ?_⟩) (by assumption) ?_
    rotate_left
    · intro w hSw; (try dsimp only at hSw); go_simp; try with_reducible rfl
    refine wpAnyH_take (i := 9) (v := ?_) rfl (by kernel_rfl) (by kernel_rfl) (by kernel_rfl) (fun _ _ _ h => h) (Or.inl ⟨by kernel_rfl, ?_⟩) (by assumption) ?_
    rotate_left
    · intro w hSw; (try dsimp only at hSw); go_simp; try with_reducible rfl
    refine wpAnyH_take (i := 10) (v := ?_) rfl (by kernel_rfl) (by kernel_rfl) (by kernel_rfl) (fun _ _ _ h => h) (Or.inl ⟨by kernel_rfl, ?_⟩) (by assumption) ?_
    rotate_left
    · intro w hSw; (try dsimp only at hSw); go_simp; try with_reducible rfl
    refine wpAnyH_done (by kernel_rfl) ?_ _
    try simp only [Act.put, List.setIfInBounds_toArray, List.set_cons_zero, List.set_cons_succ, List.getElem_toArray, List.getElem_cons_zero, List.getElem_cons_succ]
    clear hHeld
    go_wp2_with fail
    refine (eqNams rah ras N rch N rcs R _ (H20.out.now.read HRM.out HN.out) (S20.out.now.read HRM.out HN.out) rl).mono ?_
    rintro e w19 ⟨rfl, hb⟩
    have B21 := Lib.hid (B20.out.trans (hb.mono B20.out.size))
    have A921 := Lib.hid (A920.out.next hb)
    have S21 := Lib.hid (S20.out.next hb)
    have G21 := Lib.hid (G20.out.next hb)
    have H21 := Lib.hid (H20.out.next hb)
    clear B20 A920 S20 G20 H20
    clear hb
    clear H21
    go_wp2_with fail
    have HD := exHeldN G21.out rl HN.out (by omega) (by omega)
    rw [HQQ.out] at HD
    refine HD.mono ?_
    rintro e w20 ⟨rfl, hb⟩
    clear HD
    have B22 := Lib.hid (B21.out.trans (hb.mono B21.out.size))
    have A922 := Lib.hid (A921.out.next hb)
    have S22 := Lib.hid (S21.out.next hb)
    have G22 := Lib.hid (G21.out.next hb)
    clear B21 A921 S21 G21
    clear hb
    go_wp2_with fail
    go_ret
    exact ⟨rfl, B22.out⟩
end fnExactDataWithout
end Go.Proofs.YtnjphlaohihbaaaGreat
