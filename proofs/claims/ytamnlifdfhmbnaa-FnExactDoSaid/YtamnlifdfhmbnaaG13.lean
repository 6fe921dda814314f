/- Files and ops on them: the specification. -/
import Derived.Test.YtamnlifdfhmbnaaG11
import Derived.Test.YtamnlifdfhmbnaaG12
import Derived.Test.YtamnlifdfhmbnaaG00
import Derived.Deep.RegionHeld3
import Derived.Deep.RegionWith
namespace Go.Proofs.Ytamnlifdfhmbnaa
open Go.RowKit Go.WideShapes
set_option maxRecDepth 100000 in
theorem specName (s : ByteArray) (hs : s.size ≤ maxLen) (w : World) :
    Calls Try.prog 81 #[.string s] w fun e w' => e = .returned (.bool (nmOk s)) ∧ w' = w := by
  unfold maxLen at hs
  by_cases h1 : 1 ≤ s.size
  · have k1 : (1 : Int) ≤ (s.size : Int) := by omega
    by_cases h2 : s.size ≤ 100
    · have k2 : (s.size : Int) ≤ 100 := by omega
      have HR : Hid (nmOk s = true) := Lib.hid (by unfold nmOk; simp [h1, h2])
      clear h1 h2
      go_enter Try.func81, Try.ntmps81
      go_wp2_with fail
      go_ret
      exact ⟨by rw [HR.out]; rfl, rfl⟩
    · have k2 : ¬ (s.size : Int) ≤ 100 := by omega
      have HR : Hid (nmOk s = false) := Lib.hid (by unfold nmOk; simp [h1, h2])
      clear h1 h2
      go_enter Try.func81, Try.ntmps81
      go_wp2_with fail
      go_ret
      exact ⟨by rw [HR.out]; rfl, rfl⟩
  · have k1 : ¬ (1 : Int) ≤ (s.size : Int) := by omega
    have HR : Hid (nmOk s = false) := Lib.hid (by unfold nmOk; simp [h1])
    clear h1
    go_enter Try.func81, Try.ntmps81
    go_wp2_with fail
    go_ret
    exact ⟨by rw [HR.out]; rfl, rfl⟩
theorem totS_len (ts : List Pre2) (M : Nat) (h : ∀ t ∈ ts, t.2.size ≤ M) : totF ts ≤ ts.length * M := by
  unfold totF
  induction ts with
  | nil => simp
  | cons t ts ih =>
    have h1 := ih (fun u hu => h u (List.mem_cons_of_mem _ hu))
    have h2 := h t (by simp)
    rw [List.map_cons, List.sum_cons, List.length_cons, Nat.add_mul, Nat.one_mul]
    omega
theorem totS_take (ts : List Pre2) (k : Nat) (hk : k ≤ 60) (h : ∀ t ∈ ts, t.2.size ≤ 1000000000000) : totF (ts.take k) ≤ 60000000000000 := by
  have h1 := totS_len (ts.take k) 1000000000000 (fun t ht => h t (List.mem_of_mem_take ht))
  have h2 : (ts.take k).length ≤ 60 := by rw [List.length_take]; omega
  exact Nat.le_trans h1 (Nat.le_trans (Nat.mul_le_mul_right _ h2) (by decide))
theorem totS_snoc (ts : List Pre2) (t : Pre2) : totF (ts ++ [t]) = totF ts + t.2.size := by unfold totF; simp
set_option maxRecDepth 100000 in
set_option maxHeartbeats 3200000 in
theorem specFiles (a : Option Addr) (len cap : Nat) (ts : List Pre2) (w : World) (h : IsPres w a len cap ts) (hz : ∀ t ∈ ts, t.2.size ≤ 1000000000000) :
    Calls Try.prog 45 #[.slice a len cap] w fun e w' => e = .returned (.bool (filesOk ts)) ∧ Below w.heap.size w w' := by
  have hts := h.len
  have hml := pres_mostFi h
  by_cases g0 : 60 < len
  · have g1 : (60 : Int) < (len : Int) := by omega
    have HR : Hid (filesOk ts = false) := Lib.hid (by unfold filesOk fitsF; rw [decide_eq_false (p := ts.length ≤ 60) (by omega), Bool.false_and, Bool.and_false])
    clear h hts
    go_enter Try.func45, Try.ntmps45
    go_wp2_with fail
    go_ret
    exact ⟨by rw [HR.out]; rfl, Below.refl _ _⟩
  have g1 : ¬ (60 : Int) < (len : Int) := by omega
  have HT := Lib.hid hts
  have H := Lib.hid h
  have HZ := Lib.hid hz
  clear hts h hz
  go_enter Try.func45, Try.ntmps45
  go_wp2_with fail
  go_loopw [3, 4] (fun n i wr => ∃ k : Nat, k ≤ len ∧ i = .int .i64 k ∧ n = .int .i64 ((totF (ts.take k) : Nat) : Int) ∧ Hid (gUpto filT lessP ts k = true) ∧ Below w.heap.size w wr) (fun _ i _ => len - (intOf i).toNat)
  case atStart => exact ⟨0, Nat.zero_le _, rfl, by simp [totF], Lib.hid rfl, Below.refl _ _⟩
  case round =>
    obtain ⟨k, hk, rfl, rfl, hok, hnx⟩ := hrel
    have hk6 : (0 : Int) ≤ (k : Int) := by omega
    obtain ⟨S, hS⟩ : ∃ S, totF (ts.take k) = S := ⟨_, rfl⟩
    have hSb : S ≤ 60000000000000 := by rw [← hS]; exact totS_take ts k (by omega) HZ.out
    have HSE := Lib.hid hS
    rw [hS]
    clear hS
    by_cases hlt : k < len
    · have hk7 : (k : Int) < (len : Int) := by omega
      obtain ⟨b, off, rfl, hb, hll, hm, hts, hc⟩ := H.out.cells (by omega)
      have ht : ts[k]? = some ts[k] := List.getElem?_eq_getElem (by omega)
      have hdz := HZ.out ts[k] (List.getElem_mem _)
      have HTK : Hid (totF (ts.take (k + 1)) = S + ts[k].2.size) := Lib.hid (by rw [List.take_succ_eq_append_getElem (by omega), totS_snoc, HSE.out])
      obtain ⟨c0, c1, m0, m1⟩ := hc k _ ht
      rw [← hnx.cell (p := ⟨b, _, none⟩) hb] at c0 c1
      obtain ⟨t, htt⟩ : ∃ t, ts[k] = t := ⟨_, rfl⟩
      rw [htt] at c0 c1 ht m0 hdz HTK
      clear htt m1
      obtain ⟨s, d⟩ := t
      simp only at c0 c1 m0 hdz HTK
      have C0 := specName s m0
      have l0 : b < wr.heap.size := Nat.lt_of_lt_of_le hb hnx.size
      have BW := hnx.drew
      have e1 : wr.drew.cell? ⟨b, off + k * 2 + 1, none⟩ = some (.string d) := c1
      have hadd : ((S + d.size : Nat) : Int) = (S : Int) + (d.size : Int) := by omega
      have HAD := Lib.hid hadd
      clear hadd
      cases q : nmOk s
      · have HR : Hid (filesOk ts = false) := Lib.hid (by unfold filesOk; rw [gUpto_no (gAt_not ht (show filT (s, d) = false from q)) (by omega)]; rfl)
        rw [q] at C0
        have C1 := Lib.hid C0
        clear C0 q ht hts hc hm
        go_wp2_with fail
        refine wp_region_any (by kernel_rfl) ?_
        change wpAny _ _ _ _ _ _ _ (World.drew _)
        refine wpAny_take (i := 0) (v := ?_) rfl (by kernel_rfl) (by kernel_rfl) (by kernel_rfl) (fun _ _ _ h => h) (Or.inl ⟨by kernel_rfl, ?_⟩) ?_
        rotate_left
        · intro w; go_simp; try with_reducible rfl
        refine wpAny_take (i := 1) (v := ?_) rfl (by kernel_rfl) (by kernel_rfl) (by kernel_rfl) (fun _ _ _ h => h) (Or.inl ⟨by kernel_rfl, ?_⟩) ?_
        rotate_left
        · intro w; go_simp; try with_reducible rfl
        refine wpAny_take (i := 2) (v := ?_) rfl (by kernel_rfl) (by kernel_rfl) (by kernel_rfl) (fun _ _ _ h => h) (Or.inl ⟨by kernel_rfl, ?_⟩) ?_
        rotate_left
        · intro w; go_simp; try with_reducible rfl
        refine wpAny_take (i := 3) (v := ?_) rfl (by kernel_rfl) (by kernel_rfl) (by kernel_rfl) (fun _ _ _ h => h) (Or.inl ⟨by kernel_rfl, ?_⟩) ?_
        rotate_left
        · intro w; go_simp; try with_reducible rfl
        refine wpAny_ready (rs := [4]) (by kernel_rfl) (by simp) ?_
        refine AllReady.cons rfl (fun K hK => ?_) AllReady.nil
        go_simp
        refine hK _ _ ?_
        clear hK K
        refine wpAny_ready (rs := [5]) (by kernel_rfl) (by simp) ?_
        refine AllReady.cons rfl (fun K hK => ?_) AllReady.nil
        go_simp
        refine (C1.out _).mono ?_
        rintro e wn ⟨rfl, rfl⟩
        go_wp2_with fail
        refine wpAny_take (i := 6) (v := ?_) rfl (by kernel_rfl) (by kernel_rfl) (by kernel_rfl) (fun _ _ _ h => h) (Or.inl ⟨by kernel_rfl, ?_⟩) ?_
        rotate_left
        · intro w; go_simp; try with_reducible rfl
        refine wpAny_take (i := 7) (v := ?_) rfl (by kernel_rfl) (by kernel_rfl) (by kernel_rfl) (fun _ _ _ h => h) (Or.inl ⟨by kernel_rfl, ?_⟩) ?_
        rotate_left
        · intro w; go_simp; try with_reducible rfl
        refine wpAny_take (i := 8) (v := undef) rfl (by kernel_rfl) (by kernel_rfl) (by kernel_rfl) (fun _ _ _ h => h) (Or.inr ⟨by kernel_rfl, rfl⟩) ?_
        refine wpAny_take (i := 9) (v := undef) rfl (by kernel_rfl) (by kernel_rfl) (by kernel_rfl) (fun _ _ _ h => h) (Or.inr ⟨by kernel_rfl, rfl⟩) ?_
        refine wpAny_take (i := 10) (v := undef) rfl (by kernel_rfl) (by kernel_rfl) (by kernel_rfl) (fun _ _ _ h => h) (Or.inr ⟨by kernel_rfl, rfl⟩) ?_
        refine wpAny_take (i := 11) (v := undef) rfl (by kernel_rfl) (by kernel_rfl) (by kernel_rfl) (fun _ _ _ h => h) (Or.inr ⟨by kernel_rfl, rfl⟩) ?_
        refine wpAny_take (i := 12) (v := undef) rfl (by kernel_rfl) (by kernel_rfl) (by kernel_rfl) (fun _ _ _ h => h) (Or.inr ⟨by kernel_rfl, rfl⟩) ?_
        refine wpAny_take (i := 13) (v := undef) rfl (by kernel_rfl) (by kernel_rfl) (by kernel_rfl) (fun _ _ _ h => h) (Or.inr ⟨by kernel_rfl, rfl⟩) ?_
        refine wpAny_take (i := 14) (v := undef) rfl (by kernel_rfl) (by kernel_rfl) (by kernel_rfl) (fun _ _ _ h => h) (Or.inr ⟨by kernel_rfl, rfl⟩) ?_
        refine wpAny_take (i := 15) (v := undef) rfl (by kernel_rfl) (by kernel_rfl) (by kernel_rfl) (fun _ _ _ h => h) (Or.inr ⟨by kernel_rfl, rfl⟩) ?_
        refine wpAny_take (i := 16) (v := undef) rfl (by kernel_rfl) (by kernel_rfl) (by kernel_rfl) (fun _ _ _ h => h) (Or.inr ⟨by kernel_rfl, rfl⟩) ?_
        refine wpAny_take (i := 17) (v := undef) rfl (by kernel_rfl) (by kernel_rfl) (by kernel_rfl) (fun _ _ _ h => h) (Or.inr ⟨by kernel_rfl, rfl⟩) ?_
        refine wpAny_take (i := 18) (v := undef) rfl (by kernel_rfl) (by kernel_rfl) (by kernel_rfl) (fun _ _ _ h => h) (Or.inr ⟨by kernel_rfl, rfl⟩) ?_
        refine wpAny_take (i := 19) (v := undef) rfl (by kernel_rfl) (by kernel_rfl) (by kernel_rfl) (fun _ _ _ h => h) (Or.inr ⟨by kernel_rfl, rfl⟩) ?_
        refine wpAny_take (i := 20) (v := undef) rfl (by kernel_rfl) (by kernel_rfl) (by kernel_rfl) (fun _ _ _ h => h) (Or.inr ⟨by kernel_rfl, rfl⟩) ?_
        refine wpAny_take (i := 21) (v := undef) rfl (by kernel_rfl) (by kernel_rfl) (by kernel_rfl) (fun _ _ _ h => h) (Or.inr ⟨by kernel_rfl, rfl⟩) ?_
        refine wpAny_take (i := 22) (v := undef) rfl (by kernel_rfl) (by kernel_rfl) (by kernel_rfl) (fun _ _ _ h => h) (Or.inr ⟨by kernel_rfl, rfl⟩) ?_
        refine wpAny_take (i := 23) (v := undef) rfl (by kernel_rfl) (by kernel_rfl) (by kernel_rfl) (fun _ _ _ h => h) (Or.inr ⟨by kernel_rfl, rfl⟩) ?_
        refine wpAny_take (i := 24) (v := ?_) rfl (by kernel_rfl) (by kernel_rfl) (by kernel_rfl) (fun _ _ _ h => h) (Or.inl ⟨by kernel_rfl, ?_⟩) ?_
        rotate_left
        · intro w; go_simp; try with_reducible rfl
        refine wpAny_done (by kernel_rfl) ?_ _
        try simp only [Act.put, List.setIfInBounds_toArray, List.set_cons_zero, List.set_cons_succ, List.getElem_toArray, List.getElem_cons_zero, List.getElem_cons_succ]
        go_wp2_with fail
        go_ret
        exact ⟨by rw [HR.out]; rfl, BW⟩
      rw [q] at C0
      have C1 := Lib.hid C0
      clear C0
      by_cases h0 : k = 0
      · subst h0
        have HN : Hid (gUpto filT lessP ts (0 + 1) = true) := Lib.hid (by rw [gUpto_succ, hok.out, gAt_zero ht]; exact q)
        clear q ht hts hc hm
        simp only [Nat.zero_mul, Nat.add_zero] at c0 c1 e1
        go_wp2_with fail
        refine wp_region_any (by kernel_rfl) ?_
        change wpAny _ _ _ _ _ _ _ (World.drew _)
        refine wpAny_take (i := 0) (v := ?_) rfl (by kernel_rfl) (by kernel_rfl) (by kernel_rfl) (fun _ _ _ h => h) (Or.inl ⟨by kernel_rfl, ?_⟩) ?_
        rotate_left
        · intro w; go_simp; try with_reducible rfl
        refine wpAny_take (i := 1) (v := ?_) rfl (by kernel_rfl) (by kernel_rfl) (by kernel_rfl) (fun _ _ _ h => h) (Or.inl ⟨by kernel_rfl, ?_⟩) ?_
        rotate_left
        · intro w; go_simp; try with_reducible rfl
        refine wpAny_take (i := 2) (v := ?_) rfl (by kernel_rfl) (by kernel_rfl) (by kernel_rfl) (fun _ _ _ h => h) (Or.inl ⟨by kernel_rfl, ?_⟩) ?_
        rotate_left
        · intro w; go_simp; try with_reducible rfl
        refine wpAny_take (i := 3) (v := ?_) rfl (by kernel_rfl) (by kernel_rfl) (by kernel_rfl) (fun _ _ _ h => h) (Or.inl ⟨by kernel_rfl, ?_⟩) ?_
        rotate_left
        · intro w; go_simp; try with_reducible rfl
        refine wpAny_ready (rs := [4]) (by kernel_rfl) (by simp) ?_
        refine AllReady.cons rfl (fun K hK => ?_) AllReady.nil
        go_simp
        refine hK _ _ ?_
        clear hK K
        refine wpAny_ready (rs := [5]) (by kernel_rfl) (by simp) ?_
        refine AllReady.cons rfl (fun K hK => ?_) AllReady.nil
        go_simp
        refine (C1.out _).mono ?_
        rintro e wn ⟨rfl, rfl⟩
        go_wp2_with fail
        refine wpAny_take (i := 6) (v := ?_) rfl (by kernel_rfl) (by kernel_rfl) (by kernel_rfl) (fun _ _ _ h => h) (Or.inl ⟨by kernel_rfl, ?_⟩) ?_
        rotate_left
        · intro w; go_simp; try with_reducible rfl
        refine wpAny_take (i := 7) (v := ?_) rfl (by kernel_rfl) (by kernel_rfl) (by kernel_rfl) (fun _ _ _ h => h) (Or.inl ⟨by kernel_rfl, ?_⟩) ?_
        rotate_left
        · intro w; go_simp; try with_reducible rfl
        refine wpAny_take (i := 8) (v := ?_) rfl (by kernel_rfl) (by kernel_rfl) (by kernel_rfl) (fun _ _ _ h => h) (Or.inl ⟨by kernel_rfl, ?_⟩) ?_
        rotate_left
        · intro w; go_simp; try with_reducible rfl
        refine wpAny_take (i := 9) (v := ?_) rfl (by kernel_rfl) (by kernel_rfl) (by kernel_rfl) (fun _ _ _ h => h) (Or.inl ⟨by kernel_rfl, ?_⟩) ?_
        rotate_left
        · intro w; go_simp; try with_reducible rfl
        refine wpAny_take (i := 10) (v := ?_) rfl (by kernel_rfl) (by kernel_rfl) (by kernel_rfl) (fun _ _ _ h => h) (Or.inl ⟨by kernel_rfl, ?_⟩) ?_
        rotate_left
        · intro w; go_simp; try with_reducible rfl
        refine wpAny_take (i := 11) (v := undef) rfl (by kernel_rfl) (by kernel_rfl) (by kernel_rfl) (fun _ _ _ h => h) (Or.inr ⟨by kernel_rfl, rfl⟩) ?_
        refine wpAny_take (i := 12) (v := undef) rfl (by kernel_rfl) (by kernel_rfl) (by kernel_rfl) (fun _ _ _ h => h) (Or.inr ⟨by kernel_rfl, rfl⟩) ?_
        refine wpAny_take (i := 13) (v := undef) rfl (by kernel_rfl) (by kernel_rfl) (by kernel_rfl) (fun _ _ _ h => h) (Or.inr ⟨by kernel_rfl, rfl⟩) ?_
        refine wpAny_take (i := 14) (v := undef) rfl (by kernel_rfl) (by kernel_rfl) (by kernel_rfl) (fun _ _ _ h => h) (Or.inr ⟨by kernel_rfl, rfl⟩) ?_
        refine wpAny_take (i := 15) (v := undef) rfl (by kernel_rfl) (by kernel_rfl) (by kernel_rfl) (fun _ _ _ h => h) (Or.inr ⟨by kernel_rfl, rfl⟩) ?_
        refine wpAny_take (i := 16) (v := undef) rfl (by kernel_rfl) (by kernel_rfl) (by kernel_rfl) (fun _ _ _ h => h) (Or.inr ⟨by kernel_rfl, rfl⟩) ?_
        refine wpAny_take (i := 17) (v := undef) rfl (by kernel_rfl) (by kernel_rfl) (by kernel_rfl) (fun _ _ _ h => h) (Or.inr ⟨by kernel_rfl, rfl⟩) ?_
        refine wpAny_take (i := 18) (v := undef) rfl (by kernel_rfl) (by kernel_rfl) (by kernel_rfl) (fun _ _ _ h => h) (Or.inr ⟨by kernel_rfl, rfl⟩) ?_
        refine wpAny_take (i := 19) (v := undef) rfl (by kernel_rfl) (by kernel_rfl) (by kernel_rfl) (fun _ _ _ h => h) (Or.inr ⟨by kernel_rfl, rfl⟩) ?_
        refine wpAny_take (i := 20) (v := undef) rfl (by kernel_rfl) (by kernel_rfl) (by kernel_rfl) (fun _ _ _ h => h) (Or.inr ⟨by kernel_rfl, rfl⟩) ?_
        refine wpAny_take (i := 21) (v := undef) rfl (by kernel_rfl) (by kernel_rfl) (by kernel_rfl) (fun _ _ _ h => h) (Or.inr ⟨by kernel_rfl, rfl⟩) ?_
        refine wpAny_take (i := 22) (v := undef) rfl (by kernel_rfl) (by kernel_rfl) (by kernel_rfl) (fun _ _ _ h => h) (Or.inr ⟨by kernel_rfl, rfl⟩) ?_
        refine wpAny_take (i := 23) (v := ?_) rfl (by kernel_rfl) (by kernel_rfl) (by kernel_rfl) (fun _ _ _ h => h) (Or.inl ⟨by kernel_rfl, ?_⟩) ?_
        rotate_left
        · intro w; go_simp; try with_reducible rfl
        refine wpAny_take (i := 24) (v := ?_) rfl (by kernel_rfl) (by kernel_rfl) (by kernel_rfl) (fun _ _ _ h => h) (Or.inl ⟨by kernel_rfl, ?_⟩) ?_
        rotate_left
        · intro w; go_simp; try with_reducible rfl
        refine wpAny_done (by kernel_rfl) ?_ _
        try simp only [Act.put, List.setIfInBounds_toArray, List.set_cons_zero, List.set_cons_succ, List.getElem_toArray, List.getElem_cons_zero, List.getElem_cons_succ]
        go_wp2_with fail
        go_roundw
        case rel => exact ⟨0 + 1, by omega, by go_num, by rw [HTK.out, HAD.out], HN, BW⟩
        case measure => simp [intOf]; omega
      obtain ⟨j, rfl⟩ : ∃ j, k = j + 1 := ⟨k - 1, by omega⟩
      have hu : ts[j]? = some ts[j] := List.getElem?_eq_getElem (by omega)
      obtain ⟨p0, p1, n0, n1⟩ := hc j _ hu
      clear n0 n1
      rw [← hnx.cell (p := ⟨b, _, none⟩) hb] at p0 p1
      obtain ⟨u, huu⟩ : ∃ u, ts[j] = u := ⟨_, rfl⟩
      rw [huu] at p0 p1 hu
      clear huu
      have HA := gAt_next (ok := filT) (ah := lessP) (by omega) ht hu
      have hqq : filT (s, d) = true := q
      rw [hqq] at HA
      cases ha : lessP u (s, d)
      all_goals
        have hls : Op.bytesLess u.1.toList s.toList = _ := ha
        have hj1 : ((j + 1 : Nat) : Int) - 1 = (j : Int) := by omega
        have hj2 : IntKind.i64.wrap (((j + 1 : Nat) : Int) - 1) = (j : Int) := by rw [hj1]; exact IntWalk.i64_in _ (by omega)
        have hjl : j < len := by omega
        have hk8 : (0 : Int) ≤ (j : Int) + 1 := by omega
        have hk9 : (j : Int) + 1 < (len : Int) := by omega
        have hj6 : (0 : Int) ≤ (j : Int) := by omega
        have hj7 : (j : Int) < (len : Int) := by omega
        have hj8 : IntKind.i64.wrap (j : Int) = (j : Int) := IntWalk.i64_in _ (by omega)
        have hj4 : (j : Int) + 1 - 1 = (j : Int) := by omega
        have hj5 : IntKind.i64.wrap ((j : Int) + 1 - 1) = (j : Int) := by rw [hj4]; exact IntWalk.i64_in _ (by omega)
        have hj3 : decide ((0 : Int) < ((j + 1 : Nat) : Int)) = true := by rw [decide_eq_true_eq]; omega
      · have HR : Hid (filesOk ts = false) := Lib.hid (by unfold filesOk; rw [gUpto_no (k := j + 1) (by rw [HA, ha]; rfl) (by omega)]; rfl)
        have hcmp : Op.bytesLess s.toList u.1.toList = true ∨ (Op.bytesLess s.toList u.1.toList = false ∧ (s.toList == u.1.toList) = true) := by
          cases e : Op.bytesLess s.toList u.1.toList
          · right
            refine ⟨rfl, ?_⟩
            rw [beq_iff_eq, ByteArray.toList_eq, ByteArray.toList_eq]
            rw [ByteArray.toList_eq, ByteArray.toList_eq] at hls e
            exact lessS_one e hls
          · exact .inl rfl
        clear ha HA q hqq ht hu hts hc hm hls
        rcases hcmp with hc1 | ⟨hc1, hc2⟩
        all_goals
          go_wp2_with fail
          go_region_held3 (fun w' => w'.cell? ⟨b, off + (j + 1) * 2, none⟩ = some (.string s) ∧ w'.cell? ⟨b, off + j * 2, none⟩ = some (.string u.1))
            (first | go_keep | (go_split_ands; refine ⟨?_, ?_⟩ <;> assumption))
            (first | (go_at_call 81; refine (C1.out _).mono ?_; rintro e wa ⟨rfl, rfl⟩))
          go_wp2_with fail
          go_ret
          exact ⟨by rw [HR.out]; rfl, BW⟩
      · have HN : Hid (gUpto filT lessP ts (j + 1 + 1) = true) := Lib.hid (by rw [gUpto_succ, hok.out, HA, ha]; rfl)
        have hc1 : Op.bytesLess s.toList u.1.toList = false := by
          rw [ByteArray.toList_eq, ByteArray.toList_eq] at hls ⊢
          exact lessS_asymm hls
        have hc2 : (s.toList == u.1.toList) = false := by
          rw [beq_eq_false_iff_ne, ByteArray.toList_eq, ByteArray.toList_eq]
          rw [ByteArray.toList_eq, ByteArray.toList_eq] at hls
          exact fun e => lessS_ne hls e.symm
        clear hls
        clear ha HA q hqq ht hu hts hc hm
        go_wp2_with fail
        go_region_held3 (fun w' => w'.cell? ⟨b, off + (j + 1) * 2, none⟩ = some (.string s) ∧ w'.cell? ⟨b, off + j * 2, none⟩ = some (.string u.1))
          (first | go_keep | (go_split_ands; refine ⟨?_, ?_⟩ <;> assumption))
          (first | (go_at_call 81; refine (C1.out _).mono ?_; rintro e wa ⟨rfl, rfl⟩))
        go_wp2_with fail
        go_roundw
        case rel => exact ⟨j + 1 + 1, by omega, by go_num, by rw [HTK.out, HAD.out], HN, BW⟩
        case measure => simp [intOf]; omega
    · have hle : k = len := by omega
      have hfull : ts.take k = ts := List.take_of_length_le (by rw [HT.out, hle]; exact Nat.le_refl _)
      have hS2 : totF ts = S := by rw [← HSE.out, hfull]
      by_cases g : S ≤ 200000
      · have g2 : (S : Int) ≤ 200000 := by omega
        have HR : Hid (filesOk ts = true) := Lib.hid (by
          have := hok.out
          rw [hle, ← HT.out] at this
          unfold filesOk fitsF
          rw [this, hS2, decide_eq_true g, decide_eq_true (p := ts.length ≤ 60) (by rw [HT.out]; omega)]; rfl)
        clear hS2 hfull hle
        go_wp2_with fail
        go_ret
        exact ⟨by rw [HR.out]; rfl, hnx⟩
      · have g2 : ¬ (S : Int) ≤ 200000 := by omega
        have HR : Hid (filesOk ts = false) := Lib.hid (by unfold filesOk fitsF; rw [hS2, decide_eq_false g, Bool.and_false, Bool.and_false])
        clear hS2 hfull hle
        go_wp2_with fail
        go_ret
        exact ⟨by rw [HR.out]; rfl, hnx⟩
end Go.Proofs.Ytamnlifdfhmbnaa
/- An op on files: the specification. -/
namespace Go.Proofs.Ytamnlifdfhmbnaa
open Go.RowKit Go.WideShapes
theorem OwnPFi.keep {B : Nat} {w w' : World} {v : Value} {ts : List Pre2} (h : OwnPFi B w v ts) (hb : Below w.heap.size w w') : OwnPFi B w' v ts := World.ownsRow.kept h (grown_of_below hb) (by
  rcases hv : v.ownBlock with _ | i
  · exact .inl rfl
  · exact .inr (by simp))
theorem OwnPFi.moved {w V V' : World} {v : Value} {ts : List Pre2} (h : OwnPFi w.heap.size V v ts) (n : Below w.heap.size w V) (g : V.grownBy V' v.ownBlock) : Below w.heap.size w V' := n.grown g n.size (fun j hj => (World.ownsRow.lt h j hj).1)
/-- The place of a file. -/
def placeF : List Pre2 → ByteArray → Nat → Int
  | [], _, _ => -1
  | t :: r, s, k => if t.1 = s then (k : Int) else placeF r s (k + 1)
theorem placeF_at : ∀ (ts : List Pre2) (s : ByteArray) (k : Nat), (atF ts s = none ∧ placeF ts s k = -1) ∨ ∃ i d, atF ts s = some d ∧ placeF ts s k = ((k + i : Nat) : Int) ∧ ts[i]? = some (s, d)
  | [], s, k => .inl ⟨rfl, rfl⟩
  | t :: r, s, k => by
    unfold atF placeF
    by_cases e : t.1 = s
    · rw [if_pos e, if_pos e]
      exact .inr ⟨0, t.2, rfl, by simp, by simp [← e]⟩
    · rw [if_neg e, if_neg e]
      rcases placeF_at r s (k + 1) with ⟨h1, h2⟩ | ⟨i, d, h1, h2, h3⟩
      · exact .inl ⟨h1, h2⟩
      · exact .inr ⟨i + 1, d, h1, by rw [h2]; congr 1; omega, by simpa using h3⟩
theorem placeF_skip : ∀ (ts : List Pre2) (s : ByteArray) (k : Nat), (∀ i, i < k → ∀ t, ts[i]? = some t → t.1 ≠ s) → k ≤ ts.length → placeF ts s 0 = placeF (ts.drop k) s k := by
  have h : ∀ (k : Nat) (ts : List Pre2) (s : ByteArray) (m : Nat), (∀ i, i < k → ∀ t, ts[i]? = some t → t.1 ≠ s) → k ≤ ts.length → placeF ts s m = placeF (ts.drop k) s (m + k) := by
    intro k
    induction k with
    | zero => intro ts s m _ _; rfl
    | succ k ih =>
      intro ts s m hn hl
      rcases ts with _ | ⟨t, r⟩
      · simp at hl
      · have h0 := hn 0 (by omega) t rfl
        have e : placeF (t :: r) s m = placeF r s (m + 1) := by
          show (if t.1 = s then (m : Int) else placeF r s (m + 1)) = _
          rw [if_neg h0]
        rw [e, ih r s (m + 1) (fun i hi u hu => hn (i + 1) (by omega) u (by simpa using hu)) (by simpa using hl)]
        rw [List.drop_succ_cons]
        congr 1; omega
  intro ts s k hn hl
  have := h k ts s 0 hn hl
  rwa [Nat.zero_add] at this
set_option maxRecDepth 100000 in
theorem specIn3 (n low high : Int) (w : World) : Calls Try.prog 73 #[.int .i64 n, .int .i64 low, .int .i64 high] w fun e w' => e = .returned (.bool (decide (low ≤ n) && decide (n ≤ high))) ∧ w' = w := by
  obtain ⟨bv, hbv⟩ : ∃ x, (decide (low ≤ n) && decide (n ≤ high)) = x := ⟨_, rfl⟩
  rw [hbv]
  by_cases h1 : low ≤ n
  · by_cases h2 : n ≤ high
    · have HR : Hid (bv = true) := Lib.hid (by rw [← hbv, decide_eq_true h1, decide_eq_true h2]; rfl)
      clear hbv
      go_enter Try.func73, Try.ntmps73
      go_wp2_with fail
      go_ret
      exact ⟨by rw [HR.out]; rfl, rfl⟩
    · have HR : Hid (bv = false) := Lib.hid (by rw [← hbv, decide_eq_false h2, Bool.and_false])
      clear hbv
      go_enter Try.func73, Try.ntmps73
      go_wp2_with fail
      go_ret
      exact ⟨by rw [HR.out]; rfl, rfl⟩
  · have HR : Hid (bv = false) := Lib.hid (by rw [← hbv, decide_eq_false h1, Bool.false_and])
    clear hbv
    go_enter Try.func73, Try.ntmps73
    go_wp2_with fail
    go_ret
    exact ⟨by rw [HR.out]; rfl, rfl⟩
theorem noTextS {s : ByteArray} (h : s.size = 0) : s = ⟨#[]⟩ := nmP_inj (List.length_eq_zero_iff.1 h)
theorem someTextS {s : ByteArray} (h : ¬ s.size = 0) : ¬ s.toList = [] := by rw [ByteArray.toList_eq]; exact fun e => h (by show s.data.toList.length = 0; rw [e]; rfl)
set_option maxRecDepth 100000 in
set_option maxHeartbeats 3200000 in
theorem specForm (r : Int) (s t d : ByteArray) (hs : s.size ≤ maxLen) (ht : t.size ≤ maxLen) (w : World) :
    Calls Try.prog 47 #[.agg #[.int .i64 r, .string s, .string t, .string d]] w fun e w' => e = .returned (.bool (formOk (r, s, t, d))) ∧ Below w.heap.size w w' := by
  have B0 := (Below.refl w.heap.size w).alloc (Nat.le_refl _) (.cells #[.int .i64 r, .string s, .string t, .string d] 36)
  have X := cells_new w #[.int .i64 r, .string s, .string t, .string d] 36
  have x0 := X.now.at 0
  have x1 := X.now.at 1
  have x2 := X.now.at 2
  have x3 := X.now.at 3
  have K1 := specIn3 r 1 3
  have HN := Lib.hid (specName s hs)
  have HM := Lib.hid (specName t ht)
  have hfm : formOk (r, s, t, d) = ((decide (1 ≤ r) && decide (r ≤ 3)) && (nmOk s && (if r = 2 then nmOk t && decide (d.size = 0) else decide (t.size = 0) && (decide (r = 1) || decide (d.size = 0))))) := rfl
  obtain ⟨bv, hbv⟩ : ∃ x, formOk (r, s, t, d) = x := ⟨_, rfl⟩
  rw [hbv]
  rw [hfm] at hbv
  have HV := Lib.hid hbv
  clear X hfm hbv
  cases q1 : (decide (1 ≤ r) && decide (r ≤ 3))
  · rw [q1] at K1
    have HK := Lib.hid K1
    clear K1
    have HR : Hid (bv = false) := Lib.hid (by rw [← HV.out, q1]; rfl)
    clear HV q1
    go_enter Try.func47, Try.ntmps47
    go_wp2_with fail
    refine (HK.out _).mono ?_
    rintro e w1 ⟨rfl, rfl⟩
    go_wp2_with fail
    go_ret
    exact ⟨by rw [HR.out]; rfl, B0⟩
  rw [q1] at K1
  have HK := Lib.hid K1
  clear K1
  cases q2 : nmOk s
  · rw [q2] at HN
    have HR : Hid (bv = false) := Lib.hid (by rw [← HV.out, q1, q2]; rfl)
    clear HV q1 q2
    go_enter Try.func47, Try.ntmps47
    go_wp2_with fail
    refine (HK.out _).mono ?_
    rintro e w1 ⟨rfl, rfl⟩
    go_wp2_with fail
    refine (HN.out _).mono ?_
    rintro e w1 ⟨rfl, rfl⟩
    go_wp2_with fail
    go_ret
    exact ⟨by rw [HR.out]; rfl, B0⟩
  rw [q2] at HN
  by_cases g2 : r = 2
  · subst g2
    cases q3 : nmOk t
    · rw [q3] at HM
      have HR : Hid (bv = false) := Lib.hid (by rw [← HV.out, q1, q2, if_pos rfl, q3]; rfl)
      clear HV q1 q2 q3
      go_enter Try.func47, Try.ntmps47
      go_wp2_with fail
      refine (HK.out _).mono ?_
      rintro e w1 ⟨rfl, rfl⟩
      go_wp2_with fail
      refine (HN.out _).mono ?_
      rintro e w1 ⟨rfl, rfl⟩
      go_wp2_with fail
      refine (HM.out _).mono ?_
      rintro e w1 ⟨rfl, rfl⟩
      go_wp2_with fail
      go_ret
      exact ⟨by rw [HR.out]; rfl, B0⟩
    rw [q3] at HM
    by_cases zd : d.size = 0
    · have ed := decide_eq_true zd
      have HR : Hid (bv = true) := Lib.hid (by rw [← HV.out, q1, q2, if_pos rfl, q3, ed]; rfl)
      clear ed HV q1 q2 q3
      obtain rfl := noTextS zd
      go_enter Try.func47, Try.ntmps47
      go_wp2_with fail
      refine (HK.out _).mono ?_
      rintro e w1 ⟨rfl, rfl⟩
      go_wp2_with fail
      refine (HN.out _).mono ?_
      rintro e w1 ⟨rfl, rfl⟩
      go_wp2_with fail
      refine (HM.out _).mono ?_
      rintro e w1 ⟨rfl, rfl⟩
      go_wp2_with fail
      go_ret
      exact ⟨by rw [HR.out]; rfl, B0⟩
    · have ed := decide_eq_false zd
      have HR : Hid (bv = false) := Lib.hid (by rw [← HV.out, q1, q2, if_pos rfl, q3, ed]; rfl)
      have nd := someTextS zd
      have bd : (d.toList == []) = false := by simp [nd]
      clear ed HV q1 q2 q3
      go_enter Try.func47, Try.ntmps47
      go_wp2_with fail
      refine (HK.out _).mono ?_
      rintro e w1 ⟨rfl, rfl⟩
      go_wp2_with fail
      refine (HN.out _).mono ?_
      rintro e w1 ⟨rfl, rfl⟩
      go_wp2_with fail
      refine (HM.out _).mono ?_
      rintro e w1 ⟨rfl, rfl⟩
      go_wp2_with fail
      go_ret
      exact ⟨by rw [HR.out]; rfl, B0⟩
  have b2 : (r == 2) = false := by rw [beq_eq_false_iff_ne]; exact g2
  by_cases zt : t.size = 0
  rotate_left
  · have et := decide_eq_false zt
    have HR : Hid (bv = false) := Lib.hid (by rw [← HV.out, q1, q2, if_neg g2, et]; rfl)
    have nt := someTextS zt
    have bt : (t.toList == []) = false := by simp [nt]
    clear et HV q1 q2
    go_enter Try.func47, Try.ntmps47
    go_wp2_with fail
    refine (HK.out _).mono ?_
    rintro e w1 ⟨rfl, rfl⟩
    go_wp2_with fail
    refine (HN.out _).mono ?_
    rintro e w1 ⟨rfl, rfl⟩
    go_wp2_with fail
    go_ret
    exact ⟨by rw [HR.out]; rfl, B0⟩
  have et := decide_eq_true zt
  by_cases g1 : r = 1
  · have e1 := decide_eq_true g1
    have HR : Hid (bv = true) := Lib.hid (by rw [← HV.out, q1, q2, if_neg g2, et, e1]; rfl)
    clear et e1 HV q1 q2
    subst g1
    obtain rfl := noTextS zt
    go_enter Try.func47, Try.ntmps47
    go_wp2_with fail
    refine (HK.out _).mono ?_
    rintro e w1 ⟨rfl, rfl⟩
    go_wp2_with fail
    refine (HN.out _).mono ?_
    rintro e w1 ⟨rfl, rfl⟩
    go_wp2_with fail
    go_ret
    exact ⟨by rw [HR.out]; rfl, B0⟩
  have e1 := decide_eq_false g1
  have b1 : (r == 1) = false := by rw [beq_eq_false_iff_ne]; exact g1
  by_cases zd : d.size = 0
  · have ed := decide_eq_true zd
    have HR : Hid (bv = true) := Lib.hid (by rw [← HV.out, q1, q2, if_neg g2, et, e1, ed]; rfl)
    clear et e1 ed HV q1 q2
    obtain rfl := noTextS zt
    obtain rfl := noTextS zd
    go_enter Try.func47, Try.ntmps47
    go_wp2_with fail
    refine (HK.out _).mono ?_
    rintro e w1 ⟨rfl, rfl⟩
    go_wp2_with fail
    refine (HN.out _).mono ?_
    rintro e w1 ⟨rfl, rfl⟩
    go_wp2_with fail
    go_ret
    exact ⟨by rw [HR.out]; rfl, B0⟩
  · have ed := decide_eq_false zd
    have HR : Hid (bv = false) := Lib.hid (by rw [← HV.out, q1, q2, if_neg g2, et, e1, ed]; rfl)
    have nd := someTextS zd
    have bd : (d.toList == []) = false := by simp [nd]
    clear et e1 ed HV q1 q2
    obtain rfl := noTextS zt
    go_enter Try.func47, Try.ntmps47
    go_wp2_with fail
    refine (HK.out _).mono ?_
    rintro e w1 ⟨rfl, rfl⟩
    go_wp2_with fail
    refine (HN.out _).mono ?_
    rintro e w1 ⟨rfl, rfl⟩
    go_wp2_with fail
    go_ret
    exact ⟨by rw [HR.out]; rfl, B0⟩
set_option maxRecDepth 100000 in
set_option maxHeartbeats 1600000 in
theorem specAt (a : Option Addr) (len cap : Nat) (ts : List Pre2) (s : ByteArray) (w : World) (h : IsPres w a len cap ts) (hl : len ≤ 9223372036854775807) :
    Calls Try.prog 61 #[.slice a len cap, .string s] w fun e w' => e = .returned (.int .i64 (placeF ts s 0)) ∧ w' = w := by
  have HT := Lib.hid h.len
  have H := Lib.hid h
  clear h
  go_enter Try.func61, Try.ntmps61
  go_wp2_with fail
  go_loopw [5] (fun i wr => ∃ k : Nat, k ≤ len ∧ i = .int .i64 k ∧ Hid (∀ i, i < k → ∀ t, ts[i]? = some t → t.1 ≠ s) ∧ wr = w) (fun i _ => len - (intOf i).toNat)
  case atStart => exact ⟨0, Nat.zero_le _, rfl, Lib.hid (fun i hi => by omega), rfl⟩
  case round =>
    obtain ⟨k, hk, rfl, hn, rfl⟩ := hrel
    have hk6 : (0 : Int) ≤ (k : Int) := by omega
    by_cases hlt : k < len
    · have hk7 : (k : Int) < (len : Int) := by omega
      obtain ⟨b, off, rfl, hb, hll, hm, hts, hc⟩ := H.out.cells (by omega)
      have ht : ts[k]? = some ts[k] := List.getElem?_eq_getElem (by omega)
      have HD : Hid (ts.drop k = ts[k] :: ts.drop (k + 1)) := Lib.hid (List.drop_eq_getElem_cons (by omega))
      obtain ⟨c0, c1, m0, m1⟩ := hc k _ ht
      generalize ts[k] = t at ht c0 HD
      obtain ⟨n, d⟩ := t
      simp only at c0
      have hkl : k ≤ ts.length := by omega
      by_cases e : n = s
      · subst e
        have HR : Hid (placeF ts n 0 = (k : Int)) := Lib.hid (by rw [placeF_skip ts n k hn.out hkl, HD.out]; unfold placeF; rw [if_pos rfl])
        clear hts hc c1 m0 m1 ht HD hkl
        go_wp2_with fail
        go_ret
        exact ⟨by rw [HR.out]; rfl, rfl⟩
      · have hne : (n.toList == s.toList) = false := by
          rw [beq_eq_false_iff_ne, ByteArray.toList_eq, ByteArray.toList_eq]
          exact fun q => e (nmP_inj q)
        have HN : Hid (∀ i, i < k + 1 → ∀ t, ts[i]? = some t → t.1 ≠ s) := Lib.hid (fun i hi t htt => by
          rcases Nat.lt_or_ge i k with g | g
          · exact hn.out i g t htt
          · obtain rfl : i = k := by omega
            rw [ht] at htt
            cases htt
            exact e)
        clear hts hc c1 m0 m1 ht HD hkl e
        go_wp2_with fail
        go_roundw
        case rel => exact ⟨k + 1, by omega, by go_num, HN, trivial⟩
        case measure => simp [intOf]; omega
    · obtain rfl : k = len := by omega
      have HR : Hid (placeF ts s 0 = -1) := Lib.hid (by rw [placeF_skip ts s k hn.out (by rw [HT.out]; exact Nat.le_refl _), List.drop_of_length_le (by rw [HT.out]; exact Nat.le_refl _)]; rfl)
      go_wp2_with fail
      go_ret
      exact ⟨by rw [HR.out]; rfl, rfl⟩
end Go.Proofs.Ytamnlifdfhmbnaa
/- What an op does to files: the specification. -/
namespace Go.Proofs.Ytamnlifdfhmbnaa
open Go.RowKit Go.WideShapes
theorem ownFi_empty {g : Nat} {w : World} (h : Cells g #[] 74 w) : OwnPFi g w (.slice (some ⟨g, 0, none⟩) 0 0) [] := by
  refine ⟨rfl, .inr ⟨g, 0, #[], rfl, Nat.le_refl _, h, Nat.le_refl _, by decide, rfl, rfl⟩⟩
/-- 'append([]File{}, x...)': a copy of x. -/
theorem upon_copyFi {o : Oper} {a : Act} {w : World} {Q : Exit → Act → World → Prop} {K : Act → World → Prop} (s x : Operand)
    (ho : o.op = .call { callee := .builtin .append, args := #[s, x], argTypes := #[24, 24] }) (g : Nat) (hs : a.eval s = .slice (some ⟨g, 0, none⟩) 0 0) (hA : Cells g #[] 74 w)
    (ad : Option Addr) (n c : Nat) (ts : List Pre2) (hx : a.eval x = .slice ad n c) (h : IsPres w ad n c ts) (hl : n ≤ 1048576)
    (k : ∀ (v' : Value) (w' : World) (j : Nat), j = g ∨ j = w.heap.size → v'.ownBlock = some j → OwnPFi j w' v' ts → Turn g (g + 1) w w' → K (a.put o.dst v') w') : Oper.wp Try.prog o a w K Q := by
  obtain ⟨i0, hi, hz0, hz1, hz2⟩ := info_parts infoPairFi
  have O0 := ownFi_empty hA
  have hg : g < w.heap.size := (World.ownsRow.lt O0 g rfl).2
  rcases h with ⟨rfl, rfl, rfl, rfl⟩ | ⟨y, rfl, h1, h2, h3, h4⟩
  · have hrun := run_append_owned_none (P := Try.prog) (w := w) g 24 o.type 74 i0 2 Try.underlying24 hi _ 0 _ O0
    unfold Oper.wp
    simp [execOp, ho, resolve, invoke, builtin, hs, hx, hrun, Result.andThen]
    exact k _ _ g (.inl rfl) rfl O0 ⟨rfl, rfl, rfl, Nat.le_refl _, fun _ _ _ => rfl⟩
  · have F : ∀ (j : Nat) (u : Value), (flatPFi ts)[j]? = some u → w.cell? (y.add j) = some u := by
      intro j u hu
      have hj : j < ts.length * 2 := by rw [← flatP_lenFi]; exact (List.getElem?_eq_some_iff.1 hu).1
      have hk : j / 2 < ts.length := by omega
      obtain ⟨f0, f1⟩ := flatP_atFi ts (j / 2) _ (List.getElem?_eq_getElem hk)
      obtain ⟨c0, c1, _⟩ := h4 (j / 2) _ (List.getElem?_eq_getElem hk)
      obtain e | e : j = 2 * (j / 2) ∨ j = 2 * (j / 2) + 1 := by omega
      · rw [e] at hu ⊢; rw [Nat.mul_comm] at hu; rw [c0, ← hu, f0]
      · rw [e] at hu ⊢; rw [Nat.mul_comm] at hu; rw [c1, ← hu, f1]
    have F1 : ∀ y ∈ flatPFi ts, y.oneCell' = true := by
      intro y hy
      unfold flatPFi at hy
      obtain ⟨t, _, ht⟩ := List.mem_flatMap.1 hy
      simp at ht
      rcases ht with rfl | rfl <;> rfl
    obtain ⟨v', w', hr, ho1, hg1, _, hat⟩ := run_append_own_at (P := Try.prog) (w := w) g 24 o.type 74 i0 (.agg #[.string ⟨#[]⟩, .string ⟨#[]⟩]) 2 32 Try.underlying24 hi hz0 hz1 hz2 rfl (by decide) _ 0 _ O0 y n c (flatPFi ts) (by rw [flatP_lenFi, h3]) F F1 (by unfold maxLen; omega) (by omega) (by omega)
    have O1 : OwnPFi g w' v' ts := by unfold OwnPFi; rw [h3]; simpa [show flatPFi ([] : List Pre2) = [] from rfl] using ho1
    have hat2 : ∀ j, v'.ownBlock = some j → OwnPFi j w' v' ts := fun j hj => by
      obtain ⟨q1, q2⟩ := O1
      refine ⟨q1, ?_⟩
      rcases q2 with ⟨rfl, e⟩ | ⟨g', cap, cur, rfl, hB, r⟩
      · simp [Value.ownBlock] at hj
      · obtain rfl : g' = j := by simpa [Value.ownBlock] using hj
        exact .inr ⟨g', cap, cur, rfl, Nat.le_refl _, r⟩
    unfold Oper.wp
    simp [execOp, ho, resolve, invoke, builtin, hs, hx, hr, Result.andThen]
    have T : Turn g (g + 1) w w' := .of_grown hg1 (fun j hj => by simp [Value.ownBlock] at hj; omega)
    rcases hat with e | e
    · exact k _ _ g (.inl rfl) e (hat2 g e) T
    · exact k _ _ w.heap.size (.inr rfl) e (hat2 _ e) T
theorem wpList_copyFi {ops : Array Oper} {rest : List Oper} {o : Oper} {a : Act} {w : World} {Q : Exit → Act → World → Prop} (hgd : o.guard = none) (s x : Operand)
    (ho : o.op = .call { callee := .builtin .append, args := #[s, x], argTypes := #[24, 24] }) (g : Nat) (hs : a.eval s = .slice (some ⟨g, 0, none⟩) 0 0) (hA : Cells g #[] 74 w)
    (ad : Option Addr) (n c : Nat) (ts : List Pre2) (hx : a.eval x = .slice ad n c) (h : IsPres w ad n c ts) (hl : n ≤ 1048576)
    (k : ∀ (v' : Value) (w' : World) (j : Nat), j = g ∨ j = w.heap.size → v'.ownBlock = some j → OwnPFi j w' v' ts → Turn g (g + 1) w w' → wpList Try.prog ops Q rest (a.put o.dst v') w') : wpList Try.prog ops Q (o :: rest) a w :=
  wpList_plain hgd fun _ hK => upon_copyFi s x ho g hs hA ad n c ts hx h hl fun v' w' j h1 h2 h3 h4 => hK _ _ (k v' w' j h1 h2 h3 h4)
theorem putFo_cons {x : Pre2} {done : Bool} {ts : List Pre2} {k : Nat} {r : Pre2} (h : ts[k]? = some r) : putFo x done (ts.drop k) = (if !done && !lessP r x then [x] else []) ++ ((if r.1 = x.1 then [] else [r]) ++ putFo x (done || !lessP r x) (ts.drop (k + 1))) := by
  have hk := (List.getElem?_eq_some_iff.1 h).1
  have e : ts.drop k = r :: ts.drop (k + 1) := by rw [List.drop_eq_getElem_cons hk, (List.getElem?_eq_some_iff.1 h).2]
  rw [e]; rfl
set_option maxRecDepth 100000 in
set_option maxHeartbeats 3200000 in
theorem specPut (a : Option Addr) (len cap : Nat) (ts : List Pre2) (s d : ByteArray) (w : World) (h : IsPres w a len cap ts) (hl : len ≤ 1000000) (hr : RisP ts) :
    Calls Try.prog 82 #[.slice a len cap, .string s, .string d] w fun e w' => ∃ v, e = .returned v ∧ OwnPFi w.heap.size w' v (putF ts (s, d)) ∧ Below w.heap.size w w' := by
  have HT := Lib.hid h.len
  have H := Lib.hid h
  have HR := Lib.hid hr
  have E0 := cells_new w #[] 74
  have O0 : Hid (OwnPFi w.heap.size (w.alloc (.cells #[] 74)) (.slice (some ⟨w.heap.size, 0, none⟩) 0 0) []) := Lib.hid (ownFi_empty E0.now)
  have B0 : Below w.heap.size w (w.alloc (.cells #[] 74)) := (Below.refl _ _).alloc (Nat.le_refl _) _
  clear h hr E0
  go_enter Try.func82, Try.ntmps82
  go_wp2_with fail
  go_loopw [7, 8, 9] (fun v' dn i wr => ∃ (k : Nat) (v : Value) (D : Bool) (L : List Pre2), k ≤ len ∧ i = .int .i64 k ∧ v = v' ∧ dn = .bool D ∧ Hid (OwnPFi w.heap.size wr v L) ∧ Hid (putF ts (s, d) = L ++ putFo (s, d) D (ts.drop k)) ∧ (L.length ≤ k + 1 ∧ (D = false → L.length ≤ k)) ∧ Below w.heap.size w wr) (fun _ _ i _ => len - (intOf i).toNat)
  case atStart => exact ⟨0, _, false, [], Nat.zero_le _, rfl, rfl, rfl, O0, Lib.hid rfl, ⟨by simp, fun _ => by simp⟩, B0⟩
  case round =>
    clear O0 B0
    obtain ⟨k, v, D, L, hk, rfl, rfl, rfl, HO, HE, ⟨hLk, hLf⟩, hnx⟩ := hrel
    have hk6 : (0 : Int) ≤ (k : Int) := by omega
    by_cases hlt : k < len
    · have hk7 : (k : Int) < (len : Int) := by omega
      obtain ⟨b, off, rfl, hb, hll, hm, hts, hc⟩ := H.out.cells (by omega)
      have ht : ts[k]? = some ts[k] := List.getElem?_eq_getElem (by omega)
      obtain ⟨z0, z1, m0, m1⟩ := hc k _ ht
      have HP := Lib.hid (putFo_cons (x := (s, d)) (done := D) ht)
      generalize ts[k] = t at ht z0 z1 HP
      obtain ⟨rs, rd⟩ := t
      simp only at z0 z1
      have Z := Lib.hid (And.intro z0 z1)
      have CC : Hid (∀ W, Below w.heap.size w W → W.cell? ⟨b, off + k * 2, none⟩ = some (.string rs) ∧ W.cell? ⟨b, off + k * 2 + 1, none⟩ = some (.string rd)) := Lib.hid (fun W hW => ⟨(hW.cell (p := ⟨b, _, none⟩) hb).trans Z.out.1, (hW.cell (p := ⟨b, _, none⟩) hb).trans Z.out.2⟩)
      obtain ⟨c0, c1⟩ := CC.out wr hnx
      have hL1 : L.length ≤ 1048576 := by omega
      clear hts hc m0 m1 ht z0 z1
      cases D
      · cases hls : lessP (rs, rd) (s, d)
        · have hgl : Op.bytesLess rs.toList s.toList = false := hls
          have HLS := Lib.hid hls
          clear hls
          by_cases es : rs = s
          · subst es
            have hnb : (rs.toList == rs.toList) = true := by simp
            have HEN : Hid (putF ts (rs, d) = (L ++ [(rs, d)]) ++ putFo (rs, d) true (ts.drop (k + 1))) := Lib.hid (by rw [HE.out, HP.out, HLS.out, if_pos (by rfl), if_pos rfl]; simp)
            have HB1 : w.heap.size ≤ (wr.alloc (.cells #[.string rs, .string d] 74)).heap.size := by have := hnx.size; rw [World.size_alloc]; omega
            go_wp2_with (first
              | (at_builtin; refine wpList_moreFi (B := w.heap.size) (t := (rs, d)) rfl _ _ rfl rfl (HO.out.keep ((Below.refl _ _).alloc (Nat.le_refl _) (.cells #[.string rs, .string d] 74))) HB1 wr.heap.size rfl (And.intro ((cells_new wr #[.string rs, .string d] 74).now.at 0) ((cells_new wr #[.string rs, .string d] 74).now.at 1)) hL1 ?_; intro v1 w1 o1 g1 hat1; have N1 := (HO.out.keep ((Below.refl _ _).alloc (Nat.le_refl _) (.cells #[.string rs, .string d] 74))).moved (hnx.alloc hnx.size (.cells #[.string rs, .string d] 74)) g1; have O1 := Lib.hid o1; obtain ⟨c0, c1⟩ := CC.out w1 N1; clear o1 g1 hat1))
            go_roundw
            case rel => exact ⟨k + 1, v1, true, L ++ [(rs, d)], by omega, by go_num, rfl, rfl, O1, HEN, ⟨by simp only [List.length_append, List.length_singleton]; omega, fun e => by cases e⟩, N1⟩
            case measure => simp [intOf]; omega
          · have hnb : (rs.toList == s.toList) = false := by
              rw [beq_eq_false_iff_ne, ByteArray.toList_eq, ByteArray.toList_eq]; exact fun q => es (nmP_inj q)
            have HEN : Hid (putF ts (s, d) = ((L ++ [(s, d)]) ++ [(rs, rd)]) ++ putFo (s, d) true (ts.drop (k + 1))) := Lib.hid (by rw [HE.out, HP.out, HLS.out, if_pos (by rfl), if_neg es]; simp)
            have hL2 : (L ++ [(s, d)]).length ≤ 1048576 := by simp only [List.length_append, List.length_singleton]; omega
            have HB1 : w.heap.size ≤ (wr.alloc (.cells #[.string s, .string d] 74)).heap.size := by have := hnx.size; rw [World.size_alloc]; omega
            go_wp2_with (first
              | (have _ := O1; at_builtin; refine wpList_moreFi (B := w.heap.size) (t := (rs, rd)) rfl _ _ rfl rfl (O1.out.keep ((Below.refl _ _).alloc (Nat.le_refl _) (.cells #[.string rs, .string rd] 74))) (Nat.le_trans N1.size (by rw [World.size_alloc]; omega)) w1.heap.size rfl (And.intro ((cells_new w1 #[.string rs, .string rd] 74).now.at 0) ((cells_new w1 #[.string rs, .string rd] 74).now.at 1)) hL2 ?_; intro v2 w2 o2 g2 hat2; have N2 := (O1.out.keep ((Below.refl _ _).alloc (Nat.le_refl _) (.cells #[.string rs, .string rd] 74))).moved (N1.alloc N1.size (.cells #[.string rs, .string rd] 74)) g2; have O2 := Lib.hid o2; obtain ⟨c0, c1⟩ := CC.out w2 N2; clear o2 g2 hat2)
              | (at_builtin; refine wpList_moreFi (B := w.heap.size) (t := (s, d)) rfl _ _ rfl rfl (HO.out.keep ((Below.refl _ _).alloc (Nat.le_refl _) (.cells #[.string s, .string d] 74))) HB1 wr.heap.size rfl (And.intro ((cells_new wr #[.string s, .string d] 74).now.at 0) ((cells_new wr #[.string s, .string d] 74).now.at 1)) hL1 ?_; intro v1 w1 o1 g1 hat1; have N1 := (HO.out.keep ((Below.refl _ _).alloc (Nat.le_refl _) (.cells #[.string s, .string d] 74))).moved (hnx.alloc hnx.size (.cells #[.string s, .string d] 74)) g1; have O1 := Lib.hid o1; obtain ⟨c0, c1⟩ := CC.out w1 N1; clear o1 g1 hat1))
            go_roundw
            case rel => exact ⟨k + 1, v2, true, (L ++ [(s, d)]) ++ [(rs, rd)], by omega, by go_num, rfl, rfl, O2, HEN, ⟨by simp only [List.length_append, List.length_singleton]; have := hLf rfl; omega, fun e => by cases e⟩, N2⟩
            case measure => simp [intOf]; omega
        · have hgl : Op.bytesLess rs.toList s.toList = true := hls
          have es : ¬ rs = s := fun e => by
            rw [ByteArray.toList_eq, ByteArray.toList_eq, e] at hgl
            rw [show Op.bytesLess s.data.toList s.data.toList = false from lessS_irrefl _] at hgl
            cases hgl
          have hnb : (rs.toList == s.toList) = false := by
            rw [beq_eq_false_iff_ne, ByteArray.toList_eq, ByteArray.toList_eq]; exact fun q => es (nmP_inj q)
          have HEN : Hid (putF ts (s, d) = (L ++ [(rs, rd)]) ++ putFo (s, d) false (ts.drop (k + 1))) := Lib.hid (by rw [HE.out, HP.out, hls, if_neg (by decide), if_neg es]; simp)
          clear hls es
          have HB1 : w.heap.size ≤ (wr.alloc (.cells #[.string rs, .string rd] 74)).heap.size := by have := hnx.size; rw [World.size_alloc]; omega
          go_wp2_with (first
            | (at_builtin; refine wpList_moreFi (B := w.heap.size) (t := (rs, rd)) rfl _ _ rfl rfl (HO.out.keep ((Below.refl _ _).alloc (Nat.le_refl _) (.cells #[.string rs, .string rd] 74))) HB1 wr.heap.size rfl (And.intro ((cells_new wr #[.string rs, .string rd] 74).now.at 0) ((cells_new wr #[.string rs, .string rd] 74).now.at 1)) hL1 ?_; intro v1 w1 o1 g1 hat1; have N1 := (HO.out.keep ((Below.refl _ _).alloc (Nat.le_refl _) (.cells #[.string rs, .string rd] 74))).moved (hnx.alloc hnx.size (.cells #[.string rs, .string rd] 74)) g1; have O1 := Lib.hid o1; obtain ⟨c0, c1⟩ := CC.out w1 N1; clear o1 g1 hat1))
          go_roundw
          case rel => exact ⟨k + 1, v1, false, L ++ [(rs, rd)], by omega, by go_num, rfl, rfl, O1, HEN, ⟨by simp only [List.length_append, List.length_singleton]; omega, fun e => by have := hLf rfl; simp only [List.length_append, List.length_singleton]; omega⟩, N1⟩
          case measure => simp [intOf]; omega
      · by_cases es : rs = s
        · subst es
          have hnb : (rs.toList == rs.toList) = true := by simp
          have HEN : Hid (putF ts (rs, d) = L ++ putFo (rs, d) true (ts.drop (k + 1))) := Lib.hid (by rw [HE.out, HP.out, if_neg (by simp), if_pos rfl]; simp)
          go_wp2_with fail
          go_roundw
          case rel => exact ⟨k + 1, v, true, L, by omega, by go_num, rfl, rfl, HO, HEN, ⟨by omega, fun e => by cases e⟩, hnx⟩
          case measure => simp [intOf]; omega
        · have hnb : (rs.toList == s.toList) = false := by
            rw [beq_eq_false_iff_ne, ByteArray.toList_eq, ByteArray.toList_eq]; exact fun q => es (nmP_inj q)
          have HEN : Hid (putF ts (s, d) = (L ++ [(rs, rd)]) ++ putFo (s, d) true (ts.drop (k + 1))) := Lib.hid (by rw [HE.out, HP.out, if_neg (by simp), if_neg es]; simp)
          have HB1 : w.heap.size ≤ (wr.alloc (.cells #[.string rs, .string rd] 74)).heap.size := by have := hnx.size; rw [World.size_alloc]; omega
          go_wp2_with (first
            | (at_builtin; refine wpList_moreFi (B := w.heap.size) (t := (rs, rd)) rfl _ _ rfl rfl (HO.out.keep ((Below.refl _ _).alloc (Nat.le_refl _) (.cells #[.string rs, .string rd] 74))) HB1 wr.heap.size rfl (And.intro ((cells_new wr #[.string rs, .string rd] 74).now.at 0) ((cells_new wr #[.string rs, .string rd] 74).now.at 1)) hL1 ?_; intro v1 w1 o1 g1 hat1; have N1 := (HO.out.keep ((Below.refl _ _).alloc (Nat.le_refl _) (.cells #[.string rs, .string rd] 74))).moved (hnx.alloc hnx.size (.cells #[.string rs, .string rd] 74)) g1; have O1 := Lib.hid o1; obtain ⟨c0, c1⟩ := CC.out w1 N1; clear o1 g1 hat1))
          go_roundw
          case rel => exact ⟨k + 1, v1, true, L ++ [(rs, rd)], by omega, by go_num, rfl, rfl, O1, HEN, ⟨by simp only [List.length_append, List.length_singleton]; omega, fun e => by cases e⟩, N1⟩
          case measure => simp [intOf]; omega
    · obtain rfl : k = len := by omega
      have hdr : ts.drop k = [] := List.drop_of_length_le (by rw [HT.out]; exact Nat.le_refl _)
      cases D
      · have HF : Hid (putF ts (s, d) = L ++ [(s, d)]) := Lib.hid (by rw [HE.out, hdr]; rfl)
        have hL1 : L.length ≤ 1048576 := by omega
        have HB1 : w.heap.size ≤ (wr.alloc (.cells #[.string s, .string d] 74)).heap.size := by have := hnx.size; rw [World.size_alloc]; omega
        clear hdr HE
        go_wp2_with (at_builtin; refine wpList_moreFi (B := w.heap.size) (t := (s, d)) rfl _ _ rfl rfl (HO.out.keep ((Below.refl _ _).alloc (Nat.le_refl _) (.cells #[.string s, .string d] 74))) HB1 wr.heap.size rfl (And.intro ((cells_new wr #[.string s, .string d] 74).now.at 0) ((cells_new wr #[.string s, .string d] 74).now.at 1)) hL1 ?_; intro v1 w1 o1 g1 hat1)
        have N1 := (HO.out.keep ((Below.refl _ _).alloc (Nat.le_refl _) (.cells #[.string s, .string d] 74))).moved (hnx.alloc hnx.size (.cells #[.string s, .string d] 74)) g1
        go_ret
        exact ⟨_, rfl, by rw [HF.out]; exact o1, N1⟩
      · have HF : Hid (putF ts (s, d) = L) := Lib.hid (by rw [HE.out, hdr]; simp [putFo])
        clear hdr HE
        go_wp2_with fail
        go_ret
        exact ⟨_, rfl, by rw [HF.out]; exact HO.out, hnx⟩
end Go.Proofs.Ytamnlifdfhmbnaa
