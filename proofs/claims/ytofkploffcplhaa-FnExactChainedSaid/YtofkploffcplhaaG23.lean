/- The specification's Inverse. -/
import Derived.Test.YtofkploffcplhaaG20
import Derived.Test.YtofkploffcplhaaG12
import Derived.Maps.AppendAt
import Derived.Deep.RegionHeld3
namespace Go.Proofs.Ytofkploffcplhaa
open Go.RowKit Go.WideShapes Go.Maps
theorem own_empty {g : Nat} {w : World} (h : Cells g #[] 55 w) : OwnT g w (.slice (some ⟨g, 0, none⟩) 0 0) [] := ⟨rfl, .inr ⟨g, 0, #[], rfl, Nat.le_refl _, h, Nat.le_refl _, by unfold maxLen; omega, rfl, rfl⟩⟩
theorem ownC_at {B j : Nat} {w : World} {v : Value} {ts : List Tri3} (h : OwnT B w v ts) (hv : v.ownBlock = some j) : Holds j (j + 1) w (OwnC j (j + 1) v ts) := by
  have hlt := (World.ownsRow.lt h j hv).2
  refine ⟨ownC_lives, hlt, ?_, fun i hi => by rw [hv] at hi; cases hi; exact Nat.lt_succ_self _⟩
  obtain ⟨h1, h2⟩ := h
  refine ⟨h1, ?_⟩
  rcases h2 with h2 | ⟨g, cap, cur, e, _, r⟩
  · exact .inl h2
  · subst e
    cases hv
    exact .inr ⟨g, cap, cur, rfl, Nat.le_refl _, r⟩
/-- 'append([]T{}, x...)' at a step of a region that draws its order. -/
theorem upon_copy {o : Oper} {a : Act} {w : World} {Q : Exit → Act → World → Prop} {K : Act → World → Prop} (s x : Operand)
    (ho : o.op = .call { callee := .builtin .append, args := #[s, x], argTypes := #[27, 27] }) (g : Nat) (hs : a.eval s = .slice (some ⟨g, 0, none⟩) 0 0) (hA : Cells g #[] 55 w)
    (ad : Option Addr) (n c : Nat) (ts : List Tri3) (hx : a.eval x = .slice ad n c) (h : IsTris w ad n c ts) (hl : n ≤ 1048576)
    (k : ∀ (v' : Value) (w' : World) (j : Nat), j = g ∨ j = w.heap.size → v'.ownBlock = some j → Holds j (j + 1) w' (OwnC j (j + 1) v' ts) → Turn g (g + 1) w w' → K (a.put o.dst v') w') : Oper.wp Try.prog o a w K Q := by
  obtain ⟨i0, hi, hz0, hz1, hz2⟩ := info_parts infoTri
  have O0 := own_empty hA
  have hg : g < w.heap.size := (World.ownsRow.lt O0 g rfl).2
  rcases h with ⟨rfl, rfl, rfl, rfl⟩ | ⟨y, rfl, h1, h2, h3, h4⟩
  · have hrun := run_append_owned_none (P := Try.prog) (w := w) g 27 o.type 55 i0 3 Try.underlying27 hi _ 0 _ O0
    unfold Oper.wp
    simp [execOp, ho, resolve, invoke, builtin, hs, hx, hrun, Result.andThen]
    exact k _ _ g (.inl rfl) rfl (ownC_at O0 rfl) ⟨rfl, rfl, rfl, Nat.le_refl _, fun _ _ _ => rfl⟩
  · have F : ∀ (j : Nat) (u : Value), (flat ts)[j]? = some u → w.cell? (y.add j) = some u := by
      intro j u hu
      have hj : j < ts.length * 3 := by rw [← flat_len]; exact (List.getElem?_eq_some_iff.1 hu).1
      have hk : j / 3 < ts.length := by omega
      obtain ⟨f0, f1, f2⟩ := flat_at ts (j / 3) _ (List.getElem?_eq_getElem hk)
      obtain ⟨c0, c1, c2, _⟩ := h4 (j / 3) _ (List.getElem?_eq_getElem hk)
      obtain e | e | e : j = 3 * (j / 3) ∨ j = 3 * (j / 3) + 1 ∨ j = 3 * (j / 3) + 2 := by omega
      · rw [e] at hu ⊢; rw [Nat.mul_comm] at hu; rw [c0, ← hu, f0]
      · rw [e] at hu ⊢; rw [Nat.mul_comm] at hu; rw [c1, ← hu, f1]
      · rw [e] at hu ⊢; rw [Nat.mul_comm] at hu; rw [c2, ← hu, f2]
    obtain ⟨v', w', hr, ho1, hg1, _, hat⟩ := run_append_own_at (P := Try.prog) (w := w) g 27 o.type 55 i0 (.agg #[.string ⟨#[]⟩, .string ⟨#[]⟩, .string ⟨#[]⟩]) 3 48 Try.underlying27 hi hz0 hz1 hz2 rfl (by decide) _ 0 _ O0 y n c (flat ts) (by rw [flat_len, h3]) F (flat_one _) (by unfold maxLen; omega) (by omega) (by omega)
    have O1 : OwnT g w' v' ts := by unfold OwnT; rw [h3]; simpa [show flat ([] : List Tri3) = [] from rfl] using ho1
    unfold Oper.wp
    simp [execOp, ho, resolve, invoke, builtin, hs, hx, hr, Result.andThen]
    have T : Turn g (g + 1) w w' := .of_grown hg1 (fun j hj => by simp [Value.ownBlock] at hj; omega)
    rcases hat with e | e
    · exact k _ _ g (.inl rfl) e (ownC_at O1 e) T
    · exact k _ _ w.heap.size (.inr rfl) e (ownC_at O1 e) T
set_option maxRecDepth 100000 in
set_option maxHeartbeats 6400000 in
theorem specInverse (a1 a2 : Option Addr) (n1 n2 c1 c2 : Nat) (t1 t2 : List Tri3) (w : World) (h : Is2 w a1 a2 n1 n2 c1 c2 t1 t2) (l1 : n1 ≤ 1048576) (l2 : n2 ≤ 1048576) :
    Calls Try.prog 26 #[.agg #[.slice a1 n1 c1, .slice a2 n2 c2]] w fun e w' => ∃ v1 v2, e = .returned (.agg #[v1, v2]) ∧ Holds w.heap.size w'.heap.size w' (Own2 w.heap.size w'.heap.size v1 v2 t2 t1) ∧ Below w.heap.size w w' := by
  obtain ⟨W1, hW1⟩ : ∃ W, w.alloc (.cells #[.slice a1 n1 c1, .slice a2 n2 c2] 29) = W := ⟨_, rfl⟩
  obtain ⟨W2, hW2⟩ : ∃ W, W1.alloc (.cells #[.slice none 0 0, .slice none 0 0] 29) = W := ⟨_, rfl⟩
  have z1 : W1.heap.size = w.heap.size + 1 := by rw [← hW1]; simp
  have z2 : W2.heap.size = w.heap.size + 2 := by rw [← hW2]; simp [z1]
  have B0 : Hid (Below w.heap.size w W2) := Lib.hid (by rw [← hW2, ← hW1]; exact ((Below.refl w.heap.size w).alloc (Nat.le_refl _) _).alloc (by simp) _)
  have X0 : Hid (Holds w.heap.size (w.heap.size + 1) W2 (Cells w.heap.size #[.slice a1 n1 c1, .slice a2 n2 c2] 29)) := Lib.hid (by rw [← hW2, ← hW1]; exact (cells_new w _ _).alloc _)
  have R0 : Hid (Holds (w.heap.size + 1) (w.heap.size + 2) W2 (Cells (w.heap.size + 1) #[.slice none 0 0, .slice none 0 0] 29)) := Lib.hid (by
    have := cells_new W1 #[.slice none 0 0, .slice none 0 0] 29
    rw [hW2, z1] at this; exact this)
  have H := Lib.hid h
  have HW := Lib.hid (And.intro hW1 hW2)
  have HZ := Lib.hid z2
  clear h hW1 hW2 z1 z2
  go_enter Try.func26, Try.ntmps26
  go_wp2_with fail
  rw [HW.out.1, HW.out.2]
  have B1 := Lib.hid B0.out.drew
  have X1 := Lib.hid X0.out.drew
  have R1 := Lib.hid R0.out.drew
  clear B0 X0 R0
  refine wp_region_held_drew (S := (fun w' => w'.cell? ⟨w.heap.size, 0, none⟩ = some (.slice a1 n1 c1) ∧ w'.cell? ⟨w.heap.size, 1, none⟩ = some (.slice a2 n2 c2))) (by kernel_rfl) ?_ (fun hHeld => ?_)
  · exact X1.out.now.two
  generalize hV0 : W2.drew = V0 at B1 X1 R1 hHeld ⊢
  clear hV0
  refine wpAnyH_take (i := 1) (v := ?_) rfl (by kernel_rfl) (by kernel_rfl) (by kernel_rfl) (fun _ _ _ h => h) (Or.inl ⟨by kernel_rfl, ?_⟩) (by assumption) ?_
  rotate_left
  · intro w hSw; (try dsimp only at hSw); go_simp; try with_reducible rfl
  refine wpAnyH_take (i := 2) (v := ?_) rfl (by kernel_rfl) (by kernel_rfl) (by kernel_rfl) (fun _ _ _ h => h) (Or.inl ⟨by kernel_rfl, ?_⟩) (by assumption) ?_
  rotate_left
  · intro w hSw; (try dsimp only at hSw); go_simp; try with_reducible rfl
  refine wpAnyH_take (i := 5) (v := ?_) rfl (by kernel_rfl) (by kernel_rfl) (by kernel_rfl) (fun _ _ _ h => h) (Or.inl ⟨by kernel_rfl, ?_⟩) (by assumption) ?_
  rotate_left
  · intro w hSw; (try dsimp only at hSw); go_simp; try with_reducible rfl
  refine wpAnyH_take (i := 6) (v := ?_) rfl (by kernel_rfl) (by kernel_rfl) (by kernel_rfl) (fun _ _ _ h => h) (Or.inl ⟨by kernel_rfl, ?_⟩) (by assumption) ?_
  rotate_left
  · intro w hSw; (try dsimp only at hSw); go_simp; try with_reducible rfl
  refine wpAnyH_ready (rs := [0, 4]) (by kernel_rfl) (by simp) ?_
  refine AllReadyH.cons rfl (fun KK hK => ?g1_0) (AllReadyH.cons rfl (fun KK hK => ?g1_4) AllReadyH.nil)
  case' g1_0 =>
    go_simp
    have tz := R1.out.le
    try simp only [World.size_alloc] at tz
    have hzEA := Lib.hid tz
    clear tz
    have B2 := Lib.hid (B1.out.alloc B1.out.size (.cells #[] 55))
    have X2 := Lib.hid (X1.out.alloc (.cells #[] 55))
    have R2 := Lib.hid (R1.out.alloc (.cells #[] 55))
    clear B1 X1 R1
    have tz := cells_new (V0) #[] 55
    try simp only [World.size_alloc] at tz
    have EA2 := Lib.hid (tz)
    clear tz
    refine hK.out _ _ ?_ (fun hHeld => ?_)
    · exact X2.out.now.two
    clear hK KK
    refine wpAnyH_ready (rs := [3, 4]) (by kernel_rfl) (by simp) ?_
    refine AllReadyH.cons rfl (fun KK hK => ?g2_3) (AllReadyH.cons rfl (fun KK hK => ?g2_4) AllReadyH.nil)
    case' g2_3 =>
      rw [if_pos (by rfl)]
      have tz := R2.out.le
      try simp only [World.size_alloc] at tz
      have hsVA := Lib.hid tz
      clear tz
      refine upon_copy _ _ (by rfl) _ (by rfl) EA2.out.now a2 n2 c2 t2 (by rfl) (H.out.2.next B2.out) l2 ?_
      intro vVA xVA jVA hj hv hh ht
      try simp only [World.size_alloc] at hj
      have hjVA := Lib.hid hj
      have hvVA := Lib.hid hv
      clear EA2
      have B3 := Lib.hid (B2.out.trans (ht.below B2.out.size (by have := hzEA.out; omega)))
      have X3 := Lib.hid (X2.out.step ht (by have := hzEA.out; left; omega))
      have R3 := Lib.hid (R2.out.step ht (by have := hzEA.out; left; omega))
      clear hj hv ht B2 X2 R2
      have VA3 := Lib.hid (hh)
      clear hh
      refine hK.out _ _ ?_ (fun hHeld => ?_)
      · exact X3.out.now.two
      clear hK KK
      refine wpAnyH_ready (rs := [4]) (by kernel_rfl) (by simp) ?_
      refine AllReadyH.cons rfl (fun KK hK => ?_) AllReadyH.nil
      go_simp
      have tz := R3.out.le
      try simp only [World.size_alloc] at tz
      have hzEB := Lib.hid tz
      clear tz
      have tz := VA3.out.le
      try simp only [World.size_alloc] at tz
      have leVA_EB := Lib.hid tz
      clear tz
      have B4 := Lib.hid (B3.out.alloc B3.out.size (.cells #[] 55))
      have X4 := Lib.hid (X3.out.alloc (.cells #[] 55))
      have R4 := Lib.hid (R3.out.alloc (.cells #[] 55))
      have VA4 := Lib.hid (VA3.out.alloc (.cells #[] 55))
      clear B3 X3 R3 VA3
      have tz := cells_new (xVA) #[] 55
      try simp only [World.size_alloc] at tz
      have EB4 := Lib.hid (tz)
      clear tz
      refine hK.out _ _ ?_ (fun hHeld => ?_)
      · exact X4.out.now.two
      clear hK KK
      refine wpAnyH_ready (rs := [7]) (by kernel_rfl) (by simp) ?_
      refine AllReadyH.cons rfl (fun KK hK => ?_) AllReadyH.nil
      rw [if_pos (by rfl)]
      have tz := R4.out.le
      try simp only [World.size_alloc] at tz
      have hsVB := Lib.hid tz
      clear tz
      refine upon_copy _ _ (by rfl) _ (by rfl) EB4.out.now a1 n1 c1 t1 (by rfl) (H.out.1.next B4.out) l1 ?_
      intro vVB xVB jVB hj hv hh ht
      have tz := VA4.out.le
      try simp only [World.size_alloc] at tz
      have lVA_VB := Lib.hid tz
      clear tz
      try simp only [World.size_alloc] at hj
      have hjVB := Lib.hid hj
      have hvVB := Lib.hid hv
      clear EB4
      have B5 := Lib.hid (B4.out.trans (ht.below B4.out.size (by have := hzEB.out; omega)))
      have X5 := Lib.hid (X4.out.step ht (by have := hzEB.out; left; omega))
      have R5 := Lib.hid (R4.out.step ht (by have := hzEB.out; left; omega))
      have VA5 := Lib.hid (VA4.out.step ht (by first | exact .inl leVA_EB.out | (have q1 := hjVA.out; have q2 := lEB_VA.out; first | (have q3 := leEA_EB.out; omega) | (have q3 := leEB_EA.out; omega))))
      clear hj hv ht B4 X4 R4 VA4
      have VB5 := Lib.hid (hh)
      clear hh
      refine hK.out _ _ ?_ (fun hHeld => ?_)
      · exact X5.out.now.two
      clear hK KK
      obtain ⟨p1, q1, r1, rfl⟩ := ownT_shape VA5.out.now.1
      obtain ⟨p2, q2, r2, rfl⟩ := ownT_shape VB5.out.now.1
      refine wpAnyH_take (i := 8) (v := ?_) rfl (by kernel_rfl) (by kernel_rfl) (by kernel_rfl) (fun _ _ _ h => h) (Or.inl ⟨by kernel_rfl, ?_⟩) (by assumption) ?_
      rotate_left
      · intro w hSw; (try dsimp only at hSw); go_simp; try with_reducible rfl
      refine wpAnyH_ready (rs := [9]) (by kernel_rfl) (by simp) ?_
      refine AllReadyH.cons rfl (fun KK hK => ?_) AllReadyH.nil
      obtain ⟨y0, y1⟩ := R5.out.now.two
      obtain ⟨f0, f1⟩ := R5.out.now.frees
      go_simp
      refine hK.out _ _ ?_ (fun hHeld => ?_)
      · exact two_off X5.out.now (by omega)
      clear hK KK
      refine wpAnyH_done (by kernel_rfl) ?_ _
      try simp only [Act.put, List.setIfInBounds_toArray, List.set_cons_zero, List.set_cons_succ, List.getElem_toArray, List.getElem_cons_zero, List.getElem_cons_succ]
      go_wp2_with fail
      refine bodyPost_ret (v := .agg #[.slice p1 q1 r1, .slice p2 q2 r2]) (by simp [results, Try.results26, go_sem, *]) rfl ⟨_, _, rfl, ?_, below_two B5.out _ (Nat.le_succ _) _ _⟩
      have ja : w.heap.size + 2 ≤ jVA ∧ w.heap.size + 2 ≤ jVB := by have := hjVA.out; have := hjVB.out; have := hsVA.out; have := hsVB.out; have := hzEA.out; have := hzEB.out; omega
      have jn : jVA ≠ jVB := by first | (have q := leVA_EB.out; have q1 := hjVB.out; have q2 := lVA_VB.out; omega) | (have q := hjVA.out; have q1 := hjVB.out; have q2 := lVA_VB.out; have q3 := lEB_VA.out; first | (have q4 := leEA_EB.out; omega) | (have q4 := leEB_EA.out; omega))
      refine ⟨own2_lives, Nat.le_refl _, ⟨own_base (ownT_off2 VA5.out.now.1 (by omega)) (by omega), fun j hj => by rw [set2_size]; exact (World.ownsRow.lt VA5.out.now.1 j hj).2⟩, ⟨own_base (ownT_off2 VB5.out.now.1 (by omega)) (by omega), fun j hj => by rw [set2_size]; exact (World.ownsRow.lt VB5.out.now.1 j hj).2⟩, fun j h1 h2 => ?_⟩
      have := hvVA.out; rw [h1] at this; have h3 := hvVB.out; rw [h2] at h3; simp only [Option.some.injEq] at this h3; omega
    case' g2_4 =>
      go_simp
      have tz := R2.out.le
      try simp only [World.size_alloc] at tz
      have hzEB := Lib.hid tz
      clear tz
      have tz := EA2.out.le
      try simp only [World.size_alloc] at tz
      have leEA_EB := Lib.hid tz
      clear tz
      have B3 := Lib.hid (B2.out.alloc B2.out.size (.cells #[] 55))
      have X3 := Lib.hid (X2.out.alloc (.cells #[] 55))
      have R3 := Lib.hid (R2.out.alloc (.cells #[] 55))
      have EA3 := Lib.hid (EA2.out.alloc (.cells #[] 55))
      clear B2 X2 R2 EA2
      have tz := cells_new ((V0.alloc (.cells #[] 55))) #[] 55
      try simp only [World.size_alloc] at tz
      have EB3 := Lib.hid (tz)
      clear tz
      refine hK.out _ _ ?_ (fun hHeld => ?_)
      · exact X3.out.now.two
      clear hK KK
      refine wpAnyH_ready (rs := [3]) (by kernel_rfl) (by simp) ?_
      refine AllReadyH.cons rfl (fun KK hK => ?_) AllReadyH.nil
      rw [if_pos (by rfl)]
      have tz := R3.out.le
      try simp only [World.size_alloc] at tz
      have hsVA := Lib.hid tz
      clear tz
      refine upon_copy _ _ (by rfl) _ (by rfl) EA3.out.now a2 n2 c2 t2 (by rfl) (H.out.2.next B3.out) l2 ?_
      intro vVA xVA jVA hj hv hh ht
      have tz := EB3.out.le
      try simp only [World.size_alloc] at tz
      have lEB_VA := Lib.hid tz
      clear tz
      try simp only [World.size_alloc] at hj
      have hjVA := Lib.hid hj
      have hvVA := Lib.hid hv
      clear EA3
      have B4 := Lib.hid (B3.out.trans (ht.below B3.out.size (by have := hzEA.out; omega)))
      have X4 := Lib.hid (X3.out.step ht (by have := hzEA.out; left; omega))
      have R4 := Lib.hid (R3.out.step ht (by have := hzEA.out; left; omega))
      have EB4 := Lib.hid (EB3.out.step ht (by first | exact .inl leEB_EA.out | exact .inr leEA_EB.out))
      clear hj hv ht B3 X3 R3 EB3
      have VA4 := Lib.hid (hh)
      clear hh
      refine hK.out _ _ ?_ (fun hHeld => ?_)
      · exact X4.out.now.two
      clear hK KK
      refine wpAnyH_ready (rs := [7]) (by kernel_rfl) (by simp) ?_
      refine AllReadyH.cons rfl (fun KK hK => ?_) AllReadyH.nil
      rw [if_pos (by rfl)]
      have tz := R4.out.le
      try simp only [World.size_alloc] at tz
      have hsVB := Lib.hid tz
      clear tz
      refine upon_copy _ _ (by rfl) _ (by rfl) EB4.out.now a1 n1 c1 t1 (by rfl) (H.out.1.next B4.out) l1 ?_
      intro vVB xVB jVB hj hv hh ht
      have tz := VA4.out.le
      try simp only [World.size_alloc] at tz
      have lVA_VB := Lib.hid tz
      clear tz
      try simp only [World.size_alloc] at hj
      have hjVB := Lib.hid hj
      have hvVB := Lib.hid hv
      clear EB4
      have B5 := Lib.hid (B4.out.trans (ht.below B4.out.size (by have := hzEB.out; omega)))
      have X5 := Lib.hid (X4.out.step ht (by have := hzEB.out; left; omega))
      have R5 := Lib.hid (R4.out.step ht (by have := hzEB.out; left; omega))
      have VA5 := Lib.hid (VA4.out.step ht (by first | exact .inl leVA_EB.out | (have q1 := hjVA.out; have q2 := lEB_VA.out; first | (have q3 := leEA_EB.out; omega) | (have q3 := leEB_EA.out; omega))))
      clear hj hv ht B4 X4 R4 VA4
      have VB5 := Lib.hid (hh)
      clear hh
      refine hK.out _ _ ?_ (fun hHeld => ?_)
      · exact X5.out.now.two
      clear hK KK
      obtain ⟨p1, q1, r1, rfl⟩ := ownT_shape VA5.out.now.1
      obtain ⟨p2, q2, r2, rfl⟩ := ownT_shape VB5.out.now.1
      refine wpAnyH_take (i := 8) (v := ?_) rfl (by kernel_rfl) (by kernel_rfl) (by kernel_rfl) (fun _ _ _ h => h) (Or.inl ⟨by kernel_rfl, ?_⟩) (by assumption) ?_
      rotate_left
      · intro w hSw; (try dsimp only at hSw); go_simp; try with_reducible rfl
      refine wpAnyH_ready (rs := [9]) (by kernel_rfl) (by simp) ?_
      refine AllReadyH.cons rfl (fun KK hK => ?_) AllReadyH.nil
      obtain ⟨y0, y1⟩ := R5.out.now.two
      obtain ⟨f0, f1⟩ := R5.out.now.frees
      go_simp
      refine hK.out _ _ ?_ (fun hHeld => ?_)
      · exact two_off X5.out.now (by omega)
      clear hK KK
      refine wpAnyH_done (by kernel_rfl) ?_ _
      try simp only [Act.put, List.setIfInBounds_toArray, List.set_cons_zero, List.set_cons_succ, List.getElem_toArray, List.getElem_cons_zero, List.getElem_cons_succ]
      go_wp2_with fail
      refine bodyPost_ret (v := .agg #[.slice p1 q1 r1, .slice p2 q2 r2]) (by simp [results, Try.results26, go_sem, *]) rfl ⟨_, _, rfl, ?_, below_two B5.out _ (Nat.le_succ _) _ _⟩
      have ja : w.heap.size + 2 ≤ jVA ∧ w.heap.size + 2 ≤ jVB := by have := hjVA.out; have := hjVB.out; have := hsVA.out; have := hsVB.out; have := hzEA.out; have := hzEB.out; omega
      have jn : jVA ≠ jVB := by first | (have q := leVA_EB.out; have q1 := hjVB.out; have q2 := lVA_VB.out; omega) | (have q := hjVA.out; have q1 := hjVB.out; have q2 := lVA_VB.out; have q3 := lEB_VA.out; first | (have q4 := leEA_EB.out; omega) | (have q4 := leEB_EA.out; omega))
      refine ⟨own2_lives, Nat.le_refl _, ⟨own_base (ownT_off2 VA5.out.now.1 (by omega)) (by omega), fun j hj => by rw [set2_size]; exact (World.ownsRow.lt VA5.out.now.1 j hj).2⟩, ⟨own_base (ownT_off2 VB5.out.now.1 (by omega)) (by omega), fun j hj => by rw [set2_size]; exact (World.ownsRow.lt VB5.out.now.1 j hj).2⟩, fun j h1 h2 => ?_⟩
      have := hvVA.out; rw [h1] at this; have h3 := hvVB.out; rw [h2] at h3; simp only [Option.some.injEq] at this h3; omega
  case' g1_4 =>
    go_simp
    have tz := R1.out.le
    try simp only [World.size_alloc] at tz
    have hzEB := Lib.hid tz
    clear tz
    have B2 := Lib.hid (B1.out.alloc B1.out.size (.cells #[] 55))
    have X2 := Lib.hid (X1.out.alloc (.cells #[] 55))
    have R2 := Lib.hid (R1.out.alloc (.cells #[] 55))
    clear B1 X1 R1
    have tz := cells_new (V0) #[] 55
    try simp only [World.size_alloc] at tz
    have EB2 := Lib.hid (tz)
    clear tz
    refine hK.out _ _ ?_ (fun hHeld => ?_)
    · exact X2.out.now.two
    clear hK KK
    refine wpAnyH_ready (rs := [0]) (by kernel_rfl) (by simp) ?_
    refine AllReadyH.cons rfl (fun KK hK => ?_) AllReadyH.nil
    go_simp
    have tz := R2.out.le
    try simp only [World.size_alloc] at tz
    have hzEA := Lib.hid tz
    clear tz
    have tz := EB2.out.le
    try simp only [World.size_alloc] at tz
    have leEB_EA := Lib.hid tz
    clear tz
    have B3 := Lib.hid (B2.out.alloc B2.out.size (.cells #[] 55))
    have X3 := Lib.hid (X2.out.alloc (.cells #[] 55))
    have R3 := Lib.hid (R2.out.alloc (.cells #[] 55))
    have EB3 := Lib.hid (EB2.out.alloc (.cells #[] 55))
    clear B2 X2 R2 EB2
    have tz := cells_new ((V0.alloc (.cells #[] 55))) #[] 55
    try simp only [World.size_alloc] at tz
    have EA3 := Lib.hid (tz)
    clear tz
    refine hK.out _ _ ?_ (fun hHeld => ?_)
    · exact X3.out.now.two
    clear hK KK
    refine wpAnyH_ready (rs := [3]) (by kernel_rfl) (by simp) ?_
    refine AllReadyH.cons rfl (fun KK hK => ?_) AllReadyH.nil
    rw [if_pos (by rfl)]
    have tz := R3.out.le
    try simp only [World.size_alloc] at tz
    have hsVA := Lib.hid tz
    clear tz
    refine upon_copy _ _ (by rfl) _ (by rfl) EA3.out.now a2 n2 c2 t2 (by rfl) (H.out.2.next B3.out) l2 ?_
    intro vVA xVA jVA hj hv hh ht
    have tz := EB3.out.le
    try simp only [World.size_alloc] at tz
    have lEB_VA := Lib.hid tz
    clear tz
    try simp only [World.size_alloc] at hj
    have hjVA := Lib.hid hj
    have hvVA := Lib.hid hv
    clear EA3
    have B4 := Lib.hid (B3.out.trans (ht.below B3.out.size (by have := hzEA.out; omega)))
    have X4 := Lib.hid (X3.out.step ht (by have := hzEA.out; left; omega))
    have R4 := Lib.hid (R3.out.step ht (by have := hzEA.out; left; omega))
    have EB4 := Lib.hid (EB3.out.step ht (by first | exact .inl leEB_EA.out | exact .inr leEA_EB.out))
    clear hj hv ht B3 X3 R3 EB3
    have VA4 := Lib.hid (hh)
    clear hh
    refine hK.out _ _ ?_ (fun hHeld => ?_)
    · exact X4.out.now.two
    clear hK KK
    refine wpAnyH_ready (rs := [7]) (by kernel_rfl) (by simp) ?_
    refine AllReadyH.cons rfl (fun KK hK => ?_) AllReadyH.nil
    rw [if_pos (by rfl)]
    have tz := R4.out.le
    try simp only [World.size_alloc] at tz
    have hsVB := Lib.hid tz
    clear tz
    refine upon_copy _ _ (by rfl) _ (by rfl) EB4.out.now a1 n1 c1 t1 (by rfl) (H.out.1.next B4.out) l1 ?_
    intro vVB xVB jVB hj hv hh ht
    have tz := VA4.out.le
    try simp only [World.size_alloc] at tz
    have lVA_VB := Lib.hid tz
    clear tz
    try simp only [World.size_alloc] at hj
    have hjVB := Lib.hid hj
    have hvVB := Lib.hid hv
    clear EB4
    have B5 := Lib.hid (B4.out.trans (ht.below B4.out.size (by have := hzEB.out; omega)))
    have X5 := Lib.hid (X4.out.step ht (by have := hzEB.out; left; omega))
    have R5 := Lib.hid (R4.out.step ht (by have := hzEB.out; left; omega))
    have VA5 := Lib.hid (VA4.out.step ht (by first | exact .inl leVA_EB.out | (have q1 := hjVA.out; have q2 := lEB_VA.out; first | (have q3 := leEA_EB.out; omega) | (have q3 := leEB_EA.out; omega))))
    clear hj hv ht B4 X4 R4 VA4
    have VB5 := Lib.hid (hh)
    clear hh
    refine hK.out _ _ ?_ (fun hHeld => ?_)
    · exact X5.out.now.two
    clear hK KK
    obtain ⟨p1, q1, r1, rfl⟩ := ownT_shape VA5.out.now.1
    obtain ⟨p2, q2, r2, rfl⟩ := ownT_shape VB5.out.now.1
    refine wpAnyH_take (i := 8) (v := ?_) rfl (by kernel_rfl) (by kernel_rfl) (by kernel_rfl) (fun _ _ _ h => h) (Or.inl ⟨by kernel_rfl, ?_⟩) (by assumption) ?_
    rotate_left
    · intro w hSw; (try dsimp only at hSw); go_simp; try with_reducible rfl
    refine wpAnyH_ready (rs := [9]) (by kernel_rfl) (by simp) ?_
    refine AllReadyH.cons rfl (fun KK hK => ?_) AllReadyH.nil
    obtain ⟨y0, y1⟩ := R5.out.now.two
    obtain ⟨f0, f1⟩ := R5.out.now.frees
    go_simp
    refine hK.out _ _ ?_ (fun hHeld => ?_)
    · exact two_off X5.out.now (by omega)
    clear hK KK
    refine wpAnyH_done (by kernel_rfl) ?_ _
    try simp only [Act.put, List.setIfInBounds_toArray, List.set_cons_zero, List.set_cons_succ, List.getElem_toArray, List.getElem_cons_zero, List.getElem_cons_succ]
    go_wp2_with fail
    refine bodyPost_ret (v := .agg #[.slice p1 q1 r1, .slice p2 q2 r2]) (by simp [results, Try.results26, go_sem, *]) rfl ⟨_, _, rfl, ?_, below_two B5.out _ (Nat.le_succ _) _ _⟩
    have ja : w.heap.size + 2 ≤ jVA ∧ w.heap.size + 2 ≤ jVB := by have := hjVA.out; have := hjVB.out; have := hsVA.out; have := hsVB.out; have := hzEA.out; have := hzEB.out; omega
    have jn : jVA ≠ jVB := by first | (have q := leVA_EB.out; have q1 := hjVB.out; have q2 := lVA_VB.out; omega) | (have q := hjVA.out; have q1 := hjVB.out; have q2 := lVA_VB.out; have q3 := lEB_VA.out; first | (have q4 := leEA_EB.out; omega) | (have q4 := leEB_EA.out; omega))
    refine ⟨own2_lives, Nat.le_refl _, ⟨own_base (ownT_off2 VA5.out.now.1 (by omega)) (by omega), fun j hj => by rw [set2_size]; exact (World.ownsRow.lt VA5.out.now.1 j hj).2⟩, ⟨own_base (ownT_off2 VB5.out.now.1 (by omega)) (by omega), fun j hj => by rw [set2_size]; exact (World.ownsRow.lt VB5.out.now.1 j hj).2⟩, fun j h1 h2 => ?_⟩
    have := hvVA.out; rw [h1] at this; have h3 := hvVB.out; rw [h2] at h3; simp only [Option.some.injEq] at this h3; omega
end Go.Proofs.Ytofkploffcplhaa
