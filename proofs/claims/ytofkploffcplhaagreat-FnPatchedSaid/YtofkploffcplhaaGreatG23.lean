/- The specification's Inverse. -/
import Derived.Test.YtofkploffcplhaaGreatG21
import Derived.Test.YtofkploffcplhaaGreatG12
import Derived.Maps.AppendAt
import Derived.Deep.RegionHeld3
import Derived.Test.YtofkploffcplhaaGreatG22
import Derived.Test.YtofkploffcplhaaGreatG20
namespace Go.Proofs.YtofkploffcplhaaGreat
open Go.RowKit Go.WideShapes Go.Maps
theorem own_empty {g : Nat} {w : World} (h : Cells g #[] 38 w) : OwnT g w (.slice (some ⟨g, 0, none⟩) 0 0) [] := ⟨rfl, .inr ⟨g, 0, #[], rfl, Nat.le_refl _, h, Nat.le_refl _, by unfold maxLen; omega, rfl, rfl⟩⟩
theorem ownC_at {B j : Nat} {w : World} {v : Value} {ts : List Tri3} (h : OwnT B w v ts) (hv : v.ownBlock = some j) : Holds j (j + 1) w (OwnC j (j + 1) v ts) := by
  have hlt := (World.ownsRow.lt h j hv).2
  refine ⟨ownC_lives, hlt, ?_, fun i hi => by rw [hv] at hi; cases hi; exact Nat.lt_succ_self _⟩
  obtain ⟨h1, h2⟩ := h
  refine ⟨h1, ?_⟩
  rcases h2 with h2 | ⟨g, cap, cur, e, _, r⟩
  · exact .inl h2
  · subst e
    cases hv
    exact .inr ⟨g, cap, cur, rfl, Nat.le_refl _, r⟩
/-- 'append([]T{}, x...)' at a step of a region that draws its order. -/
theorem upon_copy {o : Oper} {a : Act} {w : World} {Q : Exit → Act → World → Prop} {K : Act → World → Prop} (s x : Operand)
    (ho : o.op = .call { callee := .builtin .append, args := #[s, x], argTypes := #[24, 24] }) (g : Nat) (hs : a.eval s = .slice (some ⟨g, 0, none⟩) 0 0) (hA : Cells g #[] 38 w)
    (ad : Option Addr) (n c : Nat) (ts : List Tri3) (hx : a.eval x = .slice ad n c) (h : IsTris w ad n c ts) (hl : n ≤ 1048576)
    (k : ∀ (v' : Value) (w' : World) (j : Nat), j = g ∨ j = w.heap.size → v'.ownBlock = some j → Holds j (j + 1) w' (OwnC j (j + 1) v' ts) → Turn g (g + 1) w w' → K (a.put o.dst v') w') : Oper.wp Tryz.prog o a w K Q := by
  obtain ⟨i0, hi, hz0, hz1, hz2⟩ := info_parts infoTri
  have O0 := own_empty hA
  have hg : g < w.heap.size := (World.ownsRow.lt O0 g rfl).2
  rcases h with ⟨rfl, rfl, rfl, rfl⟩ | ⟨y, rfl, h1, h2, h3, h4⟩
  · have hrun := run_append_owned_none (P := Tryz.prog) (w := w) g 24 o.type 38 i0 3 Tryz.underlying24 hi _ 0 _ O0
    unfold Oper.wp
    simp [execOp, ho, resolve, invoke, builtin, hs, hx, hrun, Result.andThen]
    exact k _ _ g (.inl rfl) rfl (ownC_at O0 rfl) ⟨rfl, rfl, rfl, Nat.le_refl _, fun _ _ _ => rfl⟩
  · have F : ∀ (j : Nat) (u : Value), (flat ts)[j]? = some u → w.cell? (y.add j) = some u := by
      intro j u hu
      have hj : j < ts.length * 3 := by rw [← flat_len]; exact (List.getElem?_eq_some_iff.1 hu).1
      have hk : j / 3 < ts.length := by omega
      obtain ⟨f0, f1, f2⟩ := flat_at ts (j / 3) _ (List.getElem?_eq_getElem hk)
      obtain ⟨c0, c1, c2, _⟩ := h4 (j / 3) _ (List.getElem?_eq_getElem hk)
      obtain e | e | e : j = 3 * (j / 3) ∨ j = 3 * (j / 3) + 1 ∨ j = 3 * (j / 3) + 2 := by omega
      · rw [e] at hu ⊢; rw [Nat.mul_comm] at hu; rw [c0, ← hu, f0]
      · rw [e] at hu ⊢; rw [Nat.mul_comm] at hu; rw [c1, ← hu, f1]
      · rw [e] at hu ⊢; rw [Nat.mul_comm] at hu; rw [c2, ← hu, f2]
    obtain ⟨v', w', hr, ho1, hg1, _, hat⟩ := run_append_own_at (P := Tryz.prog) (w := w) g 24 o.type 38 i0 (.agg #[.string ⟨#[]⟩, .string ⟨#[]⟩, .string ⟨#[]⟩]) 3 48 Tryz.underlying24 hi hz0 hz1 hz2 rfl (by decide) _ 0 _ O0 y n c (flat ts) (by rw [flat_len, h3]) F (flat_one _) (by unfold maxLen; omega) (by omega) (by omega)
    have O1 : OwnT g w' v' ts := by unfold OwnT; rw [h3]; simpa [show flat ([] : List Tri3) = [] from rfl] using ho1
    unfold Oper.wp
    simp [execOp, ho, resolve, invoke, builtin, hs, hx, hr, Result.andThen]
    have T : Turn g (g + 1) w w' := .of_grown hg1 (fun j hj => by simp [Value.ownBlock] at hj; omega)
    rcases hat with e | e
    · exact k _ _ g (.inl rfl) e (ownC_at O1 e) T
    · exact k _ _ w.heap.size (.inr rfl) e (ownC_at O1 e) T
set_option maxRecDepth 100000 in
set_option maxHeartbeats 6400000 in
theorem specInverse (a1 a2 : Option Addr) (n1 n2 c1 c2 : Nat) (t1 t2 : List Tri3) (w : World) (h : Is2 w a1 a2 n1 n2 c1 c2 t1 t2) (l1 : n1 ≤ 1048576) (l2 : n2 ≤ 1048576) :
    Calls Tryz.prog 12 #[.agg #[.slice a1 n1 c1, .slice a2 n2 c2]] w fun e w' => ∃ v1 v2, e = .returned (.agg #[v1, v2]) ∧ Holds w.heap.size w'.heap.size w' (Own2 w.heap.size w'.heap.size v1 v2 t2 t1) ∧ Below w.heap.size w w' := by
  obtain ⟨W1, hW1⟩ : ∃ W, w.alloc (.cells #[.slice a1 n1 c1, .slice a2 n2 c2] 26) = W := ⟨_, rfl⟩
  obtain ⟨W2, hW2⟩ : ∃ W, W1.alloc (.cells #[.slice none 0 0, .slice none 0 0] 26) = W := ⟨_, rfl⟩
  have z1 : W1.heap.size = w.heap.size + 1 := by rw [← hW1]; simp
  have z2 : W2.heap.size = w.heap.size + 2 := by rw [← hW2]; simp [z1]
  have B0 : Hid (Below w.heap.size w W2) := Lib.hid (by rw [← hW2, ← hW1]; exact ((Below.refl w.heap.size w).alloc (Nat.le_refl _) _).alloc (by simp) _)
  have X0 : Hid (Holds w.heap.size (w.heap.size + 1) W2 (Cells w.heap.size #[.slice a1 n1 c1, .slice a2 n2 c2] 26)) := Lib.hid (by rw [← hW2, ← hW1]; exact (cells_new w _ _).alloc _)
  have R0 : Hid (Holds (w.heap.size + 1) (w.heap.size + 2) W2 (Cells (w.heap.size + 1) #[.slice none 0 0, .slice none 0 0] 26)) := Lib.hid (by
    have := cells_new W1 #[.slice none 0 0, .slice none 0 0] 26
    rw [hW2, z1] at this; exact this)
  have H := Lib.hid h
  have HW := Lib.hid (And.intro hW1 hW2)
  have HZ := Lib.hid z2
  clear h hW1 hW2 z1 z2
  go_enter Tryz.func12, Tryz.ntmps12
  go_wp2_with fail
  rw [HW.out.1, HW.out.2]
  have B1 := Lib.hid B0.out.drew
  have X1 := Lib.hid X0.out.drew
  have R1 := Lib.hid R0.out.drew
  clear B0 X0 R0
  refine wp_region_held_drew (S := (fun w' => w'.cell? ⟨w.heap.size, 0, none⟩ = some (.slice a1 n1 c1) ∧ w'.cell? ⟨w.heap.size, 1, none⟩ = some (.slice a2 n2 c2))) (by kernel_rfl) ?_ (fun hHeld => ?_)
  · exact X1.out.now.two
  generalize hV0 : W2.drew = V0 at B1 X1 R1 hHeld ⊢
  clear hV0
  refine wpAnyH_take (i := 1) (v := ?_) rfl (by kernel_rfl) (by kernel_rfl) (by kernel_rfl) (fun _ _ _ h => h) (Or.inl ⟨by kernel_rfl, ?_⟩) (by assumption) ?_
  rotate_left
  · intro w hSw; (try dsimp only at hSw); go_simp; try with_reducible rfl
  refine wpAnyH_take (i := 2) (v := ?_) rfl (by kernel_rfl) (by kernel_rfl) (by kernel_rfl) (fun _ _ _ h => h) (Or.inl ⟨by kernel_rfl, ?_⟩) (by assumption) ?_
  rotate_left
  · intro w hSw; (try dsimp only at hSw); go_simp; try with_reducible rfl
  refine wpAnyH_take (i := 5) (v := ?_) rfl (by kernel_rfl) (by kernel_rfl) (by kernel_rfl) (fun _ _ _ h => h) (Or.inl ⟨by kernel_rfl, ?_⟩) (by assumption) ?_
  rotate_left
  · intro w hSw; (try dsimp only at hSw); go_simp; try with_reducible rfl
  refine wpAnyH_take (i := 6) (v := ?_) rfl (by kernel_rfl) (by kernel_rfl) (by kernel_rfl) (fun _ _ _ h => h) (Or.inl ⟨by kernel_rfl, ?_⟩) (by assumption) ?_
  rotate_left
  · intro w hSw; (try dsimp only at hSw); go_simp; try with_reducible rfl
  refine wpAnyH_ready (rs := [0, 4]) (by kernel_rfl) (by simp) ?_
  refine AllReadyH.cons rfl (fun KK hK => ?g1_0) (AllReadyH.cons rfl (fun KK hK => ?g1_4) AllReadyH.nil)
  case' g1_0 =>
    go_simp
    have tz := R1.out.le
    try simp only [World.size_alloc] at tz
    have hzEA := Lib.hid tz
    clear tz
    have B2 := Lib.hid (B1.out.alloc B1.out.size (.cells #[] 38))
    have X2 := Lib.hid (X1.out.alloc (.cells #[] 38))
    have R2 := Lib.hid (R1.out.alloc (.cells #[] 38))
    clear B1 X1 R1
    have tz := cells_new (V0) #[] 38
    try simp only [World.size_alloc] at tz
    have EA2 := Lib.hid (tz)
    clear tz
    refine hK.out _ _ ?_ (fun hHeld => ?_)
    · exact X2.out.now.two
    clear hK KK
    refine wpAnyH_ready (rs := [3, 4]) (by kernel_rfl) (by simp) ?_
    refine AllReadyH.cons rfl (fun KK hK => ?g2_3) (AllReadyH.cons rfl (fun KK hK => ?g2_4) AllReadyH.nil)
    case' g2_3 =>
      rw [if_pos (by rfl)]
      have tz := R2.out.le
      try simp only [World.size_alloc] at tz
      have hsVA := Lib.hid tz
      clear tz
      refine upon_copy _ _ (by rfl) _ (by rfl) EA2.out.now a2 n2 c2 t2 (by rfl) (H.out.2.next B2.out) l2 ?_
      intro vVA xVA jVA hj hv hh ht
      try simp only [World.size_alloc] at hj
      have hjVA := Lib.hid hj
      have hvVA := Lib.hid hv
      clear EA2
      have B3 := Lib.hid (B2.out.trans (ht.below B2.out.size (by have := hzEA.out; omega)))
      have X3 := Lib.hid (X2.out.step ht (by have := hzEA.out; left; omega))
      have R3 := Lib.hid (R2.out.step ht (by have := hzEA.out; left; omega))
      clear hj hv ht B2 X2 R2
      have VA3 := Lib.hid (hh)
      clear hh
      refine hK.out _ _ ?_ (fun hHeld => ?_)
      · exact X3.out.now.two
      clear hK KK
      refine wpAnyH_ready (rs := [4]) (by kernel_rfl) (by simp) ?_
      refine AllReadyH.cons rfl (fun KK hK => ?_) AllReadyH.nil
      go_simp
      have tz := R3.out.le
      try simp only [World.size_alloc] at tz
      have hzEB := Lib.hid tz
      clear tz
      have tz := VA3.out.le
      try simp only [World.size_alloc] at tz
      have leVA_EB := Lib.hid tz
      clear tz
      have B4 := Lib.hid (B3.out.alloc B3.out.size (.cells #[] 38))
      have X4 := Lib.hid (X3.out.alloc (.cells #[] 38))
      have R4 := Lib.hid (R3.out.alloc (.cells #[] 38))
      have VA4 := Lib.hid (VA3.out.alloc (.cells #[] 38))
      clear B3 X3 R3 VA3
      have tz := cells_new (xVA) #[] 38
      try simp only [World.size_alloc] at tz
      have EB4 := Lib.hid (tz)
      clear tz
      refine hK.out _ _ ?_ (fun hHeld => ?_)
      · exact X4.out.now.two
      clear hK KK
      refine wpAnyH_ready (rs := [7]) (by kernel_rfl) (by simp) ?_
      refine AllReadyH.cons rfl (fun KK hK => ?_) AllReadyH.nil
      rw [if_pos (by rfl)]
      have tz := R4.out.le
      try simp only [World.size_alloc] at tz
      have hsVB := Lib.hid tz
      clear tz
      refine upon_copy _ _ (by rfl) _ (by rfl) EB4.out.now a1 n1 c1 t1 (by rfl) (H.out.1.next B4.out) l1 ?_
      intro vVB xVB jVB hj hv hh ht
      have tz := VA4.out.le
      try simp only [World.size_alloc] at tz
      have lVA_VB := Lib.hid tz
      clear tz
      try simp only [World.size_alloc] at hj
      have hjVB := Lib.hid hj
      have hvVB := Lib.hid hv
      clear EB4
      have B5 := Lib.hid (B4.out.trans (ht.below B4.out.size (by have := hzEB.out; omega)))
      have X5 := Lib.hid (X4.out.step ht (by have := hzEB.out; left; omega))
      have R5 := Lib.hid (R4.out.step ht (by have := hzEB.out; left; omega))
      have VA5 := Lib.hid (VA4.out.step ht (by first | exact .inl leVA_EB.out | (have q1 := hjVA.out; have q2 := lEB_VA.out; first | (have q3 := leEA_EB.out; omega) | (have q3 := leEB_EA.out; omega))))
      clear hj hv ht B4 X4 R4 VA4
      have VB5 := Lib.hid (hh)
      clear hh
      refine hK.out _ _ ?_ (fun hHeld => ?_)
      · exact X5.out.now.two
      clear hK KK
      obtain ⟨p1, q1, r1, rfl⟩ := ownT_shape VA5.out.now.1
      obtain ⟨p2, q2, r2, rfl⟩ := ownT_shape VB5.out.now.1
      refine wpAnyH_take (i := 8) (v := ?_) rfl (by kernel_rfl) (by kernel_rfl) (by kernel_rfl) (fun _ _ _ h => h) (Or.inl ⟨by kernel_rfl, ?_⟩) (by assumption) ?_
      rotate_left
      · intro w hSw; (try dsimp only at hSw); go_simp; try with_reducible rfl
      refine wpAnyH_ready (rs := [9]) (by kernel_rfl) (by simp) ?_
      refine AllReadyH.cons rfl (fun KK hK => ?_) AllReadyH.nil
      obtain ⟨y0, y1⟩ := R5.out.now.two
      obtain ⟨f0, f1⟩ := R5.out.now.frees
      go_simp
      refine hK.out _ _ ?_ (fun hHeld => ?_)
      · exact two_off X5.out.now (by omega)
      clear hK KK
      refine wpAnyH_done (by kernel_rfl) ?_ _
      try simp only [Act.put, List.setIfInBounds_toArray, List.set_cons_zero, List.set_cons_succ, List.getElem_toArray, List.getElem_cons_zero, List.getElem_cons_succ]
      go_wp2_with fail
      refine bodyPost_ret (v := .agg #[.slice p1 q1 r1, .slice p2 q2 r2]) (by simp [results, Tryz.results12, go_sem, *]) rfl ⟨_, _, rfl, ?_, below_two B5.out _ (Nat.le_succ _) _ _⟩
      have ja : w.heap.size + 2 ≤ jVA ∧ w.heap.size + 2 ≤ jVB := by have := hjVA.out; have := hjVB.out; have := hsVA.out; have := hsVB.out; have := hzEA.out; have := hzEB.out; omega
      have jn : jVA ≠ jVB := by first | (have q := leVA_EB.out; have q1 := hjVB.out; have q2 := lVA_VB.out; omega) | (have q := hjVA.out; have q1 := hjVB.out; have q2 := lVA_VB.out; have q3 := lEB_VA.out; first | (have q4 := leEA_EB.out; omega) | (have q4 := leEB_EA.out; omega))
      refine ⟨own2_lives, Nat.le_refl _, ⟨own_base (ownT_off2 VA5.out.now.1 (by omega)) (by omega), fun j hj => by rw [set2_size]; exact (World.ownsRow.lt VA5.out.now.1 j hj).2⟩, ⟨own_base (ownT_off2 VB5.out.now.1 (by omega)) (by omega), fun j hj => by rw [set2_size]; exact (World.ownsRow.lt VB5.out.now.1 j hj).2⟩, fun j h1 h2 => ?_⟩
      have := hvVA.out; rw [h1] at this; have h3 := hvVB.out; rw [h2] at h3; simp only [Option.some.injEq] at this h3; omega
    case' g2_4 =>
      go_simp
      have tz := R2.out.le
      try simp only [World.size_alloc] at tz
      have hzEB := Lib.hid tz
      clear tz
      have tz := EA2.out.le
      try simp only [World.size_alloc] at tz
      have leEA_EB := Lib.hid tz
      clear tz
      have B3 := Lib.hid (B2.out.alloc B2.out.size (.cells #[] 38))
      have X3 := Lib.hid (X2.out.alloc (.cells #[] 38))
      have R3 := Lib.hid (R2.out.alloc (.cells #[] 38))
      have EA3 := Lib.hid (EA2.out.alloc (.cells #[] 38))
      clear B2 X2 R2 EA2
      have tz := cells_new ((V0.alloc (.cells #[] 38))) #[] 38
      try simp only [World.size_alloc] at tz
      have EB3 := Lib.hid (tz)
      clear tz
      refine hK.out _ _ ?_ (fun hHeld => ?_)
      · exact X3.out.now.two
      clear hK KK
      refine wpAnyH_ready (rs := [3]) (by kernel_rfl) (by simp) ?_
      refine AllReadyH.cons rfl (fun KK hK => ?_) AllReadyH.nil
      rw [if_pos (by rfl)]
      have tz := R3.out.le
      try simp only [World.size_alloc] at tz
      have hsVA := Lib.hid tz
      clear tz
      refine upon_copy _ _ (by rfl) _ (by rfl) EA3.out.now a2 n2 c2 t2 (by rfl) (H.out.2.next B3.out) l2 ?_
      intro vVA xVA jVA hj hv hh ht
      have tz := EB3.out.le
      try simp only [World.size_alloc] at tz
      have lEB_VA := Lib.hid tz
      clear tz
      try simp only [World.size_alloc] at hj
      have hjVA := Lib.hid hj
      have hvVA := Lib.hid hv
      clear EA3
      have B4 := Lib.hid (B3.out.trans (ht.below B3.out.size (by have := hzEA.out; omega)))
      have X4 := Lib.hid (X3.out.step ht (by have := hzEA.out; left; omega))
      have R4 := Lib.hid (R3.out.step ht (by have := hzEA.out; left; omega))
      have EB4 := Lib.hid (EB3.out.step ht (by first | exact .inl leEB_EA.out | exact .inr leEA_EB.out))
      clear hj hv ht B3 X3 R3 EB3
      have VA4 := Lib.hid (hh)
      clear hh
      refine hK.out _ _ ?_ (fun hHeld => ?_)
      · exact X4.out.now.two
      clear hK KK
      refine wpAnyH_ready (rs := [7]) (by kernel_rfl) (by simp) ?_
      refine AllReadyH.cons rfl (fun KK hK => ?_) AllReadyH.nil
      rw [if_pos (by rfl)]
      have tz := R4.out.le
      try simp only [World.size_alloc] at tz
      have hsVB := Lib.hid tz
      clear tz
      refine upon_copy _ _ (by rfl) _ (by rfl) EB4.out.now a1 n1 c1 t1 (by rfl) (H.out.1.next B4.out) l1 ?_
      intro vVB xVB jVB hj hv hh ht
      have tz := VA4.out.le
      try simp only [World.size_alloc] at tz
      have lVA_VB := Lib.hid tz
      clear tz
      try simp only [World.size_alloc] at hj
      have hjVB := Lib.hid hj
      have hvVB := Lib.hid hv
      clear EB4
      have B5 := Lib.hid (B4.out.trans (ht.below B4.out.size (by have := hzEB.out; omega)))
      have X5 := Lib.hid (X4.out.step ht (by have := hzEB.out; left; omega))
      have R5 := Lib.hid (R4.out.step ht (by have := hzEB.out; left; omega))
      have VA5 := Lib.hid (VA4.out.step ht (by first | exact .inl leVA_EB.out | (have q1 := hjVA.out; have q2 := lEB_VA.out; first | (have q3 := leEA_EB.out; omega) | (have q3 := leEB_EA.out; omega))))
      clear hj hv ht B4 X4 R4 VA4
      have VB5 := Lib.hid (hh)
      clear hh
      refine hK.out _ _ ?_ (fun hHeld => ?_)
      · exact X5.out.now.two
      clear hK KK
      obtain ⟨p1, q1, r1, rfl⟩ := ownT_shape VA5.out.now.1
      obtain ⟨p2, q2, r2, rfl⟩ := ownT_shape VB5.out.now.1
      refine wpAnyH_take (i := 8) (v := ?_) rfl (by kernel_rfl) (by kernel_rfl) (by kernel_rfl) (fun _ _ _ h => h) (Or.inl ⟨by kernel_rfl, ?_⟩) (by assumption) ?_
      rotate_left
      · intro w hSw; (try dsimp only at hSw); go_simp; try with_reducible rfl
      refine wpAnyH_ready (rs := [9]) (by kernel_rfl) (by simp) ?_
      refine AllReadyH.cons rfl (fun KK hK => ?_) AllReadyH.nil
      obtain ⟨y0, y1⟩ := R5.out.now.two
      obtain ⟨f0, f1⟩ := R5.out.now.frees
      go_simp
      refine hK.out _ _ ?_ (fun hHeld => ?_)
      · exact two_off X5.out.now (by omega)
      clear hK KK
      refine wpAnyH_done (by kernel_rfl) ?_ _
      try simp only [Act.put, List.setIfInBounds_toArray, List.set_cons_zero, List.set_cons_succ, List.getElem_toArray, List.getElem_cons_zero, List.getElem_cons_succ]
      go_wp2_with fail
      refine bodyPost_ret (v := .agg #[.slice p1 q1 r1, .slice p2 q2 r2]) (by simp [results, Tryz.results12, go_sem, *]) rfl ⟨_, _, rfl, ?_, below_two B5.out _ (Nat.le_succ _) _ _⟩
      have ja : w.heap.size + 2 ≤ jVA ∧ w.heap.size + 2 ≤ jVB := by have := hjVA.out; have := hjVB.out; have := hsVA.out; have := hsVB.out; have := hzEA.out; have := hzEB.out; omega
      have jn : jVA ≠ jVB := by first | (have q := leVA_EB.out; have q1 := hjVB.out; have q2 := lVA_VB.out; omega) | (have q := hjVA.out; have q1 := hjVB.out; have q2 := lVA_VB.out; have q3 := lEB_VA.out; first | (have q4 := leEA_EB.out; omega) | (have q4 := leEB_EA.out; omega))
      refine ⟨own2_lives, Nat.le_refl _, ⟨own_base (ownT_off2 VA5.out.now.1 (by omega)) (by omega), fun j hj => by rw [set2_size]; exact (World.ownsRow.lt VA5.out.now.1 j hj).2⟩, ⟨own_base (ownT_off2 VB5.out.now.1 (by omega)) (by omega), fun j hj => by rw [set2_size]; exact (World.ownsRow.lt VB5.out.now.1 j hj).2⟩, fun j h1 h2 => ?_⟩
      have := hvVA.out; rw [h1] at this; have h3 := hvVB.out; rw [h2] at h3; simp only [Option.some.injEq] at this h3; omega
  case' g1_4 =>
    go_simp
    have tz := R1.out.le
    try simp only [World.size_alloc] at tz
    have hzEB := Lib.hid tz
    clear tz
    have B2 := Lib.hid (B1.out.alloc B1.out.size (.cells #[] 38))
    have X2 := Lib.hid (X1.out.alloc (.cells #[] 38))
    have R2 := Lib.hid (R1.out.alloc (.cells #[] 38))
    clear B1 X1 R1
    have tz := cells_new (V0) #[] 38
    try simp only [World.size_alloc] at tz
    have EB2 := Lib.hid (tz)
    clear tz
    refine hK.out _ _ ?_ (fun hHeld => ?_)
    · exact X2.out.now.two
    clear hK KK
    refine wpAnyH_ready (rs := [0]) (by kernel_rfl) (by simp) ?_
    refine AllReadyH.cons rfl (fun KK hK => ?_) AllReadyH.nil
    go_simp
    have tz := R2.out.le
    try simp only [World.size_alloc] at tz
    have hzEA := Lib.hid tz
    clear tz
    have tz := EB2.out.le
    try simp only [World.size_alloc] at tz
    have leEB_EA := Lib.hid tz
    clear tz
    have B3 := Lib.hid (B2.out.alloc B2.out.size (.cells #[] 38))
    have X3 := Lib.hid (X2.out.alloc (.cells #[] 38))
    have R3 := Lib.hid (R2.out.alloc (.cells #[] 38))
    have EB3 := Lib.hid (EB2.out.alloc (.cells #[] 38))
    clear B2 X2 R2 EB2
    have tz := cells_new ((V0.alloc (.cells #[] 38))) #[] 38
    try simp only [World.size_alloc] at tz
    have EA3 := Lib.hid (tz)
    clear tz
    refine hK.out _ _ ?_ (fun hHeld => ?_)
    · exact X3.out.now.two
    clear hK KK
    refine wpAnyH_ready (rs := [3]) (by kernel_rfl) (by simp) ?_
    refine AllReadyH.cons rfl (fun KK hK => ?_) AllReadyH.nil
    rw [if_pos (by rfl)]
    have tz := R3.out.le
    try simp only [World.size_alloc] at tz
    have hsVA := Lib.hid tz
    clear tz
    refine upon_copy _ _ (by rfl) _ (by rfl) EA3.out.now a2 n2 c2 t2 (by rfl) (H.out.2.next B3.out) l2 ?_
    intro vVA xVA jVA hj hv hh ht
    have tz := EB3.out.le
    try simp only [World.size_alloc] at tz
    have lEB_VA := Lib.hid tz
    clear tz
    try simp only [World.size_alloc] at hj
    have hjVA := Lib.hid hj
    have hvVA := Lib.hid hv
    clear EA3
    have B4 := Lib.hid (B3.out.trans (ht.below B3.out.size (by have := hzEA.out; omega)))
    have X4 := Lib.hid (X3.out.step ht (by have := hzEA.out; left; omega))
    have R4 := Lib.hid (R3.out.step ht (by have := hzEA.out; left; omega))
    have EB4 := Lib.hid (EB3.out.step ht (by first | exact .inl leEB_EA.out | exact .inr leEA_EB.out))
    clear hj hv ht B3 X3 R3 EB3
    have VA4 := Lib.hid (hh)
    clear hh
    refine hK.out _ _ ?_ (fun hHeld => ?_)
    · exact X4.out.now.two
    clear hK KK
    refine wpAnyH_ready (rs := [7]) (by kernel_rfl) (by simp) ?_
    refine AllReadyH.cons rfl (fun KK hK => ?_) AllReadyH.nil
    rw [if_pos (by rfl)]
    have tz := R4.out.le
    try simp only [World.size_alloc] at tz
    have hsVB := Lib.hid tz
    clear tz
    refine upon_copy _ _ (by rfl) _ (by rfl) EB4.out.now a1 n1 c1 t1 (by rfl) (H.out.1.next B4.out) l1 ?_
    intro vVB xVB jVB hj hv hh ht
    have tz := VA4.out.le
    try simp only [World.size_alloc] at tz
    have lVA_VB := Lib.hid tz
    clear tz
    try simp only [World.size_alloc] at hj
    have hjVB := Lib.hid hj
    have hvVB := Lib.hid hv
    clear EB4
    have B5 := Lib.hid (B4.out.trans (ht.below B4.out.size (by have := hzEB.out; omega)))
    have X5 := Lib.hid (X4.out.step ht (by have := hzEB.out; left; omega))
    have R5 := Lib.hid (R4.out.step ht (by have := hzEB.out; left; omega))
    have VA5 := Lib.hid (VA4.out.step ht (by first | exact .inl leVA_EB.out | (have q1 := hjVA.out; have q2 := lEB_VA.out; first | (have q3 := leEA_EB.out; omega) | (have q3 := leEB_EA.out; omega))))
    clear hj hv ht B4 X4 R4 VA4
    have VB5 := Lib.hid (hh)
    clear hh
    refine hK.out _ _ ?_ (fun hHeld => ?_)
    · exact X5.out.now.two
    clear hK KK
    obtain ⟨p1, q1, r1, rfl⟩ := ownT_shape VA5.out.now.1
    obtain ⟨p2, q2, r2, rfl⟩ := ownT_shape VB5.out.now.1
    refine wpAnyH_take (i := 8) (v := ?_) rfl (by kernel_rfl) (by kernel_rfl) (by kernel_rfl) (fun _ _ _ h => h) (Or.inl ⟨by kernel_rfl, ?_⟩) (by assumption) ?_
    rotate_left
    · intro w hSw; (try dsimp only at hSw); go_simp; try with_reducible rfl
    refine wpAnyH_ready (rs := [9]) (by kernel_rfl) (by simp) ?_
    refine AllReadyH.cons rfl (fun KK hK => ?_) AllReadyH.nil
    obtain ⟨y0, y1⟩ := R5.out.now.two
    obtain ⟨f0, f1⟩ := R5.out.now.frees
    go_simp
    refine hK.out _ _ ?_ (fun hHeld => ?_)
    · exact two_off X5.out.now (by omega)
    clear hK KK
    refine wpAnyH_done (by kernel_rfl) ?_ _
    try simp only [Act.put, List.setIfInBounds_toArray, List.set_cons_zero, List.set_cons_succ, List.getElem_toArray, List.getElem_cons_zero, List.getElem_cons_succ]
    go_wp2_with fail
    refine bodyPost_ret (v := .agg #[.slice p1 q1 r1, .slice p2 q2 r2]) (by simp [results, Tryz.results12, go_sem, *]) rfl ⟨_, _, rfl, ?_, below_two B5.out _ (Nat.le_succ _) _ _⟩
    have ja : w.heap.size + 2 ≤ jVA ∧ w.heap.size + 2 ≤ jVB := by have := hjVA.out; have := hjVB.out; have := hsVA.out; have := hsVB.out; have := hzEA.out; have := hzEB.out; omega
    have jn : jVA ≠ jVB := by first | (have q := leVA_EB.out; have q1 := hjVB.out; have q2 := lVA_VB.out; omega) | (have q := hjVA.out; have q1 := hjVB.out; have q2 := lVA_VB.out; have q3 := lEB_VA.out; first | (have q4 := leEA_EB.out; omega) | (have q4 := leEB_EA.out; omega))
    refine ⟨own2_lives, Nat.le_refl _, ⟨own_base (ownT_off2 VA5.out.now.1 (by omega)) (by omega), fun j hj => by rw [set2_size]; exact (World.ownsRow.lt VA5.out.now.1 j hj).2⟩, ⟨own_base (ownT_off2 VB5.out.now.1 (by omega)) (by omega), fun j hj => by rw [set2_size]; exact (World.ownsRow.lt VB5.out.now.1 j hj).2⟩, fun j h1 h2 => ?_⟩
    have := hvVA.out; rw [h1] at this; have h3 := hvVB.out; rw [h2] at h3; simp only [Option.some.injEq] at this h3; omega
end Go.Proofs.YtofkploffcplhaaGreat
/- The specification's Inverse, Patched, PatchOk and PatchOf at slices that are held by their triples. -/
namespace Go.Proofs.YtofkploffcplhaaGreat
open Go.RowKit Go.WideShapes
theorem patchOf_len (a b : List Tri3) : ((patchOf a b).getD ([], [])).1.length ≤ 80 ∧ ((patchOf a b).getD ([], [])).2.length ≤ 80 := by
  unfold patchOf
  split
  · rename_i c
    exact ⟨outT_graph_len c.1, outT_graph_len c.2⟩
  · exact ⟨by simp, by simp⟩
theorem ownT_shapeN {B : Nat} {w : World} {v : Value} {ts : List Tri3} (h : OwnT B w v ts) : ∃ a n c, v = .slice a n c := by
  rcases h.2 with ⟨rfl, _⟩ | ⟨g, c, cur, rfl, _⟩
  · exact ⟨_, _, _, rfl⟩
  · exact ⟨_, _, _, rfl⟩
theorem specPatchOfN {v u : Value} {ts us : List Tri3} {w : World} (h : GotG w v ts) (k : GotG w u us) : Calls Tryz.prog 19 #[v, u] w fun e w' => ∃ (ok : Bool) (x1 : Option Addr) (n1 c1 : Nat) (x2 : Option Addr) (n2 c2 : Nat) (d1 d2 : List Tri3), e = .returned (.tuple #[.agg #[.slice x1 n1 c1, .slice x2 n2 c2], .bool ok]) ∧ Holds w.heap.size w'.heap.size w' (Own2 w.heap.size w'.heap.size (.slice x1 n1 c1) (.slice x2 n2 c2) d1 d2) ∧ (SmG d1 ∧ SmG d2) ∧ (d1.length ≤ 80 ∧ d2.length ≤ 80) ∧ Below w.heap.size w w' := by
  obtain ⟨x, c, rfl, hi, hp, hs⟩ := h
  obtain ⟨y, d, rfl, ki, kp, ks⟩ := k
  refine (specPatchOf x y _ c _ d ts us w hi ki hs.sm ks.sm (by have := hs.1; omega) (by have := ks.1; omega)).mono fun e w' g => ?_
  have s1 := (SmG.patchOf hs ks).1
  have s2 := (SmG.patchOf hs ks).2
  have L := patchOf_len ts us
  obtain ⟨v1, v2, he, ho, hb⟩ := g
  obtain ⟨x1, n1, c1, rfl⟩ := ownT_shapeN ho.now.1.1
  obtain ⟨x2, n2, c2, rfl⟩ := ownT_shapeN ho.now.2.1.1
  exact ⟨_, x1, n1, c1, x2, n2, c2, _, _, he, ho, ⟨s1, s2⟩, L, hb⟩
theorem specPatchOkG {v u : Value} {ts us : List Tri3} {w : World} (h : GotG w v ts) (k : GotG w u us) : Calls Tryz.prog 14 #[.agg #[v, u]] w fun e w' => e = .returned (.bool (patchOk ts us)) ∧ Below w.heap.size w w' := by
  obtain ⟨x, c, rfl, hi, hp, hs⟩ := h
  obtain ⟨y, d, rfl, ki, kp, ks⟩ := k
  exact specPatchOk x y _ _ c d ts us w ⟨hi, ki⟩ hs.sm ks.sm (by have := hs.1; omega) (by have := ks.1; omega)
theorem specPatchedG {z v u : Value} {gs ts us : List Tri3} {w : World} (j : GotG w z gs) (h : GotG w v ts) (k : GotG w u us) : Calls Tryz.prog 7 #[z, .agg #[v, u]] w (GotRes (patchedO gs ts us) w) := by
  obtain ⟨p, q, rfl, ji, jp, js⟩ := j
  obtain ⟨x, c, rfl, hi, hp, hs⟩ := h
  obtain ⟨y, d, rfl, ki, kp, ks⟩ := k
  exact (specPatched p x y _ q _ _ c d gs ts us w ji ⟨hi, ki⟩ js.sm hs.sm ks.sm (by have := js.1; omega) (by have := hs.1; omega) (by have := ks.1; omega)).mono fun e w' g => gotRes (SmG.patched js ks) g
theorem specInverseG {v u : Value} {ts us : List Tri3} {w : World} (h : GotG w v ts) (k : GotG w u us) : Calls Tryz.prog 12 #[.agg #[v, u]] w fun e w' => ∃ x1 c1 x2 c2, e = .returned (.agg #[.slice x1 us.length c1, .slice x2 ts.length c2]) ∧ GotG w' (.slice x1 us.length c1) us ∧ GotG w' (.slice x2 ts.length c2) ts ∧ Below w.heap.size w w' := by
  obtain ⟨x, c, rfl, hi, hp, hs⟩ := h
  obtain ⟨y, d, rfl, ki, kp, ks⟩ := k
  refine (specInverse x y _ _ c d ts us w ⟨hi, ki⟩ (by have := hs.1; omega) (by have := ks.1; omega)).mono fun e w' ⟨v1, v2, he, ho, hb⟩ => ?_
  have g1 := got_of ho.now.1.1 ks
  have g2 := got_of ho.now.2.1.1 hs
  obtain ⟨x1, c1, rfl⟩ := (show ∃ x c, v1 = .slice x us.length c from by obtain ⟨x, c, h, _⟩ := g1; exact ⟨x, c, h⟩)
  obtain ⟨x2, c2, rfl⟩ := (show ∃ x c, v2 = .slice x ts.length c from by obtain ⟨x, c, h, _⟩ := g2; exact ⟨x, c, h⟩)
  exact ⟨x1, c1, x2, c2, he, g1, g2, hb⟩
end Go.Proofs.YtofkploffcplhaaGreat
/- What is drawn for Patched, PatchOk and Inverse. -/
namespace Go.Proofs.YtofkploffcplhaaGreat
open Go.RowKit Go.WideShapes
theorem qset2_size (W : World) (g : Nat) (x y : Value) : ((W.setCell ⟨g, 0, none⟩ x).setCell ⟨g, 1, none⟩ y).heap.size = W.heap.size := by simp [World.setCell]
theorem qset1_else (W : World) (g i : Nat) (x : Value) (k : Nat) (h : k ≠ g) : (W.setCell ⟨g, i, none⟩ x).heap[k]? = W.heap[k]? := by
  simp only [World.setCell]
  rw [Array.getElem?_modify]
  rw [if_neg (fun e => h e.symm)]
theorem qset1_size (W : World) (g i : Nat) (x : Value) : (W.setCell ⟨g, i, none⟩ x).heap.size = W.heap.size := by simp [World.setCell]
theorem turnq1 (W : World) (g i : Nat) (x : Value) : Turn g (g + 1) W (W.setCell ⟨g, i, none⟩ x) :=
  ⟨rfl, rfl, rfl, by rw [qset1_size]; exact Nat.le_refl _, fun k _ hk => qset1_else W g i x k (by omega)⟩
theorem turnq2 (W : World) (g : Nat) (x y : Value) : Turn g (g + 1) W ((W.setCell ⟨g, 0, none⟩ x).setCell ⟨g, 1, none⟩ y) :=
  ⟨rfl, rfl, rfl, by rw [qset2_size]; exact Nat.le_refl _, fun k _ hk => by rw [qset1_else _ g 1 y k (by omega), qset1_else W g 0 x k (by omega)]⟩
theorem cellsq2 {g : Nat} {a b : Value} {T : TypeId} {W : World} (h : Holds g (g + 1) W (Cells g #[a, b] T)) (x y : Value) : Holds g (g + 1) ((W.setCell ⟨g, 0, none⟩ x).setCell ⟨g, 1, none⟩ y) (Cells g #[x, y] T) :=
  ⟨cells_lives _ _ _, by rw [qset2_size]; exact h.le, by have := h.now; unfold Cells at this ⊢; simp [World.setCell, Array.getElem?_modify, this]⟩
theorem cellsq1 {g : Nat} {a b : Value} {T : TypeId} {W : World} (h : Holds g (g + 1) W (Cells g #[a, b] T)) (y : Value) : Holds g (g + 1) (W.setCell ⟨g, 1, none⟩ y) (Cells g #[a, y] T) :=
  ⟨cells_lives _ _ _, by rw [qset1_size]; exact h.le, by have := h.now; unfold Cells at this ⊢; simp [World.setCell, Array.getElem?_modify, this]⟩
set_option maxRecDepth 100000 in
set_option maxHeartbeats 6400000 in
theorem drawPatched (w : World) (a : Option Addr) (len cap : Nat) (zs : List Int) (hrow : Frame.IsRow .u8 w a len cap zs) (hlen : len ≤ 9223372036854775807) :
    Calls Tryz.prog 5 #[.slice a len cap] w fun e w' => ∃ (g v1 v2 : Value) (gs d1 d2 : List Tri3), e = .returned (.tuple #[g, .agg #[v1, v2]]) ∧ GotG w' g gs ∧ (GotG w' v1 d1 ∧ GotG w' v2 d2) ∧ Below w.heap.size w w' := by
  obtain ⟨V, hV⟩ : ∃ W, w.alloc (.cells #[.slice none 0 0, .slice none 0 0] 26) = W := ⟨_, rfl⟩
  have z1 : V.heap.size = w.heap.size + 1 := by rw [← hV]; simp
  have BV : Hid (Below w.heap.size w V) := Lib.hid (by rw [← hV]; exact (Below.refl w.heap.size w).alloc (Nat.le_refl _) _)
  have XV : Hid (Holds w.heap.size (w.heap.size + 1) V (Cells w.heap.size #[.slice none 0 0, .slice none 0 0] 26)) := Lib.hid (by rw [← hV]; exact cells_new w _ _)
  have hrV := isRow_grown hrow (grown_of_below (BV.out.mono (Nat.le_refl _)))
  have HV := Lib.hid hV
  clear hV hrow
  go_enter Tryz.func5, Tryz.ntmps5
  go_wp2_with fail
  rw [HV.out]
  refine (drawPatchOfO _ _ _ _ _ hrV).mono ?_
  rintro e w1 ⟨va, vb, ts, us, rfl, ⟨ha, sa⟩, ⟨hb', sb⟩, g1⟩
  clear hrV HV
  have hb := below_of_grown g1
  have B1 := Lib.hid (BV.out.trans (hb.mono BV.out.size))
  have X1 := Lib.hid (XV.out.next hb)
  have HA1 := Lib.hid (ownC_new ha hb)
  have HB1 := Lib.hid (ownC_new hb' hb)
  have SA := Lib.hid sa
  have SB := Lib.hid sb
  have q1 : w.heap.size + 1 ≤ V.heap.size := by omega
  have q2 : V.heap.size ≤ w1.heap.size := hb.size
  obtain ⟨xa, na, ya, rfl⟩ := ownT_shapeN ha
  obtain ⟨xb, nb, yb, rfl⟩ := ownT_shapeN hb'
  clear ha hb' sa sb g1 hb BV XV z1
  have CP := Lib.hid (specPatchOfN (got_of HA1.out.now.1 SA.out) (got_of HB1.out.now.1 SB.out))
  go_wp2_with fail
  refine CP.out.mono ?_
  rintro e w2 ⟨ok, x1, n1, c1, x2, n2, c2, d1, d2, rfl, ho, hs, hl, hb⟩
  have q3 := hb.size
  have B2 := Lib.hid (B1.out.trans (hb.mono B1.out.size))
  have X2 := Lib.hid (X1.out.next hb)
  have HA2 := Lib.hid (HA1.out.next hb)
  have HB2 := Lib.hid (HB1.out.next hb)
  clear B1 X1 HA1 HB1
  have S2 := Lib.hid (ho)
  have HSD := Lib.hid hs
  have HLD := Lib.hid hl
  clear ho hs hl hb CP
  have B3 := Lib.hid (B2.out.alloc B2.out.size (.cells #[.slice x1 n1 c1, .slice x2 n2 c2] 26))
  have X3 := Lib.hid (X2.out.alloc (.cells #[.slice x1 n1 c1, .slice x2 n2 c2] 26))
  have HA3 := Lib.hid (HA2.out.alloc (.cells #[.slice x1 n1 c1, .slice x2 n2 c2] 26))
  have HB3 := Lib.hid (HB2.out.alloc (.cells #[.slice x1 n1 c1, .slice x2 n2 c2] 26))
  have S3 := Lib.hid (S2.out.alloc (.cells #[.slice x1 n1 c1, .slice x2 n2 c2] 26))
  clear B2 X2 HA2 HB2 S2
  have K3 := Lib.hid (cells_new w2 #[.slice x1 n1 c1, .slice x2 n2 c2] 26)
  by_cases h5 : ((len : Int) % 5 = 1)
  · obtain ⟨k0, k1⟩ := K3.out.now.two
    go_wp2_with fail
    clear k0 k1
    have B4 := Lib.hid B3.out.drew
    have X4 := Lib.hid X3.out.drew
    have HA4 := Lib.hid HA3.out.drew
    have HB4 := Lib.hid HB3.out.drew
    have S4 := Lib.hid S3.out.drew
    have K4 := Lib.hid K3.out.drew
    clear B3 X3 HA3 HB3 S3 K3
    refine wp_region_held_drew (S := (fun w' => w'.cell? ⟨w2.heap.size, 0, none⟩ = some (.slice x1 n1 c1) ∧ w'.cell? ⟨w2.heap.size, 1, none⟩ = some (.slice x2 n2 c2))) (by kernel_rfl) ?_ (fun hHeld => ?_)
    · exact K4.out.now.two
    generalize hU0 : (w2.alloc (.cells #[.slice x1 n1 c1, .slice x2 n2 c2] 26)).drew = U0 at B4 X4 HA4 HB4 S4 K4 hHeld ⊢
    clear hU0
    refine wpAnyH_take (i := 0) (v := ?_) rfl (by kernel_rfl) (by kernel_rfl) (by kernel_rfl) (fun _ _ _ h => h) (Or.inl ⟨by kernel_rfl, ?_⟩) (by assumption) ?_
    rotate_left
    · intro w hSw; (try dsimp only at hSw); go_simp; try with_reducible rfl
    refine wpAnyH_take (i := 1) (v := ?_) rfl (by kernel_rfl) (by kernel_rfl) (by kernel_rfl) (fun _ _ _ h => h) (Or.inl ⟨by kernel_rfl, ?_⟩) (by assumption) ?_
    rotate_left
    · intro w hSw; (try dsimp only at hSw); go_simp; try with_reducible rfl
    refine wpAnyH_take (i := 2) (v := ?_) rfl (by kernel_rfl) (by kernel_rfl) (by kernel_rfl) (fun _ _ _ h => h) (Or.inl ⟨by kernel_rfl, ?_⟩) (by assumption) ?_
    rotate_left
    · intro w hSw; (try dsimp only at hSw); go_simp; try with_reducible rfl
    refine wpAnyH_ready (rs := [3]) (by kernel_rfl) (by simp) ?_
    refine AllReadyH.cons rfl (fun KK hK => ?_) AllReadyH.nil
    obtain ⟨y0, y1⟩ := X4.out.now.two
    obtain ⟨f0, f1⟩ := X4.out.now.frees
    clear hHeld
    go_simp
    have TS := turnq2 U0 w.heap.size (.slice x1 n1 c1) (.slice x2 n2 c2)
    have X5 := Lib.hid (cellsq2 X4.out (.slice x1 n1 c1) (.slice x2 n2 c2))
    have HA5 := Lib.hid (HA4.out.step TS (.inr (by omega)))
    have HB5 := Lib.hid (HB4.out.step TS (.inr (by omega)))
    have S5 := Lib.hid (S4.out.step TS (.inr (by omega)))
    have K5 := Lib.hid (K4.out.step TS (.inr (by omega)))
    have B5 := Lib.hid (B4.out.trans (TS.below B4.out.size (by omega)))
    clear TS
    clear B4 X4 HA4 HB4 S4 K4
    refine hK.out _ _ ?_ (fun hHeld => ?_)
    · exact K5.out.now.two
    clear hK KK y0 y1 f0 f1
    generalize hU : World.setCell _ _ _ = U1 at B5 X5 HA5 HB5 S5 K5 hHeld ⊢
    clear hU
    refine wpAnyH_done (by kernel_rfl) ?_ _
    try simp only [Act.put, List.setIfInBounds_toArray, List.set_cons_zero, List.set_cons_succ, List.getElem_toArray, List.getElem_cons_zero, List.getElem_cons_succ]
    clear hHeld
    obtain ⟨u0, u1⟩ := X5.out.now.two
    go_wp2_with fail
    refine bodyPost_ret (v := .tuple #[.slice xb nb yb, .agg #[.slice x1 n1 c1, .slice x2 n2 c2]]) (by simp [results, Tryz.results5, go_sem, *]) rfl ⟨_, _, _, _, _, _, rfl, got_of HB5.out.now.1 SB.out, ⟨got_of S5.out.now.1.1 HSD.out.1, got_of S5.out.now.2.1.1 HSD.out.2⟩, B5.out⟩
  · obtain ⟨k0, k1⟩ := K3.out.now.two
    go_wp2_with fail
    clear k0 k1
    have B4 := Lib.hid B3.out.drew
    have X4 := Lib.hid X3.out.drew
    have HA4 := Lib.hid HA3.out.drew
    have HB4 := Lib.hid HB3.out.drew
    have S4 := Lib.hid S3.out.drew
    have K4 := Lib.hid K3.out.drew
    clear B3 X3 HA3 HB3 S3 K3
    refine wp_region_held_drew (S := (fun w' => w'.cell? ⟨w2.heap.size, 0, none⟩ = some (.slice x1 n1 c1) ∧ w'.cell? ⟨w2.heap.size, 1, none⟩ = some (.slice x2 n2 c2))) (by kernel_rfl) ?_ (fun hHeld => ?_)
    · exact K4.out.now.two
    generalize hU0 : (w2.alloc (.cells #[.slice x1 n1 c1, .slice x2 n2 c2] 26)).drew = U0 at B4 X4 HA4 HB4 S4 K4 hHeld ⊢
    clear hU0
    refine wpAnyH_take (i := 0) (v := ?_) rfl (by kernel_rfl) (by kernel_rfl) (by kernel_rfl) (fun _ _ _ h => h) (Or.inl ⟨by kernel_rfl, ?_⟩) (by assumption) ?_
    rotate_left
    · intro w hSw; (try dsimp only at hSw); go_simp; try with_reducible rfl
    refine wpAnyH_take (i := 1) (v := ?_) rfl (by kernel_rfl) (by kernel_rfl) (by kernel_rfl) (fun _ _ _ h => h) (Or.inl ⟨by kernel_rfl, ?_⟩) (by assumption) ?_
    rotate_left
    · intro w hSw; (try dsimp only at hSw); go_simp; try with_reducible rfl
    refine wpAnyH_take (i := 2) (v := ?_) rfl (by kernel_rfl) (by kernel_rfl) (by kernel_rfl) (fun _ _ _ h => h) (Or.inl ⟨by kernel_rfl, ?_⟩) (by assumption) ?_
    rotate_left
    · intro w hSw; (try dsimp only at hSw); go_simp; try with_reducible rfl
    refine wpAnyH_ready (rs := [3]) (by kernel_rfl) (by simp) ?_
    refine AllReadyH.cons rfl (fun KK hK => ?_) AllReadyH.nil
    obtain ⟨y0, y1⟩ := X4.out.now.two
    obtain ⟨f0, f1⟩ := X4.out.now.frees
    clear hHeld
    go_simp
    have TS := turnq2 U0 w.heap.size (.slice x1 n1 c1) (.slice x2 n2 c2)
    have X5 := Lib.hid (cellsq2 X4.out (.slice x1 n1 c1) (.slice x2 n2 c2))
    have HA5 := Lib.hid (HA4.out.step TS (.inr (by omega)))
    have HB5 := Lib.hid (HB4.out.step TS (.inr (by omega)))
    have S5 := Lib.hid (S4.out.step TS (.inr (by omega)))
    have K5 := Lib.hid (K4.out.step TS (.inr (by omega)))
    have B5 := Lib.hid (B4.out.trans (TS.below B4.out.size (by omega)))
    clear TS
    clear B4 X4 HA4 HB4 S4 K4
    refine hK.out _ _ ?_ (fun hHeld => ?_)
    · exact K5.out.now.two
    clear hK KK y0 y1 f0 f1
    generalize hU : World.setCell _ _ _ = U1 at B5 X5 HA5 HB5 S5 K5 hHeld ⊢
    clear hU
    refine wpAnyH_done (by kernel_rfl) ?_ _
    try simp only [Act.put, List.setIfInBounds_toArray, List.set_cons_zero, List.set_cons_succ, List.getElem_toArray, List.getElem_cons_zero, List.getElem_cons_succ]
    clear hHeld
    obtain ⟨u0, u1⟩ := X5.out.now.two
    go_wp2_with fail
    refine bodyPost_ret (v := .tuple #[.slice xa na ya, .agg #[.slice x1 n1 c1, .slice x2 n2 c2]]) (by simp [results, Tryz.results5, go_sem, *]) rfl ⟨_, _, _, _, _, _, rfl, got_of HA5.out.now.1 SA.out, ⟨got_of S5.out.now.1.1 HSD.out.1, got_of S5.out.now.2.1.1 HSD.out.2⟩, B5.out⟩
/-- A slice of the call's own, from b on. -/
def Mine (b : Nat) (w : World) (v : Value) (ts : List Tri3) : Prop := ∃ B C, b ≤ B ∧ Holds B C w (OwnC B C v ts) ∧ SmG ts
theorem Mine.got {b : Nat} {w : World} {v : Value} {ts : List Tri3} (h : Mine b w v ts) : GotG w v ts := by
  obtain ⟨B, C, _, h1, h2⟩ := h
  exact got_of h1.now.1 h2
theorem Mine.step {b D E : Nat} {w w' : World} {v : Value} {ts : List Tri3} (h : Mine b w v ts) (ht : Turn D E w w') (hE : E ≤ b) : Mine b w' v ts := by
  obtain ⟨B, C, hb, h1, h2⟩ := h
  exact ⟨B, C, hb, h1.step ht (.inr (by omega)), h2⟩
theorem Mine.low {a b : Nat} {w : World} {v : Value} {ts : List Tri3} (h : Mine b w v ts) (hab : a ≤ b) : Mine a w v ts := by
  obtain ⟨B, C, hb, h1, h2⟩ := h
  exact ⟨B, C, by omega, h1, h2⟩
theorem mine1 {b B C : Nat} {w : World} {v u : Value} {ts us : List Tri3} (h : Holds B C w (Own2 B C v u ts us)) (hb : b ≤ B) (s : SmG ts) : Mine b w v ts := ⟨B, C, hb, ⟨ownC_lives, h.le, h.now.1⟩, s⟩
theorem mine2 {b B C : Nat} {w : World} {v u : Value} {ts us : List Tri3} (h : Holds B C w (Own2 B C v u ts us)) (hb : b ≤ B) (s : SmG us) : Mine b w u us := ⟨B, C, hb, ⟨ownC_lives, h.le, h.now.2.1⟩, s⟩
theorem gotIs {w : World} {x : Option Addr} {n c : Nat} {ts : List Tri3} (h : GotG w (.slice x n c) ts) : IsTris w x n c ts ∧ Plain x ∧ SmG ts ∧ ts.length = n := by
  obtain ⟨y, d, e, hi, hp, hs⟩ := h
  simp only [Value.slice.injEq] at e
  obtain ⟨rfl, rfl, rfl⟩ := e
  exact ⟨hi, hp, hs, rfl⟩
set_option maxRecDepth 100000 in
set_option maxHeartbeats 6400000 in
theorem drawPatchOk (w : World) (a : Option Addr) (len cap : Nat) (zs : List Int) (hrow : Frame.IsRow .u8 w a len cap zs) (hlen : len ≤ 9223372036854775807) :
    Calls Tryz.prog 29 #[.slice a len cap] w fun e w' => ∃ (v1 v2 : Value) (d1 d2 : List Tri3), e = .returned (.agg #[v1, v2]) ∧ (Mine w.heap.size w' v1 d1 ∧ Mine w.heap.size w' v2 d2) ∧ Below w.heap.size w w' := by
  obtain ⟨V, hV⟩ : ∃ W, w.alloc (.cells #[.slice none 0 0, .slice none 0 0] 26) = W := ⟨_, rfl⟩
  have z1 : V.heap.size = w.heap.size + 1 := by rw [← hV]; simp
  have BV : Hid (Below w.heap.size w V) := Lib.hid (by rw [← hV]; exact (Below.refl w.heap.size w).alloc (Nat.le_refl _) _)
  have XV : Hid (Holds w.heap.size (w.heap.size + 1) V (Cells w.heap.size #[.slice none 0 0, .slice none 0 0] 26)) := Lib.hid (by rw [← hV]; exact cells_new w _ _)
  have hrV := isRow_grown hrow (grown_of_below (BV.out.mono (Nat.le_refl _)))
  have HV := Lib.hid hV
  clear hV hrow
  go_enter Tryz.func29, Tryz.ntmps29
  go_wp2_with fail
  rw [HV.out]
  refine (drawPatchOfO _ _ _ _ _ hrV).mono ?_
  rintro e w1 ⟨va, vb, ts, us, rfl, ⟨ha, sa⟩, ⟨hb', sb⟩, g1⟩
  clear hrV HV
  have hb := below_of_grown g1
  have B1 := Lib.hid (BV.out.trans (hb.mono BV.out.size))
  have X1 := Lib.hid (XV.out.next hb)
  have HA1 := Lib.hid (ownC_new ha hb)
  have HB1 := Lib.hid (ownC_new hb' hb)
  have SA := Lib.hid sa
  have SB := Lib.hid sb
  have q1 : w.heap.size + 1 ≤ V.heap.size := by omega
  have q2 : V.heap.size ≤ w1.heap.size := hb.size
  obtain ⟨xa, na, ya, rfl⟩ := ownT_shapeN ha
  obtain ⟨xb, nb, yb, rfl⟩ := ownT_shapeN hb'
  clear ha hb' sa sb g1 hb BV XV z1
  have CP := Lib.hid (specPatchOfN (got_of HA1.out.now.1 SA.out) (got_of HB1.out.now.1 SB.out))
  go_wp2_with fail
  refine CP.out.mono ?_
  rintro e w2 ⟨ok, x1, n1, c1, x2, n2, c2, d1, d2, rfl, ho, hs, hl, hb⟩
  have q3 := hb.size
  have B2 := Lib.hid (B1.out.trans (hb.mono B1.out.size))
  have X2 := Lib.hid (X1.out.next hb)
  have HA2 := Lib.hid (HA1.out.next hb)
  have HB2 := Lib.hid (HB1.out.next hb)
  clear B1 X1 HA1 HB1
  have S2 := Lib.hid (ho)
  have HSD := Lib.hid hs
  have HLD := Lib.hid hl
  clear ho hs hl hb CP
  have B3 := Lib.hid (B2.out.alloc B2.out.size (.cells #[.slice x1 n1 c1, .slice x2 n2 c2] 26))
  have X3 := Lib.hid (X2.out.alloc (.cells #[.slice x1 n1 c1, .slice x2 n2 c2] 26))
  have HA3 := Lib.hid (HA2.out.alloc (.cells #[.slice x1 n1 c1, .slice x2 n2 c2] 26))
  have HB3 := Lib.hid (HB2.out.alloc (.cells #[.slice x1 n1 c1, .slice x2 n2 c2] 26))
  have S3 := Lib.hid (S2.out.alloc (.cells #[.slice x1 n1 c1, .slice x2 n2 c2] 26))
  clear B2 X2 HA2 HB2 S2
  have K3 := Lib.hid (cells_new w2 #[.slice x1 n1 c1, .slice x2 n2 c2] 26)
  clear HA3
  clear HB3
  clear SA SB
  by_cases h4 : ((len : Int) % 4 = 1)
  · by_cases hn : 0 < n1
    · have hn1 : (0 : Int) < (n1 : Int) := by omega
      have hn2 : (0 : Int) ≤ 0 := Int.le_refl 0
      obtain ⟨k0, k1⟩ := K3.out.now.two
      go_wp2_with fail
      clear k0 k1
      generalize hU : (w2.alloc (.cells #[.slice x1 n1 c1, .slice x2 n2 c2] 26)) = u3 at B3 X3 S3 K3 ⊢
      have q4 : w2.heap.size + 1 = u3.heap.size := by rw [← hU]; simp
      clear hU
      have B4 := Lib.hid B3.out.drew
      have X4 := Lib.hid X3.out.drew
      have S4 := Lib.hid S3.out.drew
      have K4 := Lib.hid K3.out.drew
      clear B3 X3 S3 K3
      refine wp_region_any (by kernel_rfl) ?_
      change wpAny _ _ _ _ _ _ _ (World.drew _)
      have q5 : u3.drew.heap.size = u3.heap.size := rfl
      generalize hU0 : u3.drew = U0 at B4 X4 S4 K4 q5 ⊢
      clear hU0
      have I1 := gotIs (got_of S4.out.now.1.1 HSD.out.1)
      have I2 := gotIs (got_of S4.out.now.2.1.1 HSD.out.2)
      obtain ⟨b1, off, rfl, hb1, hl2, hm, hts, hcs⟩ := I1.1.cells hn
      have ht : d1[0]? = some (d1[0]'(by have := I1.2.2.2; omega)) := List.getElem?_eq_getElem (by have := I1.2.2.2; omega)
      obtain ⟨c0, c1_, c2_, m0, m1, m2⟩ := hcs 0 _ ht
      have hsz := I1.2.2.1.2 _ (List.mem_of_getElem? ht)
      generalize d1[0]'(by have := I1.2.2.2; omega) = t at ht c0 c1_ c2_ m0 m1 m2 hsz
      obtain ⟨t0, t1, t2⟩ := t
      simp only [Nat.zero_mul, Nat.add_zero] at c0 c1_ c2_ hsz
      have CP := Lib.hid (specPutAny x2 n2 c2 d2 t0 t1 t2 U0 I2.1 I2.2.1 (by have := I2.2.2.2; have := HLD.out; omega))
      have SP : Hid (SmG (putT d2 (t0, t1, t2))) := Lib.hid ⟨by have := putT_len d2 (t0, t1, t2); have := HLD.out; omega, fun u hu => (putT_mem.1 hu).elim (fun e => by rw [e]; exact hsz) (fun m => I2.2.2.1.2 u m)⟩
      clear I1 I2 ht hcs hm m0 m1 m2 hts hl2 hsz hb1
      obtain ⟨k0, k1⟩ := K4.out.now.two
      refine wpAny_take (i := 0) (v := ?_) rfl (by kernel_rfl) (by kernel_rfl) (by kernel_rfl) (fun _ _ _ h => h) (Or.inl ⟨by kernel_rfl, ?_⟩) ?_
      rotate_left
      · intro w; go_simp; try with_reducible rfl
      refine wpAny_take (i := 2) (v := ?_) rfl (by kernel_rfl) (by kernel_rfl) (by kernel_rfl) (fun _ _ _ h => h) (Or.inl ⟨by kernel_rfl, ?_⟩) ?_
      rotate_left
      · intro w; go_simp; try with_reducible rfl
      refine wpAny_ready (rs := [1, 3]) (by kernel_rfl) (by simp) ?_
      refine AllReady.cons rfl (fun KK hK => ?_) (AllReady.cons rfl (fun KK hK => ?_) AllReady.nil)
      · go_simp
        refine hK _ _ ?_
        clear hK KK
        refine wpAny_ready (rs := [3]) (by kernel_rfl) (by simp) ?_
        refine AllReady.cons rfl (fun KK hK => ?_) AllReady.nil
        go_simp
        refine hK _ _ ?_
        clear hK KK
        refine wpAny_take (i := 4) (v := ?_) rfl (by kernel_rfl) (by kernel_rfl) (by kernel_rfl) (fun _ _ _ h => h) (Or.inl ⟨by kernel_rfl, ?_⟩) ?_
        rotate_left
        · intro w; go_simp; try with_reducible rfl
        refine wpAny_ready (rs := [5]) (by kernel_rfl) (by simp) ?_
        refine AllReady.cons rfl (fun KK hK => ?_) AllReady.nil
        go_simp
        refine hK _ _ ?_
        clear hK KK
        refine wpAny_ready (rs := [6]) (by kernel_rfl) (by simp) ?_
        refine AllReady.cons rfl (fun KK hK => ?_) AllReady.nil
        go_simp
        refine CP.out.mono ?_
        rintro e w5 ⟨v, rfl, ho, hb⟩
        obtain ⟨px, pn, pc, rfl⟩ := ownT_shapeN ho
        have q6 := hb.size
        clear k0 k1 c0 c1_ c2_ CP
        have B5 := Lib.hid (B4.out.trans (hb.mono B4.out.size))
        have X5 := Lib.hid (X4.out.next hb)
        have S5 := Lib.hid (S4.out.next hb)
        have K5 := Lib.hid (K4.out.next hb)
        clear B4 X4 S4 K4
        have P5 := Lib.hid (ownC_new ho hb)
        clear ho hb
        go_wp2_with fail
        refine wpAny_take (i := 7) (v := ?_) rfl (by kernel_rfl) (by kernel_rfl) (by kernel_rfl) (fun _ _ _ h => h) (Or.inl ⟨by kernel_rfl, ?_⟩) ?_
        rotate_left
        · intro w; go_simp; try with_reducible rfl
        refine wpAny_ready (rs := [8]) (by kernel_rfl) (by simp) ?_
        refine AllReady.cons rfl (fun KK hK => ?_) AllReady.nil
        obtain ⟨y0, y1⟩ := K5.out.now.two
        obtain ⟨f0, f1⟩ := K5.out.now.frees
        go_simp
        have TS := turnq1 w5 w2.heap.size 1 (.slice px pn pc)
        have X6 := Lib.hid (X5.out.step TS (.inl (by omega)))
        have S6 := Lib.hid (S5.out.step TS (.inl (by omega)))
        have K6 := Lib.hid (cellsq1 K5.out (.slice px pn pc))
        have P6 := Lib.hid (P5.out.step TS (.inr (by omega)))
        have B6 := Lib.hid (B5.out.trans (TS.below B5.out.size (by omega)))
        clear TS y0 y1 f0 f1
        clear B5 X5 S5 K5 P5
        refine hK _ _ ?_
        clear hK KK
        generalize hU : World.setCell _ _ _ = U1 at B6 X6 S6 K6 P6 ⊢
        clear hU
        refine wpAny_done (by kernel_rfl) ?_ _
        try simp only [Act.put, List.setIfInBounds_toArray, List.set_cons_zero, List.set_cons_succ, List.getElem_toArray, List.getElem_cons_zero, List.getElem_cons_succ]
        obtain ⟨k0, k1⟩ := K6.out.now.two
        obtain ⟨u0, u1⟩ := X6.out.now.two
        obtain ⟨f0, f1⟩ := X6.out.now.frees
        obtain ⟨r0, r1⟩ := (cellsq2 X6.out (.slice (some ⟨b1, off, none⟩) n1 c1) (.slice px pn pc)).now.two
        have TS := turnq2 U1 w.heap.size (.slice (some ⟨b1, off, none⟩) n1 c1) (.slice px pn pc)
        have S7 := Lib.hid (S6.out.step TS (.inr (by omega)))
        have P7 := Lib.hid (P6.out.step TS (.inr (by omega)))
        have B7 := Lib.hid (B6.out.trans (TS.below B6.out.size (Nat.le_refl _)))
        clear TS B6 S6 P6
        go_wp2_with fail
        refine bodyPost_ret (v := .agg #[.slice (some ⟨b1, off, none⟩) n1 c1, .slice px pn pc]) (by simp [results, Tryz.results29, go_sem, *]) rfl ⟨_, _, _, _, rfl, ⟨mine1 S7.out (by omega) HSD.out.1, ⟨_, _, by omega, P7.out, SP.out⟩⟩, B7.out⟩
      · go_simp
        refine hK _ _ ?_
        clear hK KK
        refine wpAny_take (i := 4) (v := ?_) rfl (by kernel_rfl) (by kernel_rfl) (by kernel_rfl) (fun _ _ _ h => h) (Or.inl ⟨by kernel_rfl, ?_⟩) ?_
        rotate_left
        · intro w; go_simp; try with_reducible rfl
        refine wpAny_ready (rs := [1, 5]) (by kernel_rfl) (by simp) ?_
        refine AllReady.cons rfl (fun KK hK => ?_) (AllReady.cons rfl (fun KK hK => ?_) AllReady.nil)
        · go_simp
          refine hK _ _ ?_
          clear hK KK
          refine wpAny_ready (rs := [5]) (by kernel_rfl) (by simp) ?_
          refine AllReady.cons rfl (fun KK hK => ?_) AllReady.nil
          go_simp
          refine hK _ _ ?_
          clear hK KK
          refine wpAny_ready (rs := [6]) (by kernel_rfl) (by simp) ?_
          refine AllReady.cons rfl (fun KK hK => ?_) AllReady.nil
          go_simp
          refine CP.out.mono ?_
          rintro e w5 ⟨v, rfl, ho, hb⟩
          obtain ⟨px, pn, pc, rfl⟩ := ownT_shapeN ho
          have q6 := hb.size
          clear k0 k1 c0 c1_ c2_ CP
          have B5 := Lib.hid (B4.out.trans (hb.mono B4.out.size))
          have X5 := Lib.hid (X4.out.next hb)
          have S5 := Lib.hid (S4.out.next hb)
          have K5 := Lib.hid (K4.out.next hb)
          clear B4 X4 S4 K4
          have P5 := Lib.hid (ownC_new ho hb)
          clear ho hb
          go_wp2_with fail
          refine wpAny_take (i := 7) (v := ?_) rfl (by kernel_rfl) (by kernel_rfl) (by kernel_rfl) (fun _ _ _ h => h) (Or.inl ⟨by kernel_rfl, ?_⟩) ?_
          rotate_left
          · intro w; go_simp; try with_reducible rfl
          refine wpAny_ready (rs := [8]) (by kernel_rfl) (by simp) ?_
          refine AllReady.cons rfl (fun KK hK => ?_) AllReady.nil
          obtain ⟨y0, y1⟩ := K5.out.now.two
          obtain ⟨f0, f1⟩ := K5.out.now.frees
          go_simp
          have TS := turnq1 w5 w2.heap.size 1 (.slice px pn pc)
          have X6 := Lib.hid (X5.out.step TS (.inl (by omega)))
          have S6 := Lib.hid (S5.out.step TS (.inl (by omega)))
          have K6 := Lib.hid (cellsq1 K5.out (.slice px pn pc))
          have P6 := Lib.hid (P5.out.step TS (.inr (by omega)))
          have B6 := Lib.hid (B5.out.trans (TS.below B5.out.size (by omega)))
          clear TS y0 y1 f0 f1
          clear B5 X5 S5 K5 P5
          refine hK _ _ ?_
          clear hK KK
          generalize hU : World.setCell _ _ _ = U1 at B6 X6 S6 K6 P6 ⊢
          clear hU
          refine wpAny_done (by kernel_rfl) ?_ _
          try simp only [Act.put, List.setIfInBounds_toArray, List.set_cons_zero, List.set_cons_succ, List.getElem_toArray, List.getElem_cons_zero, List.getElem_cons_succ]
          obtain ⟨k0, k1⟩ := K6.out.now.two
          obtain ⟨u0, u1⟩ := X6.out.now.two
          obtain ⟨f0, f1⟩ := X6.out.now.frees
          obtain ⟨r0, r1⟩ := (cellsq2 X6.out (.slice (some ⟨b1, off, none⟩) n1 c1) (.slice px pn pc)).now.two
          have TS := turnq2 U1 w.heap.size (.slice (some ⟨b1, off, none⟩) n1 c1) (.slice px pn pc)
          have S7 := Lib.hid (S6.out.step TS (.inr (by omega)))
          have P7 := Lib.hid (P6.out.step TS (.inr (by omega)))
          have B7 := Lib.hid (B6.out.trans (TS.below B6.out.size (Nat.le_refl _)))
          clear TS B6 S6 P6
          go_wp2_with fail
          refine bodyPost_ret (v := .agg #[.slice (some ⟨b1, off, none⟩) n1 c1, .slice px pn pc]) (by simp [results, Tryz.results29, go_sem, *]) rfl ⟨_, _, _, _, rfl, ⟨mine1 S7.out (by omega) HSD.out.1, ⟨_, _, by omega, P7.out, SP.out⟩⟩, B7.out⟩
        · go_simp
          refine hK _ _ ?_
          clear hK KK
          refine wpAny_ready (rs := [1]) (by kernel_rfl) (by simp) ?_
          refine AllReady.cons rfl (fun KK hK => ?_) AllReady.nil
          go_simp
          refine hK _ _ ?_
          clear hK KK
          refine wpAny_ready (rs := [6]) (by kernel_rfl) (by simp) ?_
          refine AllReady.cons rfl (fun KK hK => ?_) AllReady.nil
          go_simp
          refine CP.out.mono ?_
          rintro e w5 ⟨v, rfl, ho, hb⟩
          obtain ⟨px, pn, pc, rfl⟩ := ownT_shapeN ho
          have q6 := hb.size
          clear k0 k1 c0 c1_ c2_ CP
          have B5 := Lib.hid (B4.out.trans (hb.mono B4.out.size))
          have X5 := Lib.hid (X4.out.next hb)
          have S5 := Lib.hid (S4.out.next hb)
          have K5 := Lib.hid (K4.out.next hb)
          clear B4 X4 S4 K4
          have P5 := Lib.hid (ownC_new ho hb)
          clear ho hb
          go_wp2_with fail
          refine wpAny_take (i := 7) (v := ?_) rfl (by kernel_rfl) (by kernel_rfl) (by kernel_rfl) (fun _ _ _ h => h) (Or.inl ⟨by kernel_rfl, ?_⟩) ?_
          rotate_left
          · intro w; go_simp; try with_reducible rfl
          refine wpAny_ready (rs := [8]) (by kernel_rfl) (by simp) ?_
          refine AllReady.cons rfl (fun KK hK => ?_) AllReady.nil
          obtain ⟨y0, y1⟩ := K5.out.now.two
          obtain ⟨f0, f1⟩ := K5.out.now.frees
          go_simp
          have TS := turnq1 w5 w2.heap.size 1 (.slice px pn pc)
          have X6 := Lib.hid (X5.out.step TS (.inl (by omega)))
          have S6 := Lib.hid (S5.out.step TS (.inl (by omega)))
          have K6 := Lib.hid (cellsq1 K5.out (.slice px pn pc))
          have P6 := Lib.hid (P5.out.step TS (.inr (by omega)))
          have B6 := Lib.hid (B5.out.trans (TS.below B5.out.size (by omega)))
          clear TS y0 y1 f0 f1
          clear B5 X5 S5 K5 P5
          refine hK _ _ ?_
          clear hK KK
          generalize hU : World.setCell _ _ _ = U1 at B6 X6 S6 K6 P6 ⊢
          clear hU
          refine wpAny_done (by kernel_rfl) ?_ _
          try simp only [Act.put, List.setIfInBounds_toArray, List.set_cons_zero, List.set_cons_succ, List.getElem_toArray, List.getElem_cons_zero, List.getElem_cons_succ]
          obtain ⟨k0, k1⟩ := K6.out.now.two
          obtain ⟨u0, u1⟩ := X6.out.now.two
          obtain ⟨f0, f1⟩ := X6.out.now.frees
          obtain ⟨r0, r1⟩ := (cellsq2 X6.out (.slice (some ⟨b1, off, none⟩) n1 c1) (.slice px pn pc)).now.two
          have TS := turnq2 U1 w.heap.size (.slice (some ⟨b1, off, none⟩) n1 c1) (.slice px pn pc)
          have S7 := Lib.hid (S6.out.step TS (.inr (by omega)))
          have P7 := Lib.hid (P6.out.step TS (.inr (by omega)))
          have B7 := Lib.hid (B6.out.trans (TS.below B6.out.size (Nat.le_refl _)))
          clear TS B6 S6 P6
          go_wp2_with fail
          refine bodyPost_ret (v := .agg #[.slice (some ⟨b1, off, none⟩) n1 c1, .slice px pn pc]) (by simp [results, Tryz.results29, go_sem, *]) rfl ⟨_, _, _, _, rfl, ⟨mine1 S7.out (by omega) HSD.out.1, ⟨_, _, by omega, P7.out, SP.out⟩⟩, B7.out⟩
    · obtain rfl : n1 = 0 := by omega
      obtain ⟨k0, k1⟩ := K3.out.now.two
      obtain ⟨u0, u1⟩ := X3.out.now.two
      obtain ⟨f0, f1⟩ := X3.out.now.frees
      obtain ⟨r0, r1⟩ := (cellsq2 X3.out (.slice x1 0 c1) (.slice x2 n2 c2)).now.two
      have TS := turnq2 (w2.alloc (.cells #[.slice x1 0 c1, .slice x2 n2 c2] 26)) w.heap.size (.slice x1 0 c1) (.slice x2 n2 c2)
      have S4 := Lib.hid (S3.out.step TS (.inr (by omega)))
      have B4 := Lib.hid (B3.out.trans (TS.below B3.out.size (Nat.le_refl _)))
      clear TS B3 S3
      go_wp2_with fail
      refine bodyPost_ret (v := .agg #[.slice x1 0 c1, .slice x2 n2 c2]) (by simp [results, Tryz.results29, go_sem, *]) rfl ⟨_, _, _, _, rfl, ⟨mine1 S4.out (by omega) HSD.out.1, mine2 S4.out (by omega) HSD.out.2⟩, B4.out⟩
  · obtain ⟨k0, k1⟩ := K3.out.now.two
    obtain ⟨u0, u1⟩ := X3.out.now.two
    obtain ⟨f0, f1⟩ := X3.out.now.frees
    obtain ⟨r0, r1⟩ := (cellsq2 X3.out (.slice x1 n1 c1) (.slice x2 n2 c2)).now.two
    have TS := turnq2 (w2.alloc (.cells #[.slice x1 n1 c1, .slice x2 n2 c2] 26)) w.heap.size (.slice x1 n1 c1) (.slice x2 n2 c2)
    have S4 := Lib.hid (S3.out.step TS (.inr (by omega)))
    have B4 := Lib.hid (B3.out.trans (TS.below B3.out.size (Nat.le_refl _)))
    clear TS B3 S3
    go_wp2_with fail
    refine bodyPost_ret (v := .agg #[.slice x1 n1 c1, .slice x2 n2 c2]) (by simp [results, Tryz.results29, go_sem, *]) rfl ⟨_, _, _, _, rfl, ⟨mine1 S4.out (by omega) HSD.out.1, mine2 S4.out (by omega) HSD.out.2⟩, B4.out⟩
set_option maxHeartbeats 1600000 in
theorem drawInverse (w : World) (a : Option Addr) (len cap : Nat) (zs : List Int) (hrow : Frame.IsRow .u8 w a len cap zs) (hlen : len ≤ 9223372036854775807) :
    Calls Tryz.prog 8 #[.slice a len cap] w fun e w' => ∃ (v1 v2 : Value) (d1 d2 : List Tri3), e = .returned (.agg #[v1, v2]) ∧ (GotG w' v1 d1 ∧ GotG w' v2 d2) ∧ Below w.heap.size w w' := by
  obtain ⟨V, hV⟩ : ∃ W, w.alloc (.cells #[.slice none 0 0, .slice none 0 0] 26) = W := ⟨_, rfl⟩
  have z1 : V.heap.size = w.heap.size + 1 := by rw [← hV]; simp
  have BV : Hid (Below w.heap.size w V) := Lib.hid (by rw [← hV]; exact (Below.refl w.heap.size w).alloc (Nat.le_refl _) _)
  have XV : Hid (Holds w.heap.size (w.heap.size + 1) V (Cells w.heap.size #[.slice none 0 0, .slice none 0 0] 26)) := Lib.hid (by rw [← hV]; exact cells_new w _ _)
  have hrV := isRow_grown hrow (grown_of_below (BV.out.mono (Nat.le_refl _)))
  have HV := Lib.hid hV
  clear hV hrow
  go_enter Tryz.func8, Tryz.ntmps8
  go_wp2_with fail
  rw [HV.out]
  refine (drawPatchOk _ _ _ _ _ hrV hlen).mono ?_
  rintro e w1 ⟨v1, v2, d1, d2, rfl, ⟨h1, h2⟩, hb⟩
  clear hrV HV
  obtain ⟨x1, n1, e1, -⟩ := h1.got
  obtain ⟨x2, c2, rfl, -⟩ := h2.got
  subst e1
  have X1 := Lib.hid (XV.out.next hb)
  have B1 := Lib.hid (BV.out.trans (hb.mono BV.out.size))
  obtain ⟨u0, u1⟩ := X1.out.now.two
  obtain ⟨f0, f1⟩ := X1.out.now.frees
  obtain ⟨r0, r1⟩ := (cellsq2 X1.out (.slice x1 d1.length n1) (.slice x2 d2.length c2)).now.two
  have TS := turnq2 w1 w.heap.size (.slice x1 d1.length n1) (.slice x2 d2.length c2)
  have M1 := Lib.hid (h1.step TS (by omega)).got
  have M2 := Lib.hid (h2.step TS (by omega)).got
  have B2 := Lib.hid (B1.out.trans (TS.below B1.out.size (Nat.le_refl _)))
  clear TS h1 h2 hb X1 B1 BV XV z1
  go_wp2_with fail
  refine bodyPost_ret (v := .agg #[.slice x1 d1.length n1, .slice x2 d2.length c2]) (by simp [results, Tryz.results8, go_sem, *]) rfl ⟨_, _, _, _, rfl, ⟨M1.out, M2.out⟩, B2.out⟩
end Go.Proofs.YtofkploffcplhaaGreat
