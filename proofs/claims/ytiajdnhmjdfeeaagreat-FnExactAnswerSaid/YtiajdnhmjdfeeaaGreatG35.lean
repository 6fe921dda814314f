/- When a query is right: the program. -/
import Derived.Test.YtiajdnhmjdfeeaaGreatG18
import Derived.Test.YtiajdnhmjdfeeaaGreatG34
import Derived.Test.YtiajdnhmjdfeeaaGreatG16
import Derived.Test.YtiajdnhmjdfeeaaGreatG33
import Derived.Test.YtiajdnhmjdfeeaaGreatG30
import Derived.Test.YtiajdnhmjdfeeaaGreatG17
import Derived.Maps.AppendAt
namespace Go.Proofs.YtiajdnhmjdfeeaaGreat
open Go.RowKit Go.WideShapes Go.Maps
theorem upon_countQ {o : Oper} {a : Act} {w : World} {Q : Exit → Act → World → Prop} {K : Act → World → Prop} (m : Operand) (hop : o.op = Op.call { callee := Callee.builtin Builtin.len, args := #[m], argTypes := #[133] }) (b n : Nat) (ts : List Txt) (hm : a.eval m = .map (some b)) (h : OwnSetS w b n ts)
    (hK : K (a.put o.dst (.int .i64 ts.length)) w) : Oper.wp Tryz.prog o a w K Q := by
  obtain ⟨D, hown, hD⟩ := h
  unfold Oper.wp
  simp [execOp, hop, resolve, invoke, builtin, hm, hown.len Tryz.underlying133 o.type, Result.andThen]
  rw [hD.size]; exact hK
theorem putAllS_from {g : List Txt} : ∀ {l : List Txt} {u : Txt}, u ∈ putAllS g l → u ∈ g ∨ u ∈ l := fun h => putAllS_mem.1 h
theorem varsT_small {ts : List Tri3} (hs : Sm ts) : ∀ x ∈ (varsT ts).map bs, x.size ≤ maxLen := by
  intro x hx
  obtain ⟨u, hu, rfl⟩ := List.mem_map.1 hx
  unfold varsT at hu
  split at hu
  · rcases putAllS_mem.1 hu with h | h
    · simp at h
    · unfold varWords at h
      obtain ⟨t, ht, h⟩ := List.mem_flatMap.1 h
      unfold varsIn at h
      obtain ⟨h, _⟩ := List.mem_filter.1 h
      obtain ⟨s, hs', rfl⟩ := List.mem_map.1 h
      obtain ⟨h1, h2, h3⟩ := hs t ht
      rw [bs_size]
      have e : s.data.toList.length = s.size := rfl
      rw [e]
      unfold wordsT at hs'
      simp only [List.mem_cons, List.not_mem_nil, or_false] at hs'
      unfold maxLen
      rcases hs' with rfl | rfl | rfl <;> omega
  · simp at hu
theorem varsT_most (ts : List Tri3) : (varsT ts).length ≤ 12 := by
  unfold varsT
  split
  · rename_i h
    have h1 := putAllS_len (varWords ts) []
    have h2 := varWords_len ts
    have h3 : ts.length ≤ 4 := by unfold bgpOk at h; simp only [Bool.and_eq_true, decide_eq_true_eq] at h; exact h.1
    simp only [List.length_nil] at h1
    omega
  · simp
set_option maxRecDepth 100000 in
set_option maxHeartbeats 6400000 in
theorem implQueryOk (a0 a1 a2 : Option Addr) (n0 n1 n2 c0 c1 c2 : Nat) (vs : List ByteArray) (t1 t2 : List Tri3) (w : World) (h : IsQry w a0 a1 a2 n0 n1 n2 c0 c1 c2 vs t1 t2) (h1 : Sm t1) (h2 : Sm t2) (l0 : n0 ≤ 1048576) :
    Calls Tryz.prog 53 #[.agg #[.slice a0 n0 c0, .slice a1 n1 c1, .slice a2 n2 c2]] w fun e w' => e = .returned (.bool (queryOk vs t1 t2)) ∧ Below w.heap.size w w' := by
  have B0 := Lib.hid ((Below.refl w.heap.size w).alloc (Nat.le_refl _) (.cells #[.slice a0 n0 c0, .slice a1 n1 c1, .slice a2 n2 c2] 34))
  have X0 := Lib.hid (cells_new w #[.slice a0 n0 c0, .slice a1 n1 c1, .slice a2 n2 c2] 34)
  have I0 := Lib.hid (h.next ((Below.refl w.heap.size w).alloc (Nat.le_refl _) (.cells #[.slice a0 n0 c0, .slice a1 n1 c1, .slice a2 n2 c2] 34)))
  have HV := Lib.hid h.1.1.len
  have HT1 := Lib.hid h.2.1.len
  have HS1 := Lib.hid h1
  have HS2 := Lib.hid h2
  obtain ⟨q, hq⟩ : ∃ q, queryOk vs t1 t2 = q := ⟨_, rfl⟩
  have HQ := Lib.hid hq
  rw [hq]
  clear h h1 h2 hq
  by_cases hn1 : n1 = 0
  · have HF : Hid (q = false) := Lib.hid (by rw [← HQ.out]; unfold queryOk; rw [HT1.out, decide_eq_false (by omega)]; rfl)
    rw [HF.out]
    go_enter Tryz.func53, Tryz.ntmps53
    obtain ⟨v, u, z⟩ := X0.out.now.tre
    have hz : ((n1 : Int) == 0) = true := by rw [beq_iff_eq]; omega
    clear hn1
    go_wp2_with fail
    go_ret
    exact ⟨rfl, B0.out⟩
  have hz1 : ((n1 : Int) == 0) = false := by rw [beq_eq_false_iff_ne]; omega
  have C1 := fun (W : World) (hb : IsTris W a1 n1 c1 t1) => implBgpOk a1 n1 c1 t1 W hb HS1.out
  have C2 := fun (W : World) (hb : IsTris W a2 n2 c2 t2) => implBgpOk a2 n2 c2 t2 W hb HS2.out
  cases hb1 : bgpOk t1
  · rw [hb1] at C1
    have D1 := Lib.hid C1
    clear C1 C2
    have HF : Hid (q = false) := Lib.hid (by rw [← HQ.out]; unfold queryOk; rw [hb1, Bool.false_and, Bool.and_false])
    rw [HF.out]
    go_enter Tryz.func53, Tryz.ntmps53
    obtain ⟨v, u, z⟩ := X0.out.now.tre
    go_wp2_with fail
    refine (D1.out _ I0.out.2.1).mono ?_
    rintro e w1 ⟨rfl, hb⟩
    have B1 := Lib.hid (B0.out.trans (hb.mono B0.out.size))
    have X1 := Lib.hid (X0.out.next hb)
    have I1 := Lib.hid (I0.out.next hb)
    clear hb B0 X0 I0
    clear v u z
    go_wp2_with fail
    go_ret
    exact ⟨rfl, B1.out⟩
  rw [hb1] at C1
  cases hb2 : bgpOk t2
  · rw [hb2] at C2
    have D1 := Lib.hid C1
    have D2 := Lib.hid C2
    clear C1 C2
    have HF : Hid (q = false) := Lib.hid (by rw [← HQ.out]; unfold queryOk; rw [hb2, Bool.false_and, Bool.and_false, Bool.and_false])
    rw [HF.out]
    go_enter Tryz.func53, Tryz.ntmps53
    obtain ⟨v, u, z⟩ := X0.out.now.tre
    go_wp2_with fail
    refine (D1.out _ I0.out.2.1).mono ?_
    rintro e w1 ⟨rfl, hb⟩
    have B1 := Lib.hid (B0.out.trans (hb.mono B0.out.size))
    have X1 := Lib.hid (X0.out.next hb)
    have I1 := Lib.hid (I0.out.next hb)
    clear hb B0 X0 I0
    clear v u z
    obtain ⟨v, u, z⟩ := X1.out.now.tre
    go_wp2_with fail
    refine (D2.out _ I1.out.2.2).mono ?_
    rintro e w2 ⟨rfl, hb⟩
    have B2 := Lib.hid (B1.out.trans (hb.mono B1.out.size))
    have X2 := Lib.hid (X1.out.next hb)
    have I2 := Lib.hid (I1.out.next hb)
    clear hb B1 X1 I1
    clear v u z
    go_wp2_with fail
    go_ret
    exact ⟨rfl, B2.out⟩
  rw [hb2] at C2
  have D1 := Lib.hid C1
  have D2 := Lib.hid C2
  clear C1 C2
  by_cases hn0 : n0 < 1
  · have HF : Hid (q = false) := Lib.hid (by rw [← HQ.out]; unfold queryOk; rw [HV.out, decide_eq_false (show ¬ 1 ≤ n0 by omega)]; simp)
    rw [HF.out]
    have hl : (n0 : Int) < 1 := by omega
    go_enter Tryz.func53, Tryz.ntmps53
    obtain ⟨v, u, z⟩ := X0.out.now.tre
    go_wp2_with fail
    refine (D1.out _ I0.out.2.1).mono ?_
    rintro e w1 ⟨rfl, hb⟩
    have B1 := Lib.hid (B0.out.trans (hb.mono B0.out.size))
    have X1 := Lib.hid (X0.out.next hb)
    have I1 := Lib.hid (I0.out.next hb)
    clear hb B0 X0 I0
    clear v u z
    obtain ⟨v, u, z⟩ := X1.out.now.tre
    go_wp2_with fail
    refine (D2.out _ I1.out.2.2).mono ?_
    rintro e w2 ⟨rfl, hb⟩
    have B2 := Lib.hid (B1.out.trans (hb.mono B1.out.size))
    have X2 := Lib.hid (X1.out.next hb)
    have I2 := Lib.hid (I1.out.next hb)
    clear hb B1 X1 I1
    clear v u z
    obtain ⟨v, u, z⟩ := X2.out.now.tre
    go_wp2_with fail
    go_ret
    exact ⟨rfl, B2.out⟩
  have hl1 : ¬ (n0 : Int) < 1 := by omega
  by_cases hn4 : 4 < n0
  · have HF : Hid (q = false) := Lib.hid (by rw [← HQ.out]; unfold queryOk; rw [HV.out, decide_eq_false (show ¬ n0 ≤ 4 by omega)]; simp)
    rw [HF.out]
    have hl : (4 : Int) < n0 := by omega
    go_enter Tryz.func53, Tryz.ntmps53
    obtain ⟨v, u, z⟩ := X0.out.now.tre
    go_wp2_with fail
    refine (D1.out _ I0.out.2.1).mono ?_
    rintro e w1 ⟨rfl, hb⟩
    have B1 := Lib.hid (B0.out.trans (hb.mono B0.out.size))
    have X1 := Lib.hid (X0.out.next hb)
    have I1 := Lib.hid (I0.out.next hb)
    clear hb B0 X0 I0
    clear v u z
    obtain ⟨v, u, z⟩ := X1.out.now.tre
    go_wp2_with fail
    refine (D2.out _ I1.out.2.2).mono ?_
    rintro e w2 ⟨rfl, hb⟩
    have B2 := Lib.hid (B1.out.trans (hb.mono B1.out.size))
    have X2 := Lib.hid (X1.out.next hb)
    have I2 := Lib.hid (I1.out.next hb)
    clear hb B1 X1 I1
    clear v u z
    obtain ⟨v, u, z⟩ := X2.out.now.tre
    go_wp2_with fail
    go_ret
    exact ⟨rfl, B2.out⟩
  have hl4 : ¬ (4 : Int) < n0 := by omega
  have HE : Hid (q = (distS (txts vs) && subS (addAllS [] (allVars t1 ++ allVars t2)) (txts vs))) := Lib.hid (by rw [← HQ.out]; unfold queryOk; rw [HT1.out, HV.out, hb1, hb2, decide_eq_true (show 0 < n1 by omega), decide_eq_true (show 1 ≤ n0 by omega), decide_eq_true (show n0 ≤ 4 by omega)]; rfl)
  have HV1 := Lib.hid (varsT_is hb1)
  have HV2 := Lib.hid (varsT_is hb2)
  clear hb1 hb2
  have HTL : Hid ((txts vs).length = n0) := Lib.hid (by rw [txts_len, HV.out])
  go_enter Tryz.func53, Tryz.ntmps53
  obtain ⟨v, u, z⟩ := X0.out.now.tre
  go_wp2_with fail
  refine (D1.out _ I0.out.2.1).mono ?_
  rintro e w1 ⟨rfl, hb⟩
  have B1 := Lib.hid (B0.out.trans (hb.mono B0.out.size))
  have X1 := Lib.hid (X0.out.next hb)
  have I1 := Lib.hid (I0.out.next hb)
  clear hb B0 X0 I0
  clear v u z
  obtain ⟨v, u, z⟩ := X1.out.now.tre
  go_wp2_with fail
  refine (D2.out _ I1.out.2.2).mono ?_
  rintro e w2 ⟨rfl, hb⟩
  have B2 := Lib.hid (B1.out.trans (hb.mono B1.out.size))
  have X2 := Lib.hid (X1.out.next hb)
  have I2 := Lib.hid (I1.out.next hb)
  clear hb B1 X1 I1
  clear v u z
  obtain ⟨v, u, z⟩ := X2.out.now.tre
  cases hd : distS (txts vs)
  · have hc : (((addAllS [] (txts vs)).length : Int) == (n0 : Int)) = false := by unfold distS at hd; rw [HTL.out, decide_eq_false_iff_not] at hd; rw [beq_eq_false_iff_ne]; omega
    have HF : Hid (q = false) := Lib.hid (by rw [HE.out, hd, Bool.false_and])
    clear hd
    go_wp2_with fail
    clear v u z
    have hb : Below w2.heap.size w2 w2.drew := (Below.refl _ _).drew
    have B3 := Lib.hid B2.out.drew
    have X3 := Lib.hid (X2.out.next hb)
    have I3 := Lib.hid (I2.out.next hb)
    clear hb B2 X2 I2
    refine wp_region_held_drew (S := (fun w' => w'.cell? ⟨w.heap.size, 0, none⟩ = some (.slice a0 n0 c0) ∧ w'.cell? ⟨w.heap.size, 1, none⟩ = some (.slice a1 n1 c1) ∧ w'.cell? ⟨w.heap.size, 2, none⟩ = some (.slice a2 n2 c2))) (by kernel_rfl) ?_ (fun hHeld => ?_)
    · exact X3.out.now.tre
    refine wpAnyH_take (i := 0) (v := ?_) rfl (by kernel_rfl) (by kernel_rfl) (by kernel_rfl) (fun _ _ _ h => h) (Or.inl ⟨by kernel_rfl, ?_⟩) (by assumption) ?_
    rotate_left
    · intro w hSw; (try dsimp only at hSw); go_simp; try with_reducible rfl
    refine wpAnyH_take (i := 1) (v := ?_) rfl (by kernel_rfl) (by kernel_rfl) (by kernel_rfl) (fun _ _ _ h => h) (Or.inl ⟨by kernel_rfl, ?_⟩) (by assumption) ?_
    rotate_left
    · intro w hSw; (try dsimp only at hSw); go_simp; try with_reducible rfl
    refine wpAnyH_take (i := 5) (v := ?_) rfl (by kernel_rfl) (by kernel_rfl) (by kernel_rfl) (fun _ _ _ h => h) (Or.inl ⟨by kernel_rfl, ?_⟩) (by assumption) ?_
    rotate_left
    · intro w hSw; (try dsimp only at hSw); go_simp; try with_reducible rfl
    refine wpAnyH_take (i := 6) (v := ?_) rfl (by kernel_rfl) (by kernel_rfl) (by kernel_rfl) (fun _ _ _ h => h) (Or.inl ⟨by kernel_rfl, ?_⟩) (by assumption) ?_
    rotate_left
    · intro w hSw; (try dsimp only at hSw); go_simp; try with_reducible rfl
    refine wpAnyH_take (i := 7) (v := ?_) rfl (by kernel_rfl) (by kernel_rfl) (by kernel_rfl) (fun _ _ _ h => h) (Or.inl ⟨by kernel_rfl, ?_⟩) (by assumption) ?_
    rotate_left
    · intro w hSw; (try dsimp only at hSw); go_simp; try with_reducible rfl
    refine wpAnyH_ready (rs := [2]) (by kernel_rfl) (by simp) ?_
    refine AllReadyH.cons rfl (fun K hK => ?_) AllReadyH.nil
    go_simp
    clear hHeld
    refine hK.out _ _ ?_ (fun hHeld => ?_)
    · exact (X3.out.alloc _).now.tre
    clear hK K
    have hb := (Below.refl (w2.drew).heap.size (w2.drew)).alloc (Nat.le_refl _) (.cells #[.slice a0 n0 c0] 23)
    have B4 := Lib.hid (B3.out.alloc B3.out.size (.cells #[.slice a0 n0 c0] 23))
    have X4 := Lib.hid (X3.out.next hb)
    have I4 := Lib.hid (I3.out.next hb)
    clear hb B3 X3 I3
    have L4 := Lib.hid (cells_new w2.drew #[.slice a0 n0 c0] 23)
    refine wpAnyH_ready (rs := [3]) (by kernel_rfl) (by simp) ?_
    refine AllReadyH.cons rfl (fun K hK => ?_) AllReadyH.nil
    go_simp
    refine (implSetOfQ _ 1 [(a0, n0, c0, vs)] _ rfl (Nat.lt_of_lt_of_le (Nat.lt_succ_self _) L4.out.le) (by omega) (by rw [show allS [(a0, n0, c0, vs)] = txts vs from by simp [allS], HTL.out]; omega) (fun i x hx => by
      have hi := (List.getElem?_eq_some_iff.1 hx).1
      simp only [List.length_singleton] at hi
      obtain rfl : i = 0 := by omega
      simp at hx; subst hx
      exact ⟨L4.out.now.at 0, I4.out.1.1, I4.out.1.2⟩)).mono ?_
    rintro e w5 ⟨sb, sm, rfl, _, hsm, hset, hb⟩
    have B5 := Lib.hid (B4.out.trans (hb.mono B4.out.size))
    have X5 := Lib.hid (X4.out.next hb)
    have I5 := Lib.hid (I4.out.next hb)
    have L5 := Lib.hid (L4.out.next hb)
    clear hb B4 X4 I4 L4
    rw [show allS [(a0, n0, c0, vs)] = txts vs from by simp [allS]] at hset
    have M5 := Lib.hid hset
    clear hset
    clear L5
    go_wp2_with fail
    clear hHeld
    refine hK.out _ _ ?_ (fun hHeld => ?_)
    · exact X5.out.now.tre
    clear hK K
    refine wpAnyH_ready (rs := [4]) (by kernel_rfl) (by simp) ?_
    refine AllReadyH.cons rfl (fun K hK => ?_) AllReadyH.nil
    rw [if_pos (by rfl)]
    refine upon_countQ _ rfl sb _ _ rfl M5.out ?_
    clear hHeld
    refine hK.out _ _ ?_ (fun hHeld => ?_)
    · exact X5.out.now.tre
    clear hK K
    refine wpAnyH_take (i := 8) (v := ?_) rfl (by kernel_rfl) (by kernel_rfl) (by kernel_rfl) (fun _ _ _ h => h) (Or.inl ⟨by kernel_rfl, ?_⟩) (by assumption) ?_
    rotate_left
    · intro w hSw; (try dsimp only at hSw); go_simp; try with_reducible rfl
    refine wpAnyH_take (i := 9) (v := ?_) rfl (by kernel_rfl) (by kernel_rfl) (by kernel_rfl) (fun _ _ _ h => h) (Or.inl ⟨by kernel_rfl, ?_⟩) (by assumption) ?_
    rotate_left
    · intro w hSw; (try dsimp only at hSw); go_simp; try with_reducible rfl
    refine wpAnyH_take (i := 10) (v := undef) rfl (by kernel_rfl) (by kernel_rfl) (by kernel_rfl) (fun _ _ _ h => h) (Or.inr ⟨by kernel_rfl, rfl⟩) (by assumption) ?_
    refine wpAnyH_take (i := 11) (v := undef) rfl (by kernel_rfl) (by kernel_rfl) (by kernel_rfl) (fun _ _ _ h => h) (Or.inr ⟨by kernel_rfl, rfl⟩) (by assumption) ?_
    refine wpAnyH_take (i := 12) (v := undef) rfl (by kernel_rfl) (by kernel_rfl) (by kernel_rfl) (fun _ _ _ h => h) (Or.inr ⟨by kernel_rfl, rfl⟩) (by assumption) ?_
    refine wpAnyH_take (i := 13) (v := undef) rfl (by kernel_rfl) (by kernel_rfl) (by kernel_rfl) (fun _ _ _ h => h) (Or.inr ⟨by kernel_rfl, rfl⟩) (by assumption) ?_
    refine wpAnyH_take (i := 14) (v := undef) rfl (by kernel_rfl) (by kernel_rfl) (by kernel_rfl) (fun _ _ _ h => h) (Or.inr ⟨by kernel_rfl, rfl⟩) (by assumption) ?_
    refine wpAnyH_take (i := 15) (v := undef) rfl (by kernel_rfl) (by kernel_rfl) (by kernel_rfl) (fun _ _ _ h => h) (Or.inr ⟨by kernel_rfl, rfl⟩) (by assumption) ?_
    refine wpAnyH_take (i := 16) (v := undef) rfl (by kernel_rfl) (by kernel_rfl) (by kernel_rfl) (fun _ _ _ h => h) (Or.inr ⟨by kernel_rfl, rfl⟩) (by assumption) ?_
    refine wpAnyH_take (i := 17) (v := undef) rfl (by kernel_rfl) (by kernel_rfl) (by kernel_rfl) (fun _ _ _ h => h) (Or.inr ⟨by kernel_rfl, rfl⟩) (by assumption) ?_
    refine wpAnyH_take (i := 18) (v := undef) rfl (by kernel_rfl) (by kernel_rfl) (by kernel_rfl) (fun _ _ _ h => h) (Or.inr ⟨by kernel_rfl, rfl⟩) (by assumption) ?_
    refine wpAnyH_take (i := 19) (v := undef) rfl (by kernel_rfl) (by kernel_rfl) (by kernel_rfl) (fun _ _ _ h => h) (Or.inr ⟨by kernel_rfl, rfl⟩) (by assumption) ?_
    refine wpAnyH_take (i := 20) (v := undef) rfl (by kernel_rfl) (by kernel_rfl) (by kernel_rfl) (fun _ _ _ h => h) (Or.inr ⟨by kernel_rfl, rfl⟩) (by assumption) ?_
    refine wpAnyH_take (i := 21) (v := ?_) rfl (by kernel_rfl) (by kernel_rfl) (by kernel_rfl) (fun _ _ _ h => h) (Or.inl ⟨by kernel_rfl, ?_⟩) (by assumption) ?_
    rotate_left
    · intro w hSw; (try dsimp only at hSw); go_simp; try with_reducible rfl
    refine wpAnyH_take (i := 22) (v := ?_) rfl (by kernel_rfl) (by kernel_rfl) (by kernel_rfl) (fun _ _ _ h => h) (Or.inl ⟨by kernel_rfl, ?_⟩) (by assumption) ?_
    rotate_left
    · intro w hSw; (try dsimp only at hSw); go_simp; try with_reducible rfl
    refine wpAnyH_done (by kernel_rfl) ?_ _
    try simp only [Act.put, List.setIfInBounds_toArray, List.set_cons_zero, List.set_cons_succ, List.getElem_toArray, List.getElem_cons_zero, List.getElem_cons_succ]
    clear hHeld
    go_wp2_with fail
    go_ret
    exact ⟨by rw [HF.out]; rfl, B5.out⟩
  · have hc : (((addAllS [] (txts vs)).length : Int) == (n0 : Int)) = true := by unfold distS at hd; rw [HTL.out, decide_eq_true_eq] at hd; rw [hd]; simp
    have HF : Hid (q = subS (addAllS [] (allVars t1 ++ allVars t2)) (txts vs)) := Lib.hid (by rw [HE.out, hd, Bool.true_and])
    clear hd
    go_wp2_with fail
    clear v u z
    have hb : Below w2.heap.size w2 w2.drew := (Below.refl _ _).drew
    have B3 := Lib.hid B2.out.drew
    have X3 := Lib.hid (X2.out.next hb)
    have I3 := Lib.hid (I2.out.next hb)
    clear hb B2 X2 I2
    refine wp_region_held_drew (S := (fun w' => w'.cell? ⟨w.heap.size, 0, none⟩ = some (.slice a0 n0 c0) ∧ w'.cell? ⟨w.heap.size, 1, none⟩ = some (.slice a1 n1 c1) ∧ w'.cell? ⟨w.heap.size, 2, none⟩ = some (.slice a2 n2 c2))) (by kernel_rfl) ?_ (fun hHeld => ?_)
    · exact X3.out.now.tre
    refine wpAnyH_take (i := 0) (v := ?_) rfl (by kernel_rfl) (by kernel_rfl) (by kernel_rfl) (fun _ _ _ h => h) (Or.inl ⟨by kernel_rfl, ?_⟩) (by assumption) ?_
    rotate_left
    · intro w hSw; (try dsimp only at hSw); go_simp; try with_reducible rfl
    refine wpAnyH_take (i := 1) (v := ?_) rfl (by kernel_rfl) (by kernel_rfl) (by kernel_rfl) (fun _ _ _ h => h) (Or.inl ⟨by kernel_rfl, ?_⟩) (by assumption) ?_
    rotate_left
    · intro w hSw; (try dsimp only at hSw); go_simp; try with_reducible rfl
    refine wpAnyH_take (i := 5) (v := ?_) rfl (by kernel_rfl) (by kernel_rfl) (by kernel_rfl) (fun _ _ _ h => h) (Or.inl ⟨by kernel_rfl, ?_⟩) (by assumption) ?_
    rotate_left
    · intro w hSw; (try dsimp only at hSw); go_simp; try with_reducible rfl
    refine wpAnyH_take (i := 6) (v := ?_) rfl (by kernel_rfl) (by kernel_rfl) (by kernel_rfl) (fun _ _ _ h => h) (Or.inl ⟨by kernel_rfl, ?_⟩) (by assumption) ?_
    rotate_left
    · intro w hSw; (try dsimp only at hSw); go_simp; try with_reducible rfl
    refine wpAnyH_take (i := 7) (v := ?_) rfl (by kernel_rfl) (by kernel_rfl) (by kernel_rfl) (fun _ _ _ h => h) (Or.inl ⟨by kernel_rfl, ?_⟩) (by assumption) ?_
    rotate_left
    · intro w hSw; (try dsimp only at hSw); go_simp; try with_reducible rfl
    refine wpAnyH_ready (rs := [2]) (by kernel_rfl) (by simp) ?_
    refine AllReadyH.cons rfl (fun K hK => ?_) AllReadyH.nil
    go_simp
    clear hHeld
    refine hK.out _ _ ?_ (fun hHeld => ?_)
    · exact (X3.out.alloc _).now.tre
    clear hK K
    have hb := (Below.refl (w2.drew).heap.size (w2.drew)).alloc (Nat.le_refl _) (.cells #[.slice a0 n0 c0] 23)
    have B4 := Lib.hid (B3.out.alloc B3.out.size (.cells #[.slice a0 n0 c0] 23))
    have X4 := Lib.hid (X3.out.next hb)
    have I4 := Lib.hid (I3.out.next hb)
    clear hb B3 X3 I3
    have L4 := Lib.hid (cells_new w2.drew #[.slice a0 n0 c0] 23)
    refine wpAnyH_ready (rs := [3]) (by kernel_rfl) (by simp) ?_
    refine AllReadyH.cons rfl (fun K hK => ?_) AllReadyH.nil
    go_simp
    refine (implSetOfQ _ 1 [(a0, n0, c0, vs)] _ rfl (Nat.lt_of_lt_of_le (Nat.lt_succ_self _) L4.out.le) (by omega) (by rw [show allS [(a0, n0, c0, vs)] = txts vs from by simp [allS], HTL.out]; omega) (fun i x hx => by
      have hi := (List.getElem?_eq_some_iff.1 hx).1
      simp only [List.length_singleton] at hi
      obtain rfl : i = 0 := by omega
      simp at hx; subst hx
      exact ⟨L4.out.now.at 0, I4.out.1.1, I4.out.1.2⟩)).mono ?_
    rintro e w5 ⟨sb, sm, rfl, _, hsm, hset, hb⟩
    have B5 := Lib.hid (B4.out.trans (hb.mono B4.out.size))
    have X5 := Lib.hid (X4.out.next hb)
    have I5 := Lib.hid (I4.out.next hb)
    have L5 := Lib.hid (L4.out.next hb)
    clear hb B4 X4 I4 L4
    rw [show allS [(a0, n0, c0, vs)] = txts vs from by simp [allS]] at hset
    have M5 := Lib.hid hset
    clear hset
    clear L5
    go_wp2_with fail
    clear hHeld
    refine hK.out _ _ ?_ (fun hHeld => ?_)
    · exact X5.out.now.tre
    clear hK K
    refine wpAnyH_ready (rs := [4]) (by kernel_rfl) (by simp) ?_
    refine AllReadyH.cons rfl (fun K hK => ?_) AllReadyH.nil
    rw [if_pos (by rfl)]
    refine upon_countQ _ rfl sb _ _ rfl M5.out ?_
    clear hHeld
    refine hK.out _ _ ?_ (fun hHeld => ?_)
    · exact X5.out.now.tre
    clear hK K
    refine wpAnyH_take (i := 8) (v := ?_) rfl (by kernel_rfl) (by kernel_rfl) (by kernel_rfl) (fun _ _ _ h => h) (Or.inl ⟨by kernel_rfl, ?_⟩) (by assumption) ?_
    rotate_left
    · intro w hSw; (try dsimp only at hSw); go_simp; try with_reducible rfl
    refine wpAnyH_take (i := 9) (v := ?_) rfl (by kernel_rfl) (by kernel_rfl) (by kernel_rfl) (fun _ _ _ h => h) (Or.inl ⟨by kernel_rfl, ?_⟩) (by assumption) ?_
    rotate_left
    · intro w hSw; (try dsimp only at hSw); go_simp; try with_reducible rfl
    refine wpAnyH_take (i := 10) (v := ?_) rfl (by kernel_rfl) (by kernel_rfl) (by kernel_rfl) (fun _ _ _ h => h) (Or.inl ⟨by kernel_rfl, ?_⟩) (by assumption) ?_
    rotate_left
    · intro w hSw; (try dsimp only at hSw); go_simp; try with_reducible rfl
    refine wpAnyH_take (i := 11) (v := ?_) rfl (by kernel_rfl) (by kernel_rfl) (by kernel_rfl) (fun _ _ _ h => h) (Or.inl ⟨by kernel_rfl, ?_⟩) (by assumption) ?_
    rotate_left
    · intro w hSw; (try dsimp only at hSw); go_simp; try with_reducible rfl
    refine wpAnyH_take (i := 13) (v := ?_) rfl (by kernel_rfl) (by kernel_rfl) (by kernel_rfl) (fun _ _ _ h => h) (Or.inl ⟨by kernel_rfl, ?_⟩) (by assumption) ?_
    rotate_left
    · intro w hSw; (try dsimp only at hSw); go_simp; try with_reducible rfl
    refine wpAnyH_take (i := 14) (v := ?_) rfl (by kernel_rfl) (by kernel_rfl) (by kernel_rfl) (fun _ _ _ h => h) (Or.inl ⟨by kernel_rfl, ?_⟩) (by assumption) ?_
    rotate_left
    · intro w hSw; (try dsimp only at hSw); go_simp; try with_reducible rfl
    refine wpAnyH_take (i := 18) (v := ?_) rfl (by kernel_rfl) (by kernel_rfl) (by kernel_rfl) (fun _ _ _ h => h) (Or.inl ⟨by kernel_rfl, ?_⟩) (by assumption) ?_
    rotate_left
    · intro w hSw; (try dsimp only at hSw); go_simp; try with_reducible rfl
    refine wpAnyH_take (i := 19) (v := ?_) rfl (by kernel_rfl) (by kernel_rfl) (by kernel_rfl) (fun _ _ _ h => h) (Or.inl ⟨by kernel_rfl, ?_⟩) (by assumption) ?_
    rotate_left
    · intro w hSw; (try dsimp only at hSw); go_simp; try with_reducible rfl
    refine wpAnyH_ready (rs := [12]) (by kernel_rfl) (by simp) ?_
    refine AllReadyH.cons rfl (fun K hK => ?_) AllReadyH.nil
    go_simp
    refine (implVarsOf a1 n1 c1 t1 _ I5.out.2.1 HS1.out).mono ?_
    rintro e w6 ⟨va, rfl, ho, hb⟩
    have B6 := Lib.hid (B5.out.trans (hb.mono B5.out.size))
    have X6 := Lib.hid (X5.out.next hb)
    have I6 := Lib.hid (I5.out.next hb)
    have M6 := Lib.hid (M5.out.next hb)
    clear hb B5 X5 I5 M5
    obtain ⟨pa, pc, rfl, ip⟩ := ho.is
    obtain ⟨pn, hpn⟩ : ∃ n, ((varsT t1).map bs).length = n := ⟨_, rfl⟩
    rw [hpn] at ip ⊢
    rw [HV1.out] at ip
    have hpl : pn ≤ 12 := by rw [← hpn, List.length_map]; exact varsT_most t1
    clear ho hpn
    have P6 := Lib.hid ip
    clear ip
    go_wp2_with fail
    clear hHeld
    refine hK.out _ _ ?_ (fun hHeld => ?_)
    · exact X6.out.now.tre
    clear hK K
    refine wpAnyH_ready (rs := [15]) (by kernel_rfl) (by simp) ?_
    refine AllReadyH.cons rfl (fun K hK => ?_) AllReadyH.nil
    go_simp
    refine (implVarsOf a2 n2 c2 t2 _ I6.out.2.2 HS2.out).mono ?_
    rintro e w7 ⟨vb, rfl, ho, hb⟩
    have B7 := Lib.hid (B6.out.trans (hb.mono B6.out.size))
    have X7 := Lib.hid (X6.out.next hb)
    have I7 := Lib.hid (I6.out.next hb)
    have M7 := Lib.hid (M6.out.next hb)
    have P7 := Lib.hid (P6.out.next hb)
    clear hb B6 X6 I6 M6 P6
    obtain ⟨qa, qc, rfl, ir⟩ := ho.is
    obtain ⟨qn, hqn⟩ : ∃ n, ((varsT t2).map bs).length = n := ⟨_, rfl⟩
    rw [hqn] at ir ⊢
    rw [HV2.out] at ir
    have hql : qn ≤ 12 := by rw [← hqn, List.length_map]; exact varsT_most t2
    clear ho hqn
    have R7 := Lib.hid ir
    clear ir
    go_wp2_with fail
    clear hHeld
    refine hK.out _ _ ?_ (fun hHeld => ?_)
    · exact X7.out.now.tre
    clear hK K
    refine wpAnyH_ready (rs := [16]) (by kernel_rfl) (by simp) ?_
    refine AllReadyH.cons rfl (fun K hK => ?_) AllReadyH.nil
    go_simp
    clear hHeld
    refine hK.out _ _ ?_ (fun hHeld => ?_)
    · exact (X7.out.alloc _).now.tre
    clear hK K
    have hb := (Below.refl (w7).heap.size (w7)).alloc (Nat.le_refl _) (.cells #[.slice pa pn pc, .slice qa qn qc] 23)
    have B8 := Lib.hid (B7.out.alloc B7.out.size (.cells #[.slice pa pn pc, .slice qa qn qc] 23))
    have X8 := Lib.hid (X7.out.next hb)
    have I8 := Lib.hid (I7.out.next hb)
    have M8 := Lib.hid (M7.out.next hb)
    have P8 := Lib.hid (P7.out.next hb)
    have R8 := Lib.hid (R7.out.next hb)
    clear hb B7 X7 I7 M7 P7 R7
    have L8 := Lib.hid (cells_new w7 #[.slice pa pn pc, .slice qa qn qc] 23)
    refine wpAnyH_ready (rs := [17]) (by kernel_rfl) (by simp) ?_
    refine AllReadyH.cons rfl (fun K hK => ?_) AllReadyH.nil
    go_simp
    refine (implSetOfQ _ 2 [(pa, pn, pc, (allVars t1).map bs), (qa, qn, qc, (allVars t2).map bs)] _ rfl (Nat.lt_of_lt_of_le (Nat.lt_succ_self _) L8.out.le) (by omega) (by rw [show allS [(pa, pn, pc, (allVars t1).map bs), (qa, qn, qc, (allVars t2).map bs)] = allVars t1 ++ allVars t2 from by simp [allS, txts_bs], List.length_append, ← HV1.out, ← HV2.out]; have := varsT_most t1; have := varsT_most t2; omega) (fun i x hx => by
      have hi := (List.getElem?_eq_some_iff.1 hx).1
      simp only [List.length_cons, List.length_nil] at hi
      obtain rfl | rfl : i = 0 ∨ i = 1 := by omega
      · simp at hx; subst hx
        exact ⟨by simp, P8.out, by rw [← HV1.out]; exact varsT_small HS1.out⟩
      · simp at hx; subst hx
        exact ⟨by simp, R8.out, by rw [← HV2.out]; exact varsT_small HS2.out⟩)).mono ?_
    rintro e w9 ⟨sb2, sm2, rfl, _, hsm2, hset, hb⟩
    have B9 := Lib.hid (B8.out.trans (hb.mono B8.out.size))
    have X9 := Lib.hid (X8.out.next hb)
    have I9 := Lib.hid (I8.out.next hb)
    have M9 := Lib.hid (M8.out.next hb)
    have P9 := Lib.hid (P8.out.next hb)
    have R9 := Lib.hid (R8.out.next hb)
    have L9 := Lib.hid (L8.out.next hb)
    clear hb B8 X8 I8 M8 P8 R8 L8
    rw [show allS [(pa, pn, pc, (allVars t1).map bs), (qa, qn, qc, (allVars t2).map bs)] = allVars t1 ++ allVars t2 from by simp [allS, txts_bs]] at hset
    have N9 := Lib.hid hset
    clear hset
    clear L9
    go_wp2_with fail
    clear hHeld
    refine hK.out _ _ ?_ (fun hHeld => ?_)
    · exact X9.out.now.tre
    clear hK K
    refine wpAnyH_ready (rs := [20]) (by kernel_rfl) (by simp) ?_
    refine AllReadyH.cons rfl (fun K hK => ?_) AllReadyH.nil
    go_simp
    refine (implHasAllQ sb2 sm2 _ a0 n0 c0 vs _ N9.out I9.out.1.1 I9.out.1.2 l0).mono ?_
    rintro e w10 ⟨rfl, hb⟩
    have B10 := Lib.hid (B9.out.trans (hb.mono B9.out.size))
    have X10 := Lib.hid (X9.out.next hb)
    have I10 := Lib.hid (I9.out.next hb)
    have M10 := Lib.hid (M9.out.next hb)
    have P10 := Lib.hid (P9.out.next hb)
    have R10 := Lib.hid (R9.out.next hb)
    have N10 := Lib.hid (N9.out.next hb)
    clear hb B9 X9 I9 M9 P9 R9 N9
    go_wp2_with fail
    clear hHeld
    refine hK.out _ _ ?_ (fun hHeld => ?_)
    · exact X10.out.now.tre
    clear hK K
    refine wpAnyH_take (i := 21) (v := ?_) rfl (by kernel_rfl) (by kernel_rfl) (by kernel_rfl) (fun _ _ _ h => h) (Or.inl ⟨by kernel_rfl, ?_⟩) (by assumption) ?_
    rotate_left
    · intro w hSw; (try dsimp only at hSw); go_simp; try with_reducible rfl
    refine wpAnyH_take (i := 22) (v := ?_) rfl (by kernel_rfl) (by kernel_rfl) (by kernel_rfl) (fun _ _ _ h => h) (Or.inl ⟨by kernel_rfl, ?_⟩) (by assumption) ?_
    rotate_left
    · intro w hSw; (try dsimp only at hSw); go_simp; try with_reducible rfl
    refine wpAnyH_done (by kernel_rfl) ?_ _
    try simp only [Act.put, List.setIfInBounds_toArray, List.set_cons_zero, List.set_cons_succ, List.getElem_toArray, List.getElem_cons_zero, List.getElem_cons_succ]
    clear hHeld
    go_wp2_with fail
    go_ret
    exact ⟨by rw [HF.out]; rfl, B10.out⟩
end Go.Proofs.YtiajdnhmjdfeeaaGreat
/- A query's answer: the program. -/
namespace Go.Proofs.YtiajdnhmjdfeeaaGreat
open Go.RowKit Go.WideShapes
set_option maxRecDepth 100000 in
set_option maxHeartbeats 6400000 in
theorem implAnswer (a : Option Addr) (la ca : Nat) (gs : List Tri3) (a0 a1 a2 : Option Addr) (n0 n1 n2 c0 c1 c2 : Nat) (vs : List ByteArray) (t1 t2 : List Tri3) (w : World) (ha : IsTris w a la ca gs) (h : IsQry w a0 a1 a2 n0 n1 n2 c0 c1 c2 vs t1 t2) (hga : SmT gs) (s0 : ∀ t ∈ vs, t.size ≤ 1048576) (s1 : SmT t1) (s2 : SmT t2) (l0 : n0 ≤ 1048576) :
    Calls Tryz.prog 13 #[.slice a la ca, .agg #[.slice a0 n0 c0, .slice a1 n1 c1, .slice a2 n2 c2]] w fun e w' => ∃ v, e = .returned (.tuple #[v, .bool (ansOk gs vs t1 t2)]) ∧ OwnRs w.heap.size w' v (ansR gs vs t1 t2) ∧ Below w.heap.size w w' := by
  have B0 := Lib.hid ((Below.refl w.heap.size w).alloc (Nat.le_refl _) (.cells #[.slice a0 n0 c0, .slice a1 n1 c1, .slice a2 n2 c2] 34))
  have X0 := Lib.hid (cells_new w #[.slice a0 n0 c0, .slice a1 n1 c1, .slice a2 n2 c2] 34)
  have I0 := Lib.hid (h.next ((Below.refl w.heap.size w).alloc (Nat.le_refl _) (.cells #[.slice a0 n0 c0, .slice a1 n1 c1, .slice a2 n2 c2] 34)))
  have A0 := Lib.hid (ha.next ((Below.refl w.heap.size w).alloc (Nat.le_refl _) (.cells #[.slice a0 n0 c0, .slice a1 n1 c1, .slice a2 n2 c2] 34)))
  have HS1 := Lib.hid s1
  have HS2 := Lib.hid s2
  have HGA := Lib.hid hga
  have HS0 := Lib.hid s0
  have HT2 := Lib.hid h.2.2.len
  have HLA := Lib.hid ha.len
  have HT1 := Lib.hid h.2.1.len
  obtain ⟨bb, hbb⟩ : ∃ q, ansOk gs vs t1 t2 = q := ⟨_, rfl⟩
  obtain ⟨R, hR⟩ : ∃ q, ansR gs vs t1 t2 = q := ⟨_, rfl⟩
  have HBB := Lib.hid hbb
  have HRR := Lib.hid hR
  rw [hbb, hR]
  clear h ha s0 s1 s2 hga hbb hR
  cases hq : queryOk vs t1 t2
  · have HF : Hid (bb = false ∧ R = []) := Lib.hid (by rw [← HBB.out, ← HRR.out]; exact ans_none (ansRows_q hq))
    have Cq := fun (W : World) (hi : IsQry W a0 a1 a2 n0 n1 n2 c0 c1 c2 vs t1 t2) => implQueryOk a0 a1 a2 n0 n1 n2 c0 c1 c2 vs t1 t2 W hi HS1.out.sm HS2.out.sm l0
    rw [hq] at Cq
    have HQ := Lib.hid Cq
    clear Cq
    clear hq
    go_enter Tryz.func13, Tryz.ntmps13
    obtain ⟨xv0, xv1, xv2⟩ := X0.out.now.tre
    go_wp2_with fail
    refine (HQ.out _ I0.out).mono ?_
    rintro e w1 ⟨rfl, hb⟩
    clear xv0 xv1 xv2
    have B1 := Lib.hid (B0.out.trans (hb.mono B0.out.size))
    have X1 := Lib.hid (X0.out.next hb)
    have I1 := Lib.hid (I0.out.next hb)
    have A1 := Lib.hid (A0.out.next hb)
    clear hb B0 X0 I0 A0
    obtain ⟨xv0, xv1, xv2⟩ := X1.out.now.tre
    go_wp2_with fail
    go_ret2
    exact ⟨_, by rw [HF.out.1]; rfl, by rw [HF.out.2]; exact OwnRs.none _ _, B1.out⟩
  have Cq := fun (W : World) (hi : IsQry W a0 a1 a2 n0 n1 n2 c0 c1 c2 vs t1 t2) => implQueryOk a0 a1 a2 n0 n1 n2 c0 c1 c2 vs t1 t2 W hi HS1.out.sm HS2.out.sm l0
  rw [hq] at Cq
  have HQ := Lib.hid Cq
  clear Cq
  have HBG := Lib.hid (queryOk_bgp hq)
  obtain ⟨rs, hrs⟩ : ∃ q, solR gs t1 = q := ⟨_, rfl⟩
  have HRS := Lib.hid hrs
  have HSM : Hid (SmR rs) := Lib.hid (by rw [← hrs]; exact solR_sm HGA.out HS1.out)
  have Cs := fun (W : World) (hx : IsTris W a la ca gs) (hy : IsTris W a1 n1 c1 t1) => implSolutions a a1 la ca n1 c1 gs t1 W hx hy HGA.out HS1.out
  rw [hrs] at Cs
  clear hrs
  cases hs : solOk gs t1
  · have HF : Hid (bb = false ∧ R = []) := Lib.hid (by rw [← HBB.out, ← HRR.out]; exact ans_none (ansRows_s hs))
    rw [hs] at Cs
    have HS := Lib.hid Cs
    clear Cs hs hq
    go_enter Tryz.func13, Tryz.ntmps13
    obtain ⟨xv0, xv1, xv2⟩ := X0.out.now.tre
    go_wp2_with fail
    refine (HQ.out _ I0.out).mono ?_
    rintro e w1 ⟨rfl, hb⟩
    clear xv0 xv1 xv2
    have B1 := Lib.hid (B0.out.trans (hb.mono B0.out.size))
    have X1 := Lib.hid (X0.out.next hb)
    have I1 := Lib.hid (I0.out.next hb)
    have A1 := Lib.hid (A0.out.next hb)
    clear hb B0 X0 I0 A0
    obtain ⟨xv0, xv1, xv2⟩ := X1.out.now.tre
    go_wp2_with fail
    refine (HS.out _ A1.out I1.out.2.1).mono ?_
    rintro e w2 ⟨v, rfl, ho, hb⟩
    clear xv0 xv1 xv2
    have B2 := Lib.hid (B1.out.trans (hb.mono B1.out.size))
    have X2 := Lib.hid (X1.out.next hb)
    have I2 := Lib.hid (I1.out.next hb)
    have A2 := Lib.hid (A1.out.next hb)
    clear hb B1 X1 I1 A1
    clear ho
    obtain ⟨xv0, xv1, xv2⟩ := X2.out.now.tre
    go_wp2_with fail
    go_ret2
    exact ⟨_, by rw [HF.out.1]; rfl, by rw [HF.out.2]; exact OwnRs.none _ _, B2.out⟩
  rw [hs] at Cs
  have HS := Lib.hid Cs
  clear Cs
  by_cases hn2 : n2 = 0
  · have HF : Hid (bb = projOk rs vs ∧ R = projR rs vs) := Lib.hid (by rw [← HBB.out, ← HRR.out, ← HRS.out]; exact ans_some (ansRows_0 hq hs (by rw [HT2.out]; exact hn2)))
    have HP := Lib.hid (fun (x : Option Addr) (n c : Nat) (W : World) (hx : IsRows W x n c rs) (hy : IsStrs W a0 n0 c0 vs) => implProjected x a0 n c n0 c0 rs vs W hx hy HSM.out HS0.out l0)
    have hz : ¬ 0 < n2 := by omega
    clear hq hs hn2
    go_enter Tryz.func13, Tryz.ntmps13
    obtain ⟨xv0, xv1, xv2⟩ := X0.out.now.tre
    go_wp2_with fail
    refine (HQ.out _ I0.out).mono ?_
    rintro e w1 ⟨rfl, hb⟩
    clear xv0 xv1 xv2
    have B1 := Lib.hid (B0.out.trans (hb.mono B0.out.size))
    have X1 := Lib.hid (X0.out.next hb)
    have I1 := Lib.hid (I0.out.next hb)
    have A1 := Lib.hid (A0.out.next hb)
    clear hb B0 X0 I0 A0
    obtain ⟨xv0, xv1, xv2⟩ := X1.out.now.tre
    go_wp2_with fail
    refine (HS.out _ A1.out I1.out.2.1).mono ?_
    rintro e w2 ⟨v, rfl, ho, hb⟩
    clear xv0 xv1 xv2
    have B2 := Lib.hid (B1.out.trans (hb.mono B1.out.size))
    have X2 := Lib.hid (X1.out.next hb)
    have I2 := Lib.hid (I1.out.next hb)
    have A2 := Lib.hid (A1.out.next hb)
    clear hb B1 X1 I1 A1
    obtain ⟨rx, rc, rfl, ri⟩ := ho.is (fun r hr t ht => by have := HSM.out r hr t ht; unfold maxLen; omega)
    clear ho
    have Y2 := Lib.hid ri
    clear ri
    obtain ⟨xv0, xv1, xv2⟩ := X2.out.now.tre
    go_wp2_with fail
    refine (HP.out _ _ _ _ Y2.out I2.out.1.1).mono ?_
    rintro e wz ⟨v, rfl, ho, hb⟩
    clear xv0 xv1 xv2
    have BZ := Lib.hid (B2.out.trans (hb.mono B2.out.size))
    have HO := Lib.hid (ho.base B2.out.size)
    clear ho
    clear hb B2 X2 I2 A2 Y2
    go_wp2_with fail
    go_ret2
    exact ⟨_, by rw [HF.out.1]; rfl, by rw [HF.out.2]; exact HO.out, BZ.out⟩
  have hz : 0 < n2 := by omega
  have hn3 : ¬ t2.length = 0 := by rw [HT2.out]; exact hn2
  have Cx := fun (x : Option Addr) (n c : Nat) (W : World) (hx : IsTris W a la ca gs) (hr : IsRows W x n c rs) (hy : IsTris W a2 n2 c2 t2) => implExtended a x a2 la ca n c n2 c2 gs rs t2 W hx hr hy HGA.out HSM.out HS2.out
  cases hx : extOk gs rs t2
  · have HF : Hid (bb = false ∧ R = []) := Lib.hid (by rw [← HBB.out, ← HRR.out]; exact ans_none (ansRows_y hn3 (by rw [HRS.out]; exact hx)))
    rw [hx] at Cx
    have HX := Lib.hid Cx
    clear Cx hx hq hs hn2 hn3
    go_enter Tryz.func13, Tryz.ntmps13
    obtain ⟨xv0, xv1, xv2⟩ := X0.out.now.tre
    go_wp2_with fail
    refine (HQ.out _ I0.out).mono ?_
    rintro e w1 ⟨rfl, hb⟩
    clear xv0 xv1 xv2
    have B1 := Lib.hid (B0.out.trans (hb.mono B0.out.size))
    have X1 := Lib.hid (X0.out.next hb)
    have I1 := Lib.hid (I0.out.next hb)
    have A1 := Lib.hid (A0.out.next hb)
    clear hb B0 X0 I0 A0
    obtain ⟨xv0, xv1, xv2⟩ := X1.out.now.tre
    go_wp2_with fail
    refine (HS.out _ A1.out I1.out.2.1).mono ?_
    rintro e w2 ⟨v, rfl, ho, hb⟩
    clear xv0 xv1 xv2
    have B2 := Lib.hid (B1.out.trans (hb.mono B1.out.size))
    have X2 := Lib.hid (X1.out.next hb)
    have I2 := Lib.hid (I1.out.next hb)
    have A2 := Lib.hid (A1.out.next hb)
    clear hb B1 X1 I1 A1
    obtain ⟨rx, rc, rfl, ri⟩ := ho.is (fun r hr t ht => by have := HSM.out r hr t ht; unfold maxLen; omega)
    clear ho
    have Y2 := Lib.hid ri
    clear ri
    obtain ⟨xv0, xv1, xv2⟩ := X2.out.now.tre
    go_wp2_with fail
    refine (HX.out _ _ _ _ A2.out Y2.out I2.out.2.2).mono ?_
    rintro e w3 ⟨v, rfl, ho, hb⟩
    clear xv0 xv1 xv2
    have B3 := Lib.hid (B2.out.trans (hb.mono B2.out.size))
    have X3 := Lib.hid (X2.out.next hb)
    have I3 := Lib.hid (I2.out.next hb)
    have A3 := Lib.hid (A2.out.next hb)
    have Y3 := Lib.hid (Y2.out.next hb)
    clear hb B2 X2 I2 A2 Y2
    clear ho
    obtain ⟨xv0, xv1, xv2⟩ := X3.out.now.tre
    go_wp2_with fail
    go_ret2
    exact ⟨_, by rw [HF.out.1]; rfl, by rw [HF.out.2]; exact OwnRs.none _ _, B3.out⟩
  · obtain ⟨us, hus⟩ : ∃ q, extR gs rs t2 = q := ⟨_, rfl⟩
    have HSU : Hid (SmR us) := Lib.hid (by rw [← hus]; exact extR_sm HGA.out HSM.out HS2.out)
    have HF : Hid (bb = projOk us vs ∧ R = projR us vs) := Lib.hid (by rw [← HBB.out, ← HRR.out, ← hus, ← HRS.out]; exact ans_some (ansRows_x hq hs hn3 (by rw [HRS.out]; exact hx)))
    rw [hx, hus] at Cx
    have HX := Lib.hid Cx
    have HP := Lib.hid (fun (x : Option Addr) (n c : Nat) (W : World) (hx : IsRows W x n c us) (hy : IsStrs W a0 n0 c0 vs) => implProjected x a0 n c n0 c0 us vs W hx hy HSU.out HS0.out l0)
    clear Cx hx hq hs hn2 hn3 hus
    go_enter Tryz.func13, Tryz.ntmps13
    obtain ⟨xv0, xv1, xv2⟩ := X0.out.now.tre
    go_wp2_with fail
    refine (HQ.out _ I0.out).mono ?_
    rintro e w1 ⟨rfl, hb⟩
    clear xv0 xv1 xv2
    have B1 := Lib.hid (B0.out.trans (hb.mono B0.out.size))
    have X1 := Lib.hid (X0.out.next hb)
    have I1 := Lib.hid (I0.out.next hb)
    have A1 := Lib.hid (A0.out.next hb)
    clear hb B0 X0 I0 A0
    obtain ⟨xv0, xv1, xv2⟩ := X1.out.now.tre
    go_wp2_with fail
    refine (HS.out _ A1.out I1.out.2.1).mono ?_
    rintro e w2 ⟨v, rfl, ho, hb⟩
    clear xv0 xv1 xv2
    have B2 := Lib.hid (B1.out.trans (hb.mono B1.out.size))
    have X2 := Lib.hid (X1.out.next hb)
    have I2 := Lib.hid (I1.out.next hb)
    have A2 := Lib.hid (A1.out.next hb)
    clear hb B1 X1 I1 A1
    obtain ⟨rx, rc, rfl, ri⟩ := ho.is (fun r hr t ht => by have := HSM.out r hr t ht; unfold maxLen; omega)
    clear ho
    have Y2 := Lib.hid ri
    clear ri
    obtain ⟨xv0, xv1, xv2⟩ := X2.out.now.tre
    go_wp2_with fail
    refine (HX.out _ _ _ _ A2.out Y2.out I2.out.2.2).mono ?_
    rintro e w3 ⟨v, rfl, ho, hb⟩
    clear xv0 xv1 xv2
    have B3 := Lib.hid (B2.out.trans (hb.mono B2.out.size))
    have X3 := Lib.hid (X2.out.next hb)
    have I3 := Lib.hid (I2.out.next hb)
    have A3 := Lib.hid (A2.out.next hb)
    have Y3 := Lib.hid (Y2.out.next hb)
    clear hb B2 X2 I2 A2 Y2
    clear Y3
    obtain ⟨rx, rc, rfl, ri⟩ := ho.is (fun r hr t ht => by have := HSU.out r hr t ht; unfold maxLen; omega)
    clear ho
    have Y3 := Lib.hid ri
    clear ri
    obtain ⟨xv0, xv1, xv2⟩ := X3.out.now.tre
    go_wp2_with fail
    refine (HP.out _ _ _ _ Y3.out I3.out.1.1).mono ?_
    rintro e wz ⟨v, rfl, ho, hb⟩
    clear xv0 xv1 xv2
    have BZ := Lib.hid (B3.out.trans (hb.mono B3.out.size))
    have HO := Lib.hid (ho.base B3.out.size)
    clear ho
    clear hb B3 X3 I3 A3 Y3
    go_wp2_with fail
    go_ret2
    exact ⟨_, by rw [HF.out.1]; rfl, by rw [HF.out.2]; exact HO.out, BZ.out⟩
end Go.Proofs.YtiajdnhmjdfeeaaGreat
/- When a query is right: the specification. -/
namespace Go.Proofs.YtiajdnhmjdfeeaaGreat
open Go.RowKit Go.WideShapes Go.Maps
theorem ownS_isQ {B : Nat} {w : World} {v : Value} {ts : List ByteArray} {n : Nat} (h : OwnS B w v ts) (l : ts.length = n) : ∃ a c, v = .slice a n c ∧ IsStrs w a n c ts := by
  subst l; exact h.is
theorem isStrs_take {w : World} {b off n c : Nat} {vs : List ByteArray} {k : Nat} (h : IsStrs w (some ⟨b, off, none⟩) n c vs) (hk : k ≤ n) : IsStrs w (some ⟨b, off, none⟩) k c (vs.take k) := by
  rcases h with ⟨h, _⟩ | ⟨x, e, h1, h2, h3, h4⟩
  · cases h
  · cases e
    refine .inr ⟨_, rfl, by omega, h2, by rw [List.length_take]; omega, fun i t hi => h4 i t ?_⟩
    have hik : i < k := by have := (List.getElem?_eq_some_iff.1 hi).1; rw [List.length_take] at this; omega
    rw [List.getElem?_take_of_lt hik] at hi
    exact hi
theorem flat_app (a b : List Tri3) : flat (a ++ b) = flat a ++ flat b := by unfold flat; rw [List.flatMap_append]
/-- 'append(s, x...)' of triples at a step of a region: s is the call's own, x anything. -/
theorem upon_moreT {o : Oper} {a : Act} {w : World} {Q : Exit → Act → World → Prop} {K : Act → World → Prop} (s x : Operand)
    (ho : o.op = .call { callee := .builtin .append, args := #[s, x], argTypes := #[31, 31] }) {B : Nat} {v : Value} {ls : List Tri3} (hs : a.eval s = v) (hA : OwnT B w v ls) (hB : B ≤ w.heap.size) (hll : ls.length ≤ 1048576)
    (ad : Option Addr) (n c : Nat) (ts : List Tri3) (hx : a.eval x = .slice ad n c) (h : IsTris w ad n c ts) (hl : n ≤ 1048576)
    (k : ∀ (v' : Value) (w' : World), OwnT B w' v' (ls ++ ts) → w.grownBy w' v.ownBlock → K (a.put o.dst v') w') : Oper.wp Tryz.prog o a w K Q := by
  obtain ⟨i0, hi, hz0, hz1, hz2⟩ := info_parts infoTri
  rcases h with ⟨rfl, rfl, rfl, rfl⟩ | ⟨y, rfl, h1, h2, h3, h4⟩
  · have hrun := run_append_owned_none (P := Tryz.prog) (w := w) B 31 o.type 65 i0 3 Tryz.underlying31 hi _ _ _ hA
    unfold Oper.wp
    simp [execOp, ho, resolve, invoke, builtin, hs, hx, hrun, Result.andThen]
    exact k _ _ (by rw [List.append_nil]; exact hA) (World.grownBy.refl _ _)
  · have Fc : ∀ (j : Nat) (u : Value), (flat ts)[j]? = some u → w.cell? (y.add j) = some u := by
      intro j u hu
      have hj : j < ts.length * 3 := by rw [← flat_len]; exact (List.getElem?_eq_some_iff.1 hu).1
      have hk : j / 3 < ts.length := by omega
      obtain ⟨f0, f1, f2⟩ := flat_at ts (j / 3) _ (List.getElem?_eq_getElem hk)
      obtain ⟨c0, c1, c2, _⟩ := h4 (j / 3) _ (List.getElem?_eq_getElem hk)
      obtain e | e | e : j = 3 * (j / 3) ∨ j = 3 * (j / 3) + 1 ∨ j = 3 * (j / 3) + 2 := by omega
      · rw [e] at hu ⊢; rw [Nat.mul_comm] at hu; rw [c0, ← hu, f0]
      · rw [e] at hu ⊢; rw [Nat.mul_comm] at hu; rw [c1, ← hu, f1]
      · rw [e] at hu ⊢; rw [Nat.mul_comm] at hu; rw [c2, ← hu, f2]
    obtain ⟨v', w', hr, ho1, hg1, _, hat⟩ := run_append_own_at (P := Tryz.prog) (w := w) B 31 o.type 65 i0 (.agg #[.string ⟨#[]⟩, .string ⟨#[]⟩, .string ⟨#[]⟩]) 3 48 Tryz.underlying31 hi hz0 hz1 hz2 rfl (by decide) _ _ _ hA y n c (flat ts) (by rw [flat_len, h3]) Fc (fun v hv => by unfold flat at hv; obtain ⟨t, _, h⟩ := List.mem_flatMap.1 hv; simp at h; rcases h with rfl | rfl | rfl <;> rfl) (by unfold maxLen; omega) (by omega) hB
    have O1 : OwnT B w' v' (ls ++ ts) := by unfold OwnT; rw [List.length_append, h3, flat_app]; exact ho1
    unfold Oper.wp
    simp [execOp, ho, resolve, invoke, builtin, hs, hx, hr, Result.andThen]
    exact k _ _ O1 hg1
theorem allVars_small {ts : List Tri3} (hs : Sm ts) : ∀ x ∈ (allVars ts).map bs, x.size ≤ maxLen := by
  intro x hx
  obtain ⟨u, hu, rfl⟩ := List.mem_map.1 hx
  unfold allVars at hu
  rcases putAllS_mem.1 hu with h | h
  · simp at h
  · unfold varWords at h
    obtain ⟨t, ht, h⟩ := List.mem_flatMap.1 h
    unfold varsIn at h
    obtain ⟨h, _⟩ := List.mem_filter.1 h
    obtain ⟨s, hs', rfl⟩ := List.mem_map.1 h
    obtain ⟨h1, h2, h3⟩ := hs t ht
    rw [bs_size]
    have e : s.data.toList.length = s.size := rfl
    rw [e]
    unfold wordsT at hs'
    simp only [List.mem_cons, List.not_mem_nil, or_false] at hs'
    unfold maxLen
    rcases hs' with rfl | rfl | rfl <;> omega
theorem specIn4 (n : Nat) (w : World) : Calls Tryz.prog 99 #[.int .i64 n, .int .i64 1, .int .i64 4] w fun e w' => e = .returned (.bool (decide (1 ≤ n) && decide (n ≤ 4))) ∧ Below w.heap.size w w' := by
  by_cases h1 : 1 ≤ n
  · have i1 : (1 : Int) ≤ n := by omega
    rw [decide_eq_true h1, Bool.true_and]
    by_cases h2 : n ≤ 4
    · have i2 : (n : Int) ≤ 4 := by omega
      rw [decide_eq_true h2]
      go_enter Tryz.func99, Tryz.ntmps99
      go_wp2_with fail
      go_ret
      exact ⟨rfl, Below.refl _ _⟩
    · have i2 : ¬ (n : Int) ≤ 4 := by omega
      rw [decide_eq_false h2]
      go_enter Tryz.func99, Tryz.ntmps99
      go_wp2_with fail
      go_ret
      exact ⟨rfl, Below.refl _ _⟩
  · have i1 : ¬ (1 : Int) ≤ n := by omega
    rw [decide_eq_false h1, Bool.false_and]
    go_enter Tryz.func99, Tryz.ntmps99
    go_wp2_with fail
    go_ret
    exact ⟨rfl, Below.refl _ _⟩
set_option maxRecDepth 100000 in
set_option maxHeartbeats 6400000 in
theorem specQueryOk (a0 a1 a2 : Option Addr) (n0 n1 n2 c0 c1 c2 : Nat) (vs : List ByteArray) (t1 t2 : List Tri3) (w : World) (h : IsQry w a0 a1 a2 n0 n1 n2 c0 c1 c2 vs t1 t2) (h1 : Sm t1) (h2 : Sm t2) (l0 : n0 ≤ 1048576) :
    Calls Tryz.prog 47 #[.agg #[.slice a0 n0 c0, .slice a1 n1 c1, .slice a2 n2 c2]] w fun e w' => e = .returned (.bool (queryOk vs t1 t2)) ∧ Below w.heap.size w w' := by
  have B0 := Lib.hid ((Below.refl w.heap.size w).alloc (Nat.le_refl _) (.cells #[.slice a0 n0 c0, .slice a1 n1 c1, .slice a2 n2 c2] 34))
  have X0 := Lib.hid (cells_new w #[.slice a0 n0 c0, .slice a1 n1 c1, .slice a2 n2 c2] 34)
  have I0 := Lib.hid (h.next ((Below.refl w.heap.size w).alloc (Nat.le_refl _) (.cells #[.slice a0 n0 c0, .slice a1 n1 c1, .slice a2 n2 c2] 34)))
  have HV := Lib.hid h.1.1.len
  have HT1 := Lib.hid h.2.1.len
  have HT2 := Lib.hid h.2.2.len
  have HS1 := Lib.hid h1
  have HS2 := Lib.hid h2
  obtain ⟨q, hq⟩ : ∃ q, queryOk vs t1 t2 = q := ⟨_, rfl⟩
  have HQ := Lib.hid hq
  rw [hq]
  clear h h1 h2 hq
  have C1 := fun (W : World) (hb : IsTris W a1 n1 c1 t1) => specBgpOk a1 n1 c1 t1 W hb HS1.out
  have C2 := fun (W : World) (hb : IsTris W a2 n2 c2 t2) => specBgpOk a2 n2 c2 t2 W hb HS2.out
  cases hb1 : bgpOk t1
  · rw [hb1] at C1
    have D1 := Lib.hid C1
    clear C1 C2
    have HF : Hid (q = false) := Lib.hid (by rw [← HQ.out]; unfold queryOk; rw [hb1, Bool.false_and, Bool.and_false])
    rw [HF.out]
    go_enter Tryz.func47, Tryz.ntmps47
    obtain ⟨v, u, z⟩ := X0.out.now.tre
    go_wp2_with fail
    refine (D1.out _ I0.out.2.1).mono ?_
    rintro e w1 ⟨rfl, hb⟩
    have B1 := Lib.hid (B0.out.trans (hb.mono B0.out.size))
    have X1 := Lib.hid (X0.out.next hb)
    have I1 := Lib.hid (I0.out.next hb)
    clear hb B0 X0 I0
    clear v u z
    go_wp2_with fail
    go_ret
    exact ⟨rfl, B1.out⟩
  rw [hb1] at C1
  cases hb2 : bgpOk t2
  · rw [hb2] at C2
    have D1 := Lib.hid C1
    have D2 := Lib.hid C2
    clear C1 C2
    have HF : Hid (q = false) := Lib.hid (by rw [← HQ.out]; unfold queryOk; rw [hb2, Bool.false_and, Bool.and_false, Bool.and_false])
    rw [HF.out]
    go_enter Tryz.func47, Tryz.ntmps47
    obtain ⟨v, u, z⟩ := X0.out.now.tre
    go_wp2_with fail
    refine (D1.out _ I0.out.2.1).mono ?_
    rintro e w1 ⟨rfl, hb⟩
    have B1 := Lib.hid (B0.out.trans (hb.mono B0.out.size))
    have X1 := Lib.hid (X0.out.next hb)
    have I1 := Lib.hid (I0.out.next hb)
    clear hb B0 X0 I0
    clear v u z
    obtain ⟨v, u, z⟩ := X1.out.now.tre
    go_wp2_with fail
    refine (D2.out _ I1.out.2.2).mono ?_
    rintro e w2 ⟨rfl, hb⟩
    have B2 := Lib.hid (B1.out.trans (hb.mono B1.out.size))
    have X2 := Lib.hid (X1.out.next hb)
    have I2 := Lib.hid (I1.out.next hb)
    clear hb B1 X1 I1
    clear v u z
    go_wp2_with fail
    go_ret
    exact ⟨rfl, B2.out⟩
  rw [hb2] at C2
  have D1 := Lib.hid C1
  have D2 := Lib.hid C2
  clear C1 C2
  by_cases hn1 : n1 = 0
  · have HF : Hid (q = false) := Lib.hid (by rw [← HQ.out]; unfold queryOk; rw [HT1.out, decide_eq_false (by omega)]; rfl)
    rw [HF.out]
    have hz : ((n1 : Int) == 0) = true := by rw [beq_iff_eq]; omega
    clear hn1
    go_enter Tryz.func47, Tryz.ntmps47
    obtain ⟨v, u, z⟩ := X0.out.now.tre
    go_wp2_with fail
    refine (D1.out _ I0.out.2.1).mono ?_
    rintro e w1 ⟨rfl, hb⟩
    have B1 := Lib.hid (B0.out.trans (hb.mono B0.out.size))
    have X1 := Lib.hid (X0.out.next hb)
    have I1 := Lib.hid (I0.out.next hb)
    clear hb B0 X0 I0
    clear v u z
    obtain ⟨v, u, z⟩ := X1.out.now.tre
    go_wp2_with fail
    refine (D2.out _ I1.out.2.2).mono ?_
    rintro e w2 ⟨rfl, hb⟩
    have B2 := Lib.hid (B1.out.trans (hb.mono B1.out.size))
    have X2 := Lib.hid (X1.out.next hb)
    have I2 := Lib.hid (I1.out.next hb)
    clear hb B1 X1 I1
    clear v u z
    obtain ⟨v, u, z⟩ := X2.out.now.tre
    go_wp2_with fail
    go_ret
    exact ⟨rfl, B2.out⟩
  have hz1 : ((n1 : Int) == 0) = false := by rw [beq_eq_false_iff_ne]; omega
  cases hin : (decide (1 ≤ n0) && decide (n0 ≤ 4))
  · have HF : Hid (q = false) := Lib.hid (by
      rw [← HQ.out]; unfold queryOk; rw [HV.out]
      rw [Bool.eq_false_iff]; intro hc
      simp only [Bool.and_eq_true] at hc
      rw [hc.2.2.2.1, hc.2.2.2.2.1] at hin
      cases hin)
    rw [HF.out]
    have SI := Lib.hid (fun W => specIn4 n0 W)
    rw [hin] at SI
    clear hin
    go_enter Tryz.func47, Tryz.ntmps47
    obtain ⟨v, u, z⟩ := X0.out.now.tre
    go_wp2_with fail
    refine (D1.out _ I0.out.2.1).mono ?_
    rintro e w1 ⟨rfl, hb⟩
    have B1 := Lib.hid (B0.out.trans (hb.mono B0.out.size))
    have X1 := Lib.hid (X0.out.next hb)
    have I1 := Lib.hid (I0.out.next hb)
    clear hb B0 X0 I0
    clear v u z
    obtain ⟨v, u, z⟩ := X1.out.now.tre
    go_wp2_with fail
    refine (D2.out _ I1.out.2.2).mono ?_
    rintro e w2 ⟨rfl, hb⟩
    have B2 := Lib.hid (B1.out.trans (hb.mono B1.out.size))
    have X2 := Lib.hid (X1.out.next hb)
    have I2 := Lib.hid (I1.out.next hb)
    clear hb B1 X1 I1
    clear v u z
    obtain ⟨v, u, z⟩ := X2.out.now.tre
    go_wp2_with fail
    refine (SI.out _).mono ?_
    rintro e w3 ⟨rfl, hb⟩
    have B3 := Lib.hid (B2.out.trans (hb.mono B2.out.size))
    have X3 := Lib.hid (X2.out.next hb)
    have I3 := Lib.hid (I2.out.next hb)
    clear hb B2 X2 I2
    clear v u z
    go_wp2_with fail
    go_ret
    exact ⟨rfl, B3.out⟩
  have SI := Lib.hid (fun W => specIn4 n0 W)
  rw [hin] at SI
  have hn04 : 1 ≤ n0 ∧ n0 ≤ 4 := by simpa using hin
  have HIFF : Hid (q = true ↔ (txts vs).Nodup ∧ ∀ v ∈ txts vs, v ∈ allVars (t1 ++ t2)) := Lib.hid (by rw [← HQ.out]; exact queryOk_is (by rw [HT1.out]; omega) hb1 hb2 (by rw [HV.out]; exact hn04.1) (by rw [HV.out]; exact hn04.2))
  have hl1 : n1 ≤ 4 := by unfold bgpOk at hb1; simp only [Bool.and_eq_true, decide_eq_true_eq] at hb1; have := hb1.1; have := HT1.out; omega
  have hl2 : n2 ≤ 4 := by unfold bgpOk at hb2; simp only [Bool.and_eq_true, decide_eq_true_eq] at hb2; have := hb2.1; have := HT2.out; omega
  have HSA : Hid (Sm (t1 ++ t2)) := Lib.hid (fun t ht => by rcases List.mem_append.1 ht with h | h; exact HS1.out t h; exact HS2.out t h)
  obtain ⟨hn01, hn04⟩ := hn04
  clear hb1 hb2 hin
  go_enter Tryz.func47, Tryz.ntmps47
  obtain ⟨v, u, z⟩ := X0.out.now.tre
  go_wp2_with fail
  refine (D1.out _ I0.out.2.1).mono ?_
  rintro e w1 ⟨rfl, hb⟩
  have B1 := Lib.hid (B0.out.trans (hb.mono B0.out.size))
  have X1 := Lib.hid (X0.out.next hb)
  have I1 := Lib.hid (I0.out.next hb)
  clear hb B0 X0 I0
  clear v u z
  obtain ⟨v, u, z⟩ := X1.out.now.tre
  go_wp2_with fail
  refine (D2.out _ I1.out.2.2).mono ?_
  rintro e w2 ⟨rfl, hb⟩
  have B2 := Lib.hid (B1.out.trans (hb.mono B1.out.size))
  have X2 := Lib.hid (X1.out.next hb)
  have I2 := Lib.hid (I1.out.next hb)
  clear hb B1 X1 I1
  clear v u z
  obtain ⟨v, u, z⟩ := X2.out.now.tre
  go_wp2_with fail
  refine (SI.out _).mono ?_
  rintro e w3 ⟨rfl, hb⟩
  have B3 := Lib.hid (B2.out.trans (hb.mono B2.out.size))
  have X3 := Lib.hid (X2.out.next hb)
  have I3 := Lib.hid (I2.out.next hb)
  clear hb B2 X2 I2
  clear v u z SI
  obtain ⟨v, u, z⟩ := X3.out.now.tre
  have HI := Lib.hid I3.out
  go_wp2_with fail
  clear v u z
  have hb : Below w3.heap.size w3 w3.drew := (Below.refl _ _).drew
  have B4 := Lib.hid B3.out.drew
  have X4 := Lib.hid (X3.out.next hb)
  have I4 := Lib.hid (I3.out.next hb)
  clear hb B3 X3 I3
  have HB0 := Lib.hid B4.out
  have HI0 := Lib.hid I4.out
  refine wp_region_held_drew (S := (fun w' => w'.cell? ⟨w.heap.size, 0, none⟩ = some (.slice a0 n0 c0) ∧ w'.cell? ⟨w.heap.size, 1, none⟩ = some (.slice a1 n1 c1) ∧ w'.cell? ⟨w.heap.size, 2, none⟩ = some (.slice a2 n2 c2))) (by kernel_rfl) ?_ (fun hHeld => ?_)
  · exact X4.out.now.tre
  generalize World.drew w3 = W0 at B4 X4 I4 HB0 HI0 hHeld ⊢
  refine wpAnyH_take (i := 1) (v := ?_) rfl (by kernel_rfl) (by kernel_rfl) (by kernel_rfl) (fun _ _ _ h => h) (Or.inl ⟨by kernel_rfl, ?_⟩) (by assumption) ?_
  rotate_left
  · intro w hSw; (try dsimp only at hSw); go_simp; try with_reducible rfl
  refine wpAnyH_take (i := 2) (v := ?_) rfl (by kernel_rfl) (by kernel_rfl) (by kernel_rfl) (fun _ _ _ h => h) (Or.inl ⟨by kernel_rfl, ?_⟩) (by assumption) ?_
  rotate_left
  · intro w hSw; (try dsimp only at hSw); go_simp; try with_reducible rfl
  refine wpAnyH_take (i := 4) (v := ?_) rfl (by kernel_rfl) (by kernel_rfl) (by kernel_rfl) (fun _ _ _ h => h) (Or.inl ⟨by kernel_rfl, ?_⟩) (by assumption) ?_
  rotate_left
  · intro w hSw; (try dsimp only at hSw); go_simp; try with_reducible rfl
  refine wpAnyH_take (i := 5) (v := ?_) rfl (by kernel_rfl) (by kernel_rfl) (by kernel_rfl) (fun _ _ _ h => h) (Or.inl ⟨by kernel_rfl, ?_⟩) (by assumption) ?_
  rotate_left
  · intro w hSw; (try dsimp only at hSw); go_simp; try with_reducible rfl
  refine wpAnyH_ready (rs := [0]) (by kernel_rfl) (by simp) ?_
  refine AllReadyH.cons rfl (fun K hK => ?_) AllReadyH.nil
  go_simp
  clear hHeld
  refine hK.out _ _ ?_ (fun hHeld => ?_)
  · exact (X4.out.alloc _).now.tre
  clear hK K
  have hb := (Below.refl W0.heap.size W0).alloc (Nat.le_refl _) (.cells #[] 65)
  have B5 := Lib.hid (B4.out.alloc B4.out.size (.cells #[] 65))
  have X5 := Lib.hid (X4.out.next hb)
  have I5 := Lib.hid (I4.out.next hb)
  have E5 : Hid (OwnT W0.heap.size (W0.alloc (.cells #[] 65)) (.slice (some ⟨W0.heap.size, 0, none⟩) 0 0) []) := Lib.hid (World.ownsRow_lit (size := 3) (e := 65) W0 #[] 0 (Nat.le_refl _) (by decide) rfl)
  have hxw : w.heap.size + 1 ≤ W0.heap.size := X4.out.le
  have hx2 : W0.heap.size ≤ (W0.alloc (.cells #[] 65)).heap.size := by simp
  clear hb B4 X4 I4
  refine wpAnyH_ready (rs := [3]) (by kernel_rfl) (by simp) ?_
  refine AllReadyH.cons rfl (fun K hK => ?_) AllReadyH.nil
  rw [if_pos (by rfl)]
  refine upon_moreT _ _ rfl rfl E5.out (by omega) (by simp) a1 n1 c1 t1 rfl I5.out.2.1 (by omega) ?_
  intro v1 w15 ho hg
  have hT : Turn W0.heap.size (w15.heap.size + 1) (W0.alloc (.cells #[] 65)) w15 := .of_grown hg (fun j hj => ⟨(World.ownsRow.lt E5.out j hj).1, by have := (World.ownsRow.lt E5.out j hj).2; have := hg.size; omega⟩)
  have hBW : Below w.heap.size w w15 := B5.out.grown hg B5.out.size (fun j hj => by have := (World.ownsRow.lt E5.out j hj).1; omega)
  have B6 := Lib.hid hBW
  have X6 := Lib.hid (X5.out.step hT (.inl (by omega)))
  have hBI : Below W0.heap.size W0 w15 := ((Below.refl W0.heap.size W0).alloc (Nat.le_refl _) (.cells #[] 65)).grown hg (by simp) (fun j hj => (World.ownsRow.lt E5.out j hj).1)
  have I6 := Lib.hid (HI0.out.next hBI)
  have hs6 : W0.heap.size ≤ w15.heap.size := hBI.size
  have E6 : Hid (OwnT W0.heap.size w15 v1 ([] ++ t1)) := Lib.hid ho
  have HBI := Lib.hid hBI
  clear hT hBW hBI ho hg B5 X5 I5 E5
  clear hHeld
  refine hK.out _ _ ?_ (fun hHeld => ?_)
  · exact X6.out.now.tre
  clear hK K
  refine wpAnyH_ready (rs := [6]) (by kernel_rfl) (by simp) ?_
  refine AllReadyH.cons rfl (fun K hK => ?_) AllReadyH.nil
  rw [if_pos (by rfl)]
  refine upon_moreT _ _ rfl rfl E6.out (by omega) (by simp; have := HT1.out; omega) a2 n2 c2 t2 rfl I6.out.2.2 (by omega) ?_
  intro v2 w16 ho hg
  have hT : Turn W0.heap.size (w16.heap.size + 1) w15 w16 := .of_grown hg (fun j hj => ⟨(World.ownsRow.lt E6.out j hj).1, by have := (World.ownsRow.lt E6.out j hj).2; have := hg.size; omega⟩)
  have hBW : Below w.heap.size w w16 := B6.out.grown hg B6.out.size (fun j hj => by have := (World.ownsRow.lt E6.out j hj).1; omega)
  have B7 := Lib.hid hBW
  have X7 := Lib.hid (X6.out.step hT (.inl (by omega)))
  have hBI : Below W0.heap.size W0 w16 := HBI.out.grown hg (by have := HBI.out.size; omega) (fun j hj => (World.ownsRow.lt E6.out j hj).1)
  have I7 := Lib.hid (HI0.out.next hBI)
  have hs7 : W0.heap.size ≤ w16.heap.size := hBI.size
  have E7 : Hid (OwnT W0.heap.size w16 v2 (([] ++ t1) ++ t2)) := Lib.hid ho
  clear hT hBW hBI ho hg B6 X6 I6 E6
  clear hHeld
  refine hK.out _ _ ?_ (fun hHeld => ?_)
  · exact X7.out.now.tre
  clear hK K
  refine wpAnyH_ready (rs := [7]) (by kernel_rfl) (by simp) ?_
  refine AllReadyH.cons rfl (fun K hK => ?_) AllReadyH.nil
  go_simp
  obtain ⟨ea, ec, ee, ei⟩ := E7.out.is (fun t ht => by have := HSA.out t (by simpa using ht); unfold maxLen; omega)
  subst ee
  have eo := ei
  have hLL : (([] ++ t1) ++ t2).length ≤ 8 := by rw [List.nil_append, List.length_append, HT1.out, HT2.out]; omega
  rw [List.nil_append] at ei hLL ⊢
  refine (specVars ea _ ec (t1 ++ t2) _ ei HSA.out (by omega)).mono ?_
  rintro e w27 ⟨vg, vn, vc, rfl, ho, hvl, hb⟩
  have B8 := Lib.hid (B7.out.trans (hb.mono B7.out.size))
  have X8 := Lib.hid (X7.out.next hb)
  have I8 := Lib.hid (I7.out.next hb)
  have A8 := Lib.hid (ownS_isQ (n := vn) ho (by rw [List.length_map]; exact hvl))
  have HVL := Lib.hid hvl
  clear hb ho B7 X7 I7 E7 ei eo hLL
  go_wp2_with fail
  clear hHeld
  refine hK.out _ _ ?_ (fun hHeld => ?_)
  · exact X8.out.now.tre
  clear hK K
  refine wpAnyH_take (i := 8) (v := ?_) rfl (by kernel_rfl) (by kernel_rfl) (by kernel_rfl) (fun _ _ _ h => h) (Or.inl ⟨by kernel_rfl, ?_⟩) (by assumption) ?_
  rotate_left
  · intro w hSw; (try dsimp only at hSw); go_simp; try with_reducible rfl
  refine wpAnyH_done (by kernel_rfl) ?_ _
  try simp only [Act.put, List.setIfInBounds_toArray, List.set_cons_zero, List.set_cons_succ, List.getElem_toArray, List.getElem_cons_zero, List.getElem_cons_succ]
  clear hHeld
  obtain ⟨ga, gc, ge, gi⟩ := A8.out
  simp only [Value.slice.injEq, true_and] at ge
  obtain ⟨rfl, rfl⟩ := ge
  have A8' := Lib.hid gi
  have hv12 : vn ≤ 1000 := by have h1 := putAllS_len (varWords (t1 ++ t2)) []; have h2 := varWords_len (t1 ++ t2); have h3 := HVL.out; rw [List.length_append, HT1.out, HT2.out] at h2; unfold allVars at h3; simp only [List.length_nil] at h1; omega
  clear gi A8 HI HI0
  go_wp2_with fail
  go_loopw [4] (fun i wr => ∃ j : Nat, j ≤ n0 ∧ i = .int .i64 j ∧ Hid ((txts (vs.take j)).Nodup ∧ ∀ v ∈ txts (vs.take j), v ∈ allVars (t1 ++ t2)) ∧ Hid (IsStrs wr (some ⟨vg, 0, none⟩) vn vc ((allVars (t1 ++ t2)).map bs)) ∧ Hid (Holds w.heap.size (w.heap.size + 1) wr (Cells w.heap.size #[.slice a0 n0 c0, .slice a1 n1 c1, .slice a2 n2 c2] 34)) ∧ Hid (IsQry wr a0 a1 a2 n0 n1 n2 c0 c1 c2 vs t1 t2) ∧ Hid (Below w.heap.size w wr)) (fun i _ => n0 - (intOf i).toNat)
  case atStart => exact ⟨0, Nat.zero_le _, rfl, Lib.hid (by simp [txts]), A8', X8, I8, B8⟩
  case round =>
    obtain ⟨j, hj, rfl, hup, A0, X0, I0, B0⟩ := hrel
    clear A8' X8 I8 B8
    have hj6 : (0 : Int) ≤ (j : Int) := by omega
    obtain ⟨v, u, z⟩ := X0.out.now.tre
    by_cases hlt : j < n0
    · have hj7 : (j : Int) < (n0 : Int) := by omega
      obtain ⟨vb, vo, rfl, hvb, hvc, hvm, hts, hcs⟩ := I0.out.1.1.cells (by omega)
      have ht : vs[j]? = some (vs[j]'(by omega)) := List.getElem?_eq_getElem (by omega)
      have d0 := hcs j _ ht
      have HK : Hid (vs.take (j + 1) = vs.take j ++ [vs[j]'(by omega)]) := Lib.hid (List.take_succ_eq_append_getElem (by omega))
      have hmem := List.mem_of_getElem? ht
      generalize vs[j]'(by omega) = x at ht d0 HK hmem
      have hjc : (j : Int) ≤ (c0 : Int) := by omega
      have HM1 := Lib.hid (hasB_mem ((allVars (t1 ++ t2)).map bs) x)
      rw [txts_bs] at HM1
      have HM2 := Lib.hid (hasB_mem (vs.take j) x)
      have C1 := fun (W : World) (hI : IsStrs W (some ⟨vg, 0, none⟩) vn vc ((allVars (t1 ++ t2)).map bs)) => specHas _ vn vc _ x W hI (by omega)
      have C2 := fun (W : World) (hI : IsStrs W (some ⟨vb, vo, none⟩) j c0 (vs.take j)) => specHas _ j c0 _ x W hI (by omega)
      rw [HM1.out] at C1
      rw [HM2.out] at C2
      clear hts hcs hvc hvm ht
      by_cases hin1 : x.data.toList ∈ allVars (t1 ++ t2)
      · rw [decide_eq_true hin1] at C1
        by_cases hin2 : x.data.toList ∈ txts (vs.take j)
        · rw [decide_eq_true hin2] at C2
          have HF : Hid (q = false) := Lib.hid (by
            rw [Bool.eq_false_iff]; intro hc
            have hn := (HIFF.out.1 hc).1
            have e : txts vs = txts (vs.take j) ++ txts (vs.drop j) := by unfold txts; rw [← List.map_append, List.take_append_drop]
            rw [e] at hn
            refine (List.nodup_append.1 hn).2.2 _ hin2 _ (?_ : x.data.toList ∈ txts (vs.drop j)) rfl
            have hxd : x ∈ vs.drop j := by
              have hh : (vs.drop j)[0]? = some x := by
                have h9 := congrArg (fun l => l[j]?) HK.out
                simp only [List.getElem?_take_of_lt (Nat.lt_succ_self j)] at h9
                rw [List.getElem?_drop, Nat.add_zero, h9, List.getElem?_append_right (by rw [List.length_take]; omega), List.length_take, Nat.min_eq_left (by have := HV.out; omega)]; simp
              exact List.mem_of_getElem? hh
            exact List.mem_map.2 ⟨x, hxd, rfl⟩)
          clear hin1 hin2 HK hmem
          have D0 : Hid (wr.drew.cell? ⟨w.heap.size, 0, none⟩ = some (.slice (some ⟨vb, vo, none⟩) n0 c0) ∧ wr.drew.cell? ⟨vb, vo + j, none⟩ = some (.string x)) := Lib.hid ⟨v, d0⟩
          have D1 := Lib.hid C1
          have D2 := Lib.hid C2
          have T0 := Lib.hid (isStrs_take I0.out.1.1 (Nat.le_of_lt hlt))
          have T1 : Hid (IsStrs wr.drew (some ⟨vb, vo, none⟩) j c0 (vs.take j)) := Lib.hid (T0.out.next (Below.refl _ _).drew)
          have A1 := Lib.hid (A0.out.next (Below.refl wr.heap.size wr).drew)
          clear C1 C2 T0
          go_wp2_with fail
          clear v u z d0
          refine wp_region_held_drew (S := (fun w' => w'.cell? ⟨w.heap.size, 0, none⟩ = some (.slice (some ⟨vb, vo, none⟩) n0 c0) ∧ w'.cell? ⟨vb, vo + j, none⟩ = some (.string x))) (by kernel_rfl) ?_ (fun hHeld => ?_)
          · exact D0.out
          refine wpAnyH_take (i := 0) (v := ?_) rfl (by kernel_rfl) (by kernel_rfl) (by kernel_rfl) (fun _ _ _ h => h) (Or.inl ⟨by kernel_rfl, ?_⟩) (by assumption) ?_
          rotate_left
          · intro w hSw; (try dsimp only at hSw); go_simp; try with_reducible rfl
          refine wpAnyH_take (i := 1) (v := ?_) rfl (by kernel_rfl) (by kernel_rfl) (by kernel_rfl) (fun _ _ _ h => h) (Or.inl ⟨by kernel_rfl, ?_⟩) (by assumption) ?_
          rotate_left
          · intro w hSw; (try dsimp only at hSw); go_simp; try with_reducible rfl
          refine wpAnyH_take (i := 2) (v := ?_) rfl (by kernel_rfl) (by kernel_rfl) (by kernel_rfl) (fun _ _ _ h => h) (Or.inl ⟨by kernel_rfl, ?_⟩) (by assumption) ?_
          rotate_left
          · intro w hSw; (try dsimp only at hSw); go_simp; try with_reducible rfl
          refine wpAnyH_take (i := 3) (v := ?_) rfl (by kernel_rfl) (by kernel_rfl) (by kernel_rfl) (fun _ _ _ h => h) (Or.inl ⟨by kernel_rfl, ?_⟩) (by assumption) ?_
          rotate_left
          · intro w hSw; (try dsimp only at hSw); go_simp; try with_reducible rfl
          refine wpAnyH_take (i := 4) (v := ?_) rfl (by kernel_rfl) (by kernel_rfl) (by kernel_rfl) (fun _ _ _ h => h) (Or.inl ⟨by kernel_rfl, ?_⟩) (by assumption) ?_
          rotate_left
          · intro w hSw; (try dsimp only at hSw); go_simp; try with_reducible rfl
          refine wpAnyH_take (i := 5) (v := ?_) rfl (by kernel_rfl) (by kernel_rfl) (by kernel_rfl) (fun _ _ _ h => h) (Or.inl ⟨by kernel_rfl, ?_⟩) (by assumption) ?_
          rotate_left
          · intro w hSw; (try dsimp only at hSw); go_simp; try with_reducible rfl
          refine wpAnyH_ready (rs := [6]) (by kernel_rfl) (by simp) ?_
          refine AllReadyH.cons rfl (fun K hK => ?_) AllReadyH.nil
          go_simp
          refine (D1.out _ A1.out).mono ?_
          rintro e wz ⟨rfl, hw⟩
          subst hw
          go_wp2_with fail
          clear hHeld
          refine hK.out _ _ ?_ (fun hHeld => ?_)
          · exact D0.out
          clear hK K
          refine wpAnyH_take (i := 7) (v := ?_) rfl (by kernel_rfl) (by kernel_rfl) (by kernel_rfl) (fun _ _ _ h => h) (Or.inl ⟨by kernel_rfl, ?_⟩) (by assumption) ?_
          rotate_left
          · intro w hSw; (try dsimp only at hSw); go_simp; try with_reducible rfl
          refine wpAnyH_take (i := 8) (v := ?_) rfl (by kernel_rfl) (by kernel_rfl) (by kernel_rfl) (fun _ _ _ h => h) (Or.inl ⟨by kernel_rfl, ?_⟩) (by assumption) ?_
          rotate_left
          · intro w hSw; (try dsimp only at hSw); go_simp; try with_reducible rfl
          refine wpAnyH_take (i := 9) (v := ?_) rfl (by kernel_rfl) (by kernel_rfl) (by kernel_rfl) (fun _ _ _ h => h) (Or.inl ⟨by kernel_rfl, ?_⟩) (by assumption) ?_
          rotate_left
          · intro w hSw; (try dsimp only at hSw); go_simp; try with_reducible rfl
          refine wpAnyH_take (i := 10) (v := ?_) rfl (by kernel_rfl) (by kernel_rfl) (by kernel_rfl) (fun _ _ _ h => h) (Or.inl ⟨by kernel_rfl, ?_⟩) (by assumption) ?_
          rotate_left
          · intro w hSw; (try dsimp only at hSw); go_simp; try with_reducible rfl
          refine wpAnyH_take (i := 11) (v := ?_) rfl (by kernel_rfl) (by kernel_rfl) (by kernel_rfl) (fun _ _ _ h => h) (Or.inl ⟨by kernel_rfl, ?_⟩) (by assumption) ?_
          rotate_left
          · intro w hSw; (try dsimp only at hSw); go_simp; try with_reducible rfl
          refine wpAnyH_take (i := 12) (v := ?_) rfl (by kernel_rfl) (by kernel_rfl) (by kernel_rfl) (fun _ _ _ h => h) (Or.inl ⟨by kernel_rfl, ?_⟩) (by assumption) ?_
          rotate_left
          · intro w hSw; (try dsimp only at hSw); go_simp; try with_reducible rfl
          refine wpAnyH_take (i := 13) (v := ?_) rfl (by kernel_rfl) (by kernel_rfl) (by kernel_rfl) (fun _ _ _ h => h) (Or.inl ⟨by kernel_rfl, ?_⟩) (by assumption) ?_
          rotate_left
          · intro w hSw; (try dsimp only at hSw); go_simp; try with_reducible rfl
          refine wpAnyH_take (i := 14) (v := ?_) rfl (by kernel_rfl) (by kernel_rfl) (by kernel_rfl) (fun _ _ _ h => h) (Or.inl ⟨by kernel_rfl, ?_⟩) (by assumption) ?_
          rotate_left
          · intro w hSw; (try dsimp only at hSw); go_simp; try with_reducible rfl
          refine wpAnyH_take (i := 15) (v := ?_) rfl (by kernel_rfl) (by kernel_rfl) (by kernel_rfl) (fun _ _ _ h => h) (Or.inl ⟨by kernel_rfl, ?_⟩) (by assumption) ?_
          rotate_left
          · intro w hSw; (try dsimp only at hSw); go_simp; try with_reducible rfl
          refine wpAnyH_take (i := 16) (v := ?_) rfl (by kernel_rfl) (by kernel_rfl) (by kernel_rfl) (fun _ _ _ h => h) (Or.inl ⟨by kernel_rfl, ?_⟩) (by assumption) ?_
          rotate_left
          · intro w hSw; (try dsimp only at hSw); go_simp; try with_reducible rfl
          refine wpAnyH_take (i := 17) (v := ?_) rfl (by kernel_rfl) (by kernel_rfl) (by kernel_rfl) (fun _ _ _ h => h) (Or.inl ⟨by kernel_rfl, ?_⟩) (by assumption) ?_
          rotate_left
          · intro w hSw; (try dsimp only at hSw); go_simp; try with_reducible rfl
          refine wpAnyH_ready (rs := [18]) (by kernel_rfl) (by simp) ?_
          refine AllReadyH.cons rfl (fun K hK => ?_) AllReadyH.nil
          go_simp
          refine (D2.out _ T1.out).mono ?_
          rintro e wz ⟨rfl, hw⟩
          subst hw
          go_wp2_with fail
          clear hHeld
          refine hK.out _ _ ?_ (fun hHeld => ?_)
          · exact D0.out
          clear hK K
          refine wpAnyH_take (i := 19) (v := ?_) rfl (by kernel_rfl) (by kernel_rfl) (by kernel_rfl) (fun _ _ _ h => h) (Or.inl ⟨by kernel_rfl, ?_⟩) (by assumption) ?_
          rotate_left
          · intro w hSw; (try dsimp only at hSw); go_simp; try with_reducible rfl
          refine wpAnyH_done (by kernel_rfl) ?_ _
          try simp only [Act.put, List.setIfInBounds_toArray, List.set_cons_zero, List.set_cons_succ, List.getElem_toArray, List.getElem_cons_zero, List.getElem_cons_succ]
          clear hHeld
          go_wp2_with fail
          go_ret
          exact ⟨by rw [HF.out]; rfl, B0.out.drew⟩
        · rw [decide_eq_false hin2] at C2
          have HN : Hid ((txts (vs.take (j + 1))).Nodup ∧ ∀ v ∈ txts (vs.take (j + 1)), v ∈ allVars (t1 ++ t2)) := Lib.hid (by
            rw [HK.out, txts_snoc]
            exact ⟨List.nodup_append.2 ⟨hup.out.1, by simp, fun a ha b hb => by simp at hb; subst hb; exact fun e => hin2 (e ▸ ha)⟩, fun v hv => by
              rcases List.mem_append.1 hv with g | g
              · exact hup.out.2 v g
              · rw [List.mem_singleton.1 g]; exact hin1⟩)
          have hbd : Below wr.heap.size wr wr.drew := (Below.refl _ _).drew
          have X1 := Lib.hid (X0.out.next hbd)
          have I1 := Lib.hid (I0.out.next hbd)
          have B1 := Lib.hid B0.out.drew
          clear hin1 hin2 HK hmem hup hbd
          have D0 : Hid (wr.drew.cell? ⟨w.heap.size, 0, none⟩ = some (.slice (some ⟨vb, vo, none⟩) n0 c0) ∧ wr.drew.cell? ⟨vb, vo + j, none⟩ = some (.string x)) := Lib.hid ⟨v, d0⟩
          have D1 := Lib.hid C1
          have D2 := Lib.hid C2
          have T0 := Lib.hid (isStrs_take I0.out.1.1 (Nat.le_of_lt hlt))
          have T1 : Hid (IsStrs wr.drew (some ⟨vb, vo, none⟩) j c0 (vs.take j)) := Lib.hid (T0.out.next (Below.refl _ _).drew)
          have A1 := Lib.hid (A0.out.next (Below.refl wr.heap.size wr).drew)
          clear C1 C2 T0
          go_wp2_with fail
          clear v u z d0
          refine wp_region_held_drew (S := (fun w' => w'.cell? ⟨w.heap.size, 0, none⟩ = some (.slice (some ⟨vb, vo, none⟩) n0 c0) ∧ w'.cell? ⟨vb, vo + j, none⟩ = some (.string x))) (by kernel_rfl) ?_ (fun hHeld => ?_)
          · exact D0.out
          refine wpAnyH_take (i := 0) (v := ?_) rfl (by kernel_rfl) (by kernel_rfl) (by kernel_rfl) (fun _ _ _ h => h) (Or.inl ⟨by kernel_rfl, ?_⟩) (by assumption) ?_
          rotate_left
          · intro w hSw; (try dsimp only at hSw); go_simp; try with_reducible rfl
          refine wpAnyH_take (i := 1) (v := ?_) rfl (by kernel_rfl) (by kernel_rfl) (by kernel_rfl) (fun _ _ _ h => h) (Or.inl ⟨by kernel_rfl, ?_⟩) (by assumption) ?_
          rotate_left
          · intro w hSw; (try dsimp only at hSw); go_simp; try with_reducible rfl
          refine wpAnyH_take (i := 2) (v := ?_) rfl (by kernel_rfl) (by kernel_rfl) (by kernel_rfl) (fun _ _ _ h => h) (Or.inl ⟨by kernel_rfl, ?_⟩) (by assumption) ?_
          rotate_left
          · intro w hSw; (try dsimp only at hSw); go_simp; try with_reducible rfl
          refine wpAnyH_take (i := 3) (v := ?_) rfl (by kernel_rfl) (by kernel_rfl) (by kernel_rfl) (fun _ _ _ h => h) (Or.inl ⟨by kernel_rfl, ?_⟩) (by assumption) ?_
          rotate_left
          · intro w hSw; (try dsimp only at hSw); go_simp; try with_reducible rfl
          refine wpAnyH_take (i := 4) (v := ?_) rfl (by kernel_rfl) (by kernel_rfl) (by kernel_rfl) (fun _ _ _ h => h) (Or.inl ⟨by kernel_rfl, ?_⟩) (by assumption) ?_
          rotate_left
          · intro w hSw; (try dsimp only at hSw); go_simp; try with_reducible rfl
          refine wpAnyH_take (i := 5) (v := ?_) rfl (by kernel_rfl) (by kernel_rfl) (by kernel_rfl) (fun _ _ _ h => h) (Or.inl ⟨by kernel_rfl, ?_⟩) (by assumption) ?_
          rotate_left
          · intro w hSw; (try dsimp only at hSw); go_simp; try with_reducible rfl
          refine wpAnyH_ready (rs := [6]) (by kernel_rfl) (by simp) ?_
          refine AllReadyH.cons rfl (fun K hK => ?_) AllReadyH.nil
          go_simp
          refine (D1.out _ A1.out).mono ?_
          rintro e wz ⟨rfl, hw⟩
          subst hw
          go_wp2_with fail
          clear hHeld
          refine hK.out _ _ ?_ (fun hHeld => ?_)
          · exact D0.out
          clear hK K
          refine wpAnyH_take (i := 7) (v := ?_) rfl (by kernel_rfl) (by kernel_rfl) (by kernel_rfl) (fun _ _ _ h => h) (Or.inl ⟨by kernel_rfl, ?_⟩) (by assumption) ?_
          rotate_left
          · intro w hSw; (try dsimp only at hSw); go_simp; try with_reducible rfl
          refine wpAnyH_take (i := 8) (v := ?_) rfl (by kernel_rfl) (by kernel_rfl) (by kernel_rfl) (fun _ _ _ h => h) (Or.inl ⟨by kernel_rfl, ?_⟩) (by assumption) ?_
          rotate_left
          · intro w hSw; (try dsimp only at hSw); go_simp; try with_reducible rfl
          refine wpAnyH_take (i := 9) (v := ?_) rfl (by kernel_rfl) (by kernel_rfl) (by kernel_rfl) (fun _ _ _ h => h) (Or.inl ⟨by kernel_rfl, ?_⟩) (by assumption) ?_
          rotate_left
          · intro w hSw; (try dsimp only at hSw); go_simp; try with_reducible rfl
          refine wpAnyH_take (i := 10) (v := ?_) rfl (by kernel_rfl) (by kernel_rfl) (by kernel_rfl) (fun _ _ _ h => h) (Or.inl ⟨by kernel_rfl, ?_⟩) (by assumption) ?_
          rotate_left
          · intro w hSw; (try dsimp only at hSw); go_simp; try with_reducible rfl
          refine wpAnyH_take (i := 11) (v := ?_) rfl (by kernel_rfl) (by kernel_rfl) (by kernel_rfl) (fun _ _ _ h => h) (Or.inl ⟨by kernel_rfl, ?_⟩) (by assumption) ?_
          rotate_left
          · intro w hSw; (try dsimp only at hSw); go_simp; try with_reducible rfl
          refine wpAnyH_take (i := 12) (v := ?_) rfl (by kernel_rfl) (by kernel_rfl) (by kernel_rfl) (fun _ _ _ h => h) (Or.inl ⟨by kernel_rfl, ?_⟩) (by assumption) ?_
          rotate_left
          · intro w hSw; (try dsimp only at hSw); go_simp; try with_reducible rfl
          refine wpAnyH_take (i := 13) (v := ?_) rfl (by kernel_rfl) (by kernel_rfl) (by kernel_rfl) (fun _ _ _ h => h) (Or.inl ⟨by kernel_rfl, ?_⟩) (by assumption) ?_
          rotate_left
          · intro w hSw; (try dsimp only at hSw); go_simp; try with_reducible rfl
          refine wpAnyH_take (i := 14) (v := ?_) rfl (by kernel_rfl) (by kernel_rfl) (by kernel_rfl) (fun _ _ _ h => h) (Or.inl ⟨by kernel_rfl, ?_⟩) (by assumption) ?_
          rotate_left
          · intro w hSw; (try dsimp only at hSw); go_simp; try with_reducible rfl
          refine wpAnyH_take (i := 15) (v := ?_) rfl (by kernel_rfl) (by kernel_rfl) (by kernel_rfl) (fun _ _ _ h => h) (Or.inl ⟨by kernel_rfl, ?_⟩) (by assumption) ?_
          rotate_left
          · intro w hSw; (try dsimp only at hSw); go_simp; try with_reducible rfl
          refine wpAnyH_take (i := 16) (v := ?_) rfl (by kernel_rfl) (by kernel_rfl) (by kernel_rfl) (fun _ _ _ h => h) (Or.inl ⟨by kernel_rfl, ?_⟩) (by assumption) ?_
          rotate_left
          · intro w hSw; (try dsimp only at hSw); go_simp; try with_reducible rfl
          refine wpAnyH_take (i := 17) (v := ?_) rfl (by kernel_rfl) (by kernel_rfl) (by kernel_rfl) (fun _ _ _ h => h) (Or.inl ⟨by kernel_rfl, ?_⟩) (by assumption) ?_
          rotate_left
          · intro w hSw; (try dsimp only at hSw); go_simp; try with_reducible rfl
          refine wpAnyH_ready (rs := [18]) (by kernel_rfl) (by simp) ?_
          refine AllReadyH.cons rfl (fun K hK => ?_) AllReadyH.nil
          go_simp
          refine (D2.out _ T1.out).mono ?_
          rintro e wz ⟨rfl, hw⟩
          subst hw
          go_wp2_with fail
          clear hHeld
          refine hK.out _ _ ?_ (fun hHeld => ?_)
          · exact D0.out
          clear hK K
          refine wpAnyH_take (i := 19) (v := ?_) rfl (by kernel_rfl) (by kernel_rfl) (by kernel_rfl) (fun _ _ _ h => h) (Or.inl ⟨by kernel_rfl, ?_⟩) (by assumption) ?_
          rotate_left
          · intro w hSw; (try dsimp only at hSw); go_simp; try with_reducible rfl
          refine wpAnyH_done (by kernel_rfl) ?_ _
          try simp only [Act.put, List.setIfInBounds_toArray, List.set_cons_zero, List.set_cons_succ, List.getElem_toArray, List.getElem_cons_zero, List.getElem_cons_succ]
          clear hHeld
          go_wp2_with fail
          go_roundw
          case rel => exact ⟨j + 1, by omega, by go_num, HN, A1, X1, I1, B1⟩
          case measure => simp [intOf]; omega
      · rw [decide_eq_false hin1] at C1
        have HF : Hid (q = false) := Lib.hid (by
          rw [Bool.eq_false_iff]; intro hc
          exact hin1 ((HIFF.out.1 hc).2 _ (List.mem_map.2 ⟨x, hmem, rfl⟩)))
        clear hin1 HK hmem
        have D0 : Hid (wr.drew.cell? ⟨w.heap.size, 0, none⟩ = some (.slice (some ⟨vb, vo, none⟩) n0 c0) ∧ wr.drew.cell? ⟨vb, vo + j, none⟩ = some (.string x)) := Lib.hid ⟨v, d0⟩
        have D1 := Lib.hid C1
        have D2 := Lib.hid C2
        have T0 := Lib.hid (isStrs_take I0.out.1.1 (Nat.le_of_lt hlt))
        have T1 : Hid (IsStrs wr.drew (some ⟨vb, vo, none⟩) j c0 (vs.take j)) := Lib.hid (T0.out.next (Below.refl _ _).drew)
        have A1 := Lib.hid (A0.out.next (Below.refl wr.heap.size wr).drew)
        clear C1 C2 T0
        go_wp2_with fail
        clear v u z d0
        refine wp_region_held_drew (S := (fun w' => w'.cell? ⟨w.heap.size, 0, none⟩ = some (.slice (some ⟨vb, vo, none⟩) n0 c0) ∧ w'.cell? ⟨vb, vo + j, none⟩ = some (.string x))) (by kernel_rfl) ?_ (fun hHeld => ?_)
        · exact D0.out
        refine wpAnyH_take (i := 0) (v := ?_) rfl (by kernel_rfl) (by kernel_rfl) (by kernel_rfl) (fun _ _ _ h => h) (Or.inl ⟨by kernel_rfl, ?_⟩) (by assumption) ?_
        rotate_left
        · intro w hSw; (try dsimp only at hSw); go_simp; try with_reducible rfl
        refine wpAnyH_take (i := 1) (v := ?_) rfl (by kernel_rfl) (by kernel_rfl) (by kernel_rfl) (fun _ _ _ h => h) (Or.inl ⟨by kernel_rfl, ?_⟩) (by assumption) ?_
        rotate_left
        · intro w hSw; (try dsimp only at hSw); go_simp; try with_reducible rfl
        refine wpAnyH_take (i := 2) (v := ?_) rfl (by kernel_rfl) (by kernel_rfl) (by kernel_rfl) (fun _ _ _ h => h) (Or.inl ⟨by kernel_rfl, ?_⟩) (by assumption) ?_
        rotate_left
        · intro w hSw; (try dsimp only at hSw); go_simp; try with_reducible rfl
        refine wpAnyH_take (i := 3) (v := ?_) rfl (by kernel_rfl) (by kernel_rfl) (by kernel_rfl) (fun _ _ _ h => h) (Or.inl ⟨by kernel_rfl, ?_⟩) (by assumption) ?_
        rotate_left
        · intro w hSw; (try dsimp only at hSw); go_simp; try with_reducible rfl
        refine wpAnyH_take (i := 4) (v := ?_) rfl (by kernel_rfl) (by kernel_rfl) (by kernel_rfl) (fun _ _ _ h => h) (Or.inl ⟨by kernel_rfl, ?_⟩) (by assumption) ?_
        rotate_left
        · intro w hSw; (try dsimp only at hSw); go_simp; try with_reducible rfl
        refine wpAnyH_take (i := 5) (v := ?_) rfl (by kernel_rfl) (by kernel_rfl) (by kernel_rfl) (fun _ _ _ h => h) (Or.inl ⟨by kernel_rfl, ?_⟩) (by assumption) ?_
        rotate_left
        · intro w hSw; (try dsimp only at hSw); go_simp; try with_reducible rfl
        refine wpAnyH_ready (rs := [6]) (by kernel_rfl) (by simp) ?_
        refine AllReadyH.cons rfl (fun K hK => ?_) AllReadyH.nil
        go_simp
        refine (D1.out _ A1.out).mono ?_
        rintro e wz ⟨rfl, hw⟩
        subst hw
        go_wp2_with fail
        clear hHeld
        refine hK.out _ _ ?_ (fun hHeld => ?_)
        · exact D0.out
        clear hK K
        refine wpAnyH_take (i := 7) (v := ?_) rfl (by kernel_rfl) (by kernel_rfl) (by kernel_rfl) (fun _ _ _ h => h) (Or.inl ⟨by kernel_rfl, ?_⟩) (by assumption) ?_
        rotate_left
        · intro w hSw; (try dsimp only at hSw); go_simp; try with_reducible rfl
        refine wpAnyH_take (i := 8) (v := ?_) rfl (by kernel_rfl) (by kernel_rfl) (by kernel_rfl) (fun _ _ _ h => h) (Or.inl ⟨by kernel_rfl, ?_⟩) (by assumption) ?_
        rotate_left
        · intro w hSw; (try dsimp only at hSw); go_simp; try with_reducible rfl
        refine wpAnyH_take (i := 9) (v := undef) rfl (by kernel_rfl) (by kernel_rfl) (by kernel_rfl) (fun _ _ _ h => h) (Or.inr ⟨by kernel_rfl, rfl⟩) (by assumption) ?_
        refine wpAnyH_take (i := 10) (v := undef) rfl (by kernel_rfl) (by kernel_rfl) (by kernel_rfl) (fun _ _ _ h => h) (Or.inr ⟨by kernel_rfl, rfl⟩) (by assumption) ?_
        refine wpAnyH_take (i := 11) (v := undef) rfl (by kernel_rfl) (by kernel_rfl) (by kernel_rfl) (fun _ _ _ h => h) (Or.inr ⟨by kernel_rfl, rfl⟩) (by assumption) ?_
        refine wpAnyH_take (i := 12) (v := undef) rfl (by kernel_rfl) (by kernel_rfl) (by kernel_rfl) (fun _ _ _ h => h) (Or.inr ⟨by kernel_rfl, rfl⟩) (by assumption) ?_
        refine wpAnyH_take (i := 13) (v := undef) rfl (by kernel_rfl) (by kernel_rfl) (by kernel_rfl) (fun _ _ _ h => h) (Or.inr ⟨by kernel_rfl, rfl⟩) (by assumption) ?_
        refine wpAnyH_take (i := 14) (v := undef) rfl (by kernel_rfl) (by kernel_rfl) (by kernel_rfl) (fun _ _ _ h => h) (Or.inr ⟨by kernel_rfl, rfl⟩) (by assumption) ?_
        refine wpAnyH_take (i := 15) (v := undef) rfl (by kernel_rfl) (by kernel_rfl) (by kernel_rfl) (fun _ _ _ h => h) (Or.inr ⟨by kernel_rfl, rfl⟩) (by assumption) ?_
        refine wpAnyH_take (i := 16) (v := undef) rfl (by kernel_rfl) (by kernel_rfl) (by kernel_rfl) (fun _ _ _ h => h) (Or.inr ⟨by kernel_rfl, rfl⟩) (by assumption) ?_
        refine wpAnyH_take (i := 17) (v := undef) rfl (by kernel_rfl) (by kernel_rfl) (by kernel_rfl) (fun _ _ _ h => h) (Or.inr ⟨by kernel_rfl, rfl⟩) (by assumption) ?_
        refine wpAnyH_take (i := 18) (v := undef) rfl (by kernel_rfl) (by kernel_rfl) (by kernel_rfl) (fun _ _ _ h => h) (Or.inr ⟨by kernel_rfl, rfl⟩) (by assumption) ?_
        refine wpAnyH_take (i := 19) (v := ?_) rfl (by kernel_rfl) (by kernel_rfl) (by kernel_rfl) (fun _ _ _ h => h) (Or.inl ⟨by kernel_rfl, ?_⟩) (by assumption) ?_
        rotate_left
        · intro w hSw; (try dsimp only at hSw); go_simp; try with_reducible rfl
        refine wpAnyH_done (by kernel_rfl) ?_ _
        try simp only [Act.put, List.setIfInBounds_toArray, List.set_cons_zero, List.set_cons_succ, List.getElem_toArray, List.getElem_cons_zero, List.getElem_cons_succ]
        clear hHeld
        go_wp2_with fail
        go_ret
        exact ⟨by rw [HF.out]; rfl, B0.out.drew⟩
    · have HF : Hid (q = true) := Lib.hid (HIFF.out.2 (by
        have h9 := hup.out
        rwa [List.take_of_length_le (by rw [HV.out]; omega)] at h9))
      clear hup
      go_wp2_with fail
      go_ret
      exact ⟨by rw [HF.out]; rfl, B0.out⟩
end Go.Proofs.YtiajdnhmjdfeeaaGreat
