/- The program's Patched. -/
import Derived.Test.YtofkploffcplhaaGreatG20
import Derived.Test.YtofkploffcplhaaGreatG21
namespace Go.Proofs.YtofkploffcplhaaGreat
open Go.RowKit Go.WideShapes Go.Maps
theorem outT_sm {ts us : List Tri3} (h : Sm ts) : Sm (outT ts us) := fun t ht => h t (outT_mem.1 ht).1
theorem outT_graph_len {ts us : List Tri3} (h : graphOk ts = true) : (outT ts us).length ≤ 80 := Nat.le_trans (outT_len ts us) (graphOk_len h)
theorem sm_most {ts : List Tri3} (h : Sm ts) : ∀ t ∈ ts, t.1.size ≤ maxLen ∧ t.2.1.size ≤ maxLen ∧ t.2.2.size ≤ maxLen := fun t ht => by have := h t ht; unfold maxLen; omega
theorem ResPost.below {r : Option (List Tri3)} {w w' : World} {e : Ending} (h : ResPost r w e w') : Below w.heap.size w w' := by obtain ⟨_, _, _, hb⟩ := h; exact hb
theorem calls_below {P : Program} {f : Nat} {args : Array Value} {w : World} {Q : Ending → World → Prop} {R : World → Prop} (h : Calls P f args w Q) (k : ∀ e w', Q e w' → R w') : Calls P f args w fun e w' => Q e w' ∧ R w' := h.mono fun e w' q => ⟨q, k e w' q⟩
set_option maxRecDepth 100000 in
set_option maxHeartbeats 6400000 in
theorem implPatched (a a1 a2 : Option Addr) (la ca n1 n2 c1 c2 : Nat) (ts t1 t2 : List Tri3) (w : World) (k : IsTris w a la ca ts) (h : Is2 w a1 a2 n1 n2 c1 c2 t1 t2) (s0 : Sm ts) (s1 : Sm t1) (s2 : Sm t2) :
    Calls Tryz.prog 6 #[.slice a la ca, .agg #[.slice a1 n1 c1, .slice a2 n2 c2]] w (ResPost (patchedO ts t1 t2) w) := by
  have B0 := Lib.hid ((Below.refl w.heap.size w).alloc (Nat.le_refl _) (.cells #[.slice a1 n1 c1, .slice a2 n2 c2] 26))
  have X0 := Lib.hid (cells_new w #[.slice a1 n1 c1, .slice a2 n2 c2] 26)
  have H := Lib.hid h
  have KG := Lib.hid k
  have HL := Lib.hid (And.intro k.len (And.intro h.1.len h.2.len))
  have A1 := implGraphOk a la ca ts _ (k.next B0.out) s0
  have S := Lib.hid (And.intro s0 (And.intro s1 s2))
  clear h k s0 s1 s2
  cases g1 : graphOk ts
  · rw [g1] at A1
    have HR : Hid (patchedO ts t1 t2 = none) := Lib.hid (by unfold patchedO; rw [g1]; simp)
    have C1 := Lib.hid A1
    clear A1 g1
    go_enter Tryz.func6, Tryz.ntmps6
    go_wp2_with fail
    refine C1.out.mono ?_
    rintro e w1 ⟨rfl, hb⟩
    have B1 := Lib.hid (B0.out.trans (hb.mono B0.out.size))
    clear hb
    go_wp2_with fail
    go_ret2
    rw [HR.out]
    exact ResPost.no B1.out
  rw [g1] at A1
  have C1 := Lib.hid A1
  have G1 := Lib.hid g1
  clear A1 g1
  have C2 : Hid (∀ W, Below w.heap.size w W → Calls Tryz.prog 13 #[.agg #[.slice a1 n1 c1, .slice a2 n2 c2]] W fun e w' => e = .returned (.bool (patchOk t1 t2)) ∧ Below W.heap.size W w') := Lib.hid (fun W hb => implPatchOk a1 a2 n1 n2 c1 c2 t1 t2 W (H.out.next hb) S.out.2.1 S.out.2.2)
  cases g2 : patchOk t1 t2
  · rw [g2] at C2
    have HR : Hid (patchedO ts t1 t2 = none) := Lib.hid (by unfold patchedO; rw [g2]; simp)
    clear g2
    go_enter Tryz.func6, Tryz.ntmps6
    go_wp2_with fail
    refine C1.out.mono ?_
    rintro e w1 ⟨rfl, hb⟩
    have B1 := Lib.hid (B0.out.trans (hb.mono B0.out.size))
    obtain ⟨x0, x1⟩ := (X0.out.next hb).now.two
    clear hb
    go_wp2_with fail
    refine (C2.out _ B1.out).mono ?_
    rintro e w2 ⟨rfl, hb⟩
    have B2 := Lib.hid (B1.out.trans (hb.mono B1.out.size))
    clear hb
    go_wp2_with fail
    go_ret2
    rw [HR.out]
    exact ResPost.no B2.out
  rw [g2] at C2
  have G2 := Lib.hid g2
  have la80 : la ≤ 80 := by have := graphOk_len G1.out; have := HL.out.1; omega
  have n180 : n1 ≤ 80 := by have := graphOk_len (patchOk_iff.1 g2).1; have := HL.out.2.1; omega
  have n280 : n2 ≤ 80 := by have := graphOk_len (patchOk_iff.1 g2).2.1; have := HL.out.2.2; omega
  have HV : Hid (patchedO ts t1 t2 = if subT ts t1 = true ∧ anyT ts t2 = false then unionO (outT ts t1) t2 else none) := Lib.hid (by
    unfold patchedO
    by_cases c : subT ts t1 = true ∧ anyT ts t2 = false
    · rw [if_pos ⟨G1.out, g2, c.1, c.2⟩, if_pos c]
    · rw [if_neg (fun d => c ⟨d.2.2.1, d.2.2.2⟩), if_neg c])
  clear g2
  go_enter Tryz.func6, Tryz.ntmps6
  go_wp2_with fail
  refine C1.out.mono ?_
  rintro e w1 ⟨rfl, hb⟩
  have B1 := Lib.hid (B0.out.trans (hb.mono B0.out.size))
  have X1 := Lib.hid (X0.out.next hb)
  obtain ⟨x0, x1⟩ := X1.out.now.two
  clear hb
  go_wp2_with fail
  refine (C2.out _ B1.out).mono ?_
  rintro e w2 ⟨rfl, hb⟩
  have B2 := Lib.hid (B1.out.trans (hb.mono B1.out.size))
  have X2 := Lib.hid (X1.out.next hb)
  have B3 := Lib.hid (B2.out.alloc B2.out.size (.cells #[.slice a la ca] 24))
  have X3 := Lib.hid (X2.out.alloc (.cells #[.slice a la ca] 24))
  have C3 := Lib.hid (implSetAt w2.heap.size a la ca ts _ (by simp) (by simp) (KG.out.next B3.out) (by omega))
  clear hb x0 x1
  go_wp2_with fail
  refine C3.out.mono ?_
  rintro e w4 ⟨b, m, us, rfl, _, ho, hm, hb⟩
  have B4 := Lib.hid (B3.out.trans (hb.mono B3.out.size))
  have X4 := Lib.hid (X3.out.next hb)
  have A4 := implHasAll b m us a1 n1 c1 t1 w4 ho.now (H.out.1.next B4.out) (by omega)
  rw [subT_same hm] at A4
  have O4 := Lib.hid ho
  have M4 := Lib.hid hm
  obtain ⟨x0, x1⟩ := X4.out.now.two
  clear hb ho hm
  cases g3 : subT ts t1
  · rw [g3] at A4 HV
    have HR : Hid (patchedO ts t1 t2 = none) := Lib.hid (by rw [HV.out, if_neg (by simp)])
    have C4 := Lib.hid A4
    clear A4 g3
    go_wp2_with fail
    refine C4.out.mono ?_
    rintro e w5 ⟨rfl, hb⟩
    have B5 := Lib.hid (B4.out.trans (hb.mono B4.out.size))
    clear hb
    go_wp2_with fail
    go_ret2
    rw [HR.out]
    exact ResPost.no B5.out
  rw [g3] at A4 HV
  have C4 := Lib.hid A4
  clear A4 g3
  go_wp2_with fail
  refine C4.out.mono ?_
  rintro e w5 ⟨rfl, hb⟩
  have B5 := Lib.hid (B4.out.trans (hb.mono B4.out.size))
  have X5 := Lib.hid (X4.out.next hb)
  have A5 := implHasAny b m us a2 n2 c2 t2 w5 (O4.out.next hb).now (H.out.2.next B5.out) (by omega)
  rw [anyT_same M4.out] at A5
  clear hb x0 x1
  obtain ⟨x0, x1⟩ := X5.out.now.two
  cases g4 : anyT ts t2
  rotate_left
  · rw [g4] at A5 HV
    have HR : Hid (patchedO ts t1 t2 = none) := Lib.hid (by rw [HV.out, if_neg (by simp)])
    have C5 := Lib.hid A5
    clear A5 g4
    go_wp2_with fail
    refine C5.out.mono ?_
    rintro e w6 ⟨rfl, hb⟩
    have B6 := Lib.hid (B5.out.trans (hb.mono B5.out.size))
    clear hb
    go_wp2_with fail
    go_ret2
    rw [HR.out]
    exact ResPost.no B6.out
  rw [g4] at A5 HV
  have HR : Hid (patchedO ts t1 t2 = unionO (outT ts t1) t2) := Lib.hid (by rw [HV.out, if_pos (by simp)])
  have C5 := Lib.hid A5
  clear A5 g4
  go_wp2_with fail
  refine C5.out.mono ?_
  rintro e w6 ⟨rfl, hb⟩
  have B6 := Lib.hid (B5.out.trans (hb.mono B5.out.size))
  have X6 := Lib.hid (X5.out.next hb)
  clear hb x0 x1
  obtain ⟨x0, x1⟩ := X6.out.drew.now.two
  go_wp2_with fail
  refine wp_region_held_drew (S := (fun w' => w'.cell? ⟨w.heap.size, 0, none⟩ = some (.slice a1 n1 c1) ∧ w'.cell? ⟨w.heap.size, 1, none⟩ = some (.slice a2 n2 c2))) (by kernel_rfl) ?_ (fun hHeld => ?_)
  · exact X6.out.drew.now.two
  refine wpAnyH_take (i := 0) (v := ?_) rfl (by kernel_rfl) (by kernel_rfl) (by kernel_rfl) (fun _ _ _ h => h) (Or.inl ⟨by kernel_rfl, ?_⟩) (by assumption) ?_
  rotate_left
  · intro w hSw; (try dsimp only at hSw); go_simp; try with_reducible rfl
  refine wpAnyH_take (i := 1) (v := ?_) rfl (by kernel_rfl) (by kernel_rfl) (by kernel_rfl) (fun _ _ _ h => h) (Or.inl ⟨by kernel_rfl, ?_⟩) (by assumption) ?_
  rotate_left
  · intro w hSw; (try dsimp only at hSw); go_simp; try with_reducible rfl
  refine wpAnyH_take (i := 4) (v := ?_) rfl (by kernel_rfl) (by kernel_rfl) (by kernel_rfl) (fun _ _ _ h => h) (Or.inl ⟨by kernel_rfl, ?_⟩) (by assumption) ?_
  rotate_left
  · intro w hSw; (try dsimp only at hSw); go_simp; try with_reducible rfl
  refine wpAnyH_take (i := 6) (v := ?_) rfl (by kernel_rfl) (by kernel_rfl) (by kernel_rfl) (fun _ _ _ h => h) (Or.inl ⟨by kernel_rfl, ?_⟩) (by assumption) ?_
  rotate_left
  · intro w hSw; (try dsimp only at hSw); go_simp; try with_reducible rfl
  refine wpAnyH_take (i := 7) (v := ?_) rfl (by kernel_rfl) (by kernel_rfl) (by kernel_rfl) (fun _ _ _ h => h) (Or.inl ⟨by kernel_rfl, ?_⟩) (by assumption) ?_
  rotate_left
  · intro w hSw; (try dsimp only at hSw); go_simp; try with_reducible rfl
  refine wpAnyH_ready (rs := [2]) (by kernel_rfl) (by simp) ?_
  refine AllReadyH.cons rfl (fun K hK => ?_) AllReadyH.nil
  go_simp
  have B7 := Lib.hid (B6.out.drew.alloc (by exact B6.out.size) (.cells #[.slice a1 n1 c1] 24))
  have X7 := Lib.hid (X6.out.drew.alloc (.cells #[.slice a1 n1 c1] 24))
  have V7 := Lib.hid (cells_new w6.drew #[.slice a1 n1 c1] 24)
  refine hK.out _ _ ?_ (fun hHeld => ?_)
  · exact X7.out.now.two
  clear hK K
  refine wpAnyH_ready (rs := [3]) (by kernel_rfl) (by simp) ?_
  refine AllReadyH.cons rfl (fun K hK => ?_) AllReadyH.nil
  go_simp
  refine (implSetAt w6.heap.size a1 n1 c1 t1 _ V7.out.le (V7.out.now.at 0) (H.out.1.next B7.out) (by omega)).mono ?_
  rintro e w8 ⟨b2, m2, u2, rfl, _, ho, hm, hb⟩
  have B8 := Lib.hid (B7.out.trans (hb.mono B7.out.size))
  have X8 := Lib.hid (X7.out.next hb)
  have O8 := Lib.hid ho
  have M8 := Lib.hid hm
  clear hb ho hm
  go_wp2_with fail
  refine hK.out _ _ ?_ (fun hHeld => ?_)
  · exact X8.out.now.two
  clear hK K
  refine wpAnyH_ready (rs := [5]) (by kernel_rfl) (by simp) ?_
  refine AllReadyH.cons rfl (fun K hK => ?_) AllReadyH.nil
  go_simp
  refine (implOutOf b2 m2 u2 a la ca ts _ O8.out.now (KG.out.next B8.out) (by omega)).mono ?_
  rintro e w9 ⟨v, rfl, ho, hb⟩
  rw [outT_same M8.out] at ho
  have B9 := Lib.hid (B8.out.trans (hb.mono B8.out.size))
  have X9 := Lib.hid (X8.out.next hb)
  obtain ⟨p, q, rfl, ii⟩ := ho.is (sm_most (outT_sm S.out.1))
  have I9 := Lib.hid ii
  clear hb ho ii
  go_wp2_with fail
  refine hK.out _ _ ?_ (fun hHeld => ?_)
  · exact X9.out.now.two
  clear hK K
  refine wpAnyH_ready (rs := [8]) (by kernel_rfl) (by simp) ?_
  refine AllReadyH.cons rfl (fun K hK => ?_) AllReadyH.nil
  go_simp
  refine (calls_below (implUnion p a2 _ q n2 c2 (outT ts t1) t2 _ I9.out (H.out.2.next B9.out) (outT_sm S.out.1) S.out.2.2) (fun e w' h => h.below)).mono ?_
  rintro e wz ⟨hr, hbz⟩
  have XZ := Lib.hid (X9.out.next hbz)
  obtain ⟨v, rfl, hv⟩ := hr.far B9.out
  go_wp2_with fail
  refine hK.out _ _ ?_ (fun hHeld => ?_)
  · exact XZ.out.now.two
  clear hK K
  refine wpAnyH_take (i := 9) (v := ?_) rfl (by kernel_rfl) (by kernel_rfl) (by kernel_rfl) (fun _ _ _ h => h) (Or.inl ⟨by kernel_rfl, ?_⟩) (by assumption) ?_
  rotate_left
  · intro w hSw; (try dsimp only at hSw); go_simp; try with_reducible rfl
  refine wpAnyH_take (i := 10) (v := ?_) rfl (by kernel_rfl) (by kernel_rfl) (by kernel_rfl) (fun _ _ _ h => h) (Or.inl ⟨by kernel_rfl, ?_⟩) (by assumption) ?_
  rotate_left
  · intro w hSw; (try dsimp only at hSw); go_simp; try with_reducible rfl
  refine wpAnyH_take (i := 11) (v := ?_) rfl (by kernel_rfl) (by kernel_rfl) (by kernel_rfl) (fun _ _ _ h => h) (Or.inl ⟨by kernel_rfl, ?_⟩) (by assumption) ?_
  rotate_left
  · intro w hSw; (try dsimp only at hSw); go_simp; try with_reducible rfl
  refine wpAnyH_take (i := 12) (v := ?_) rfl (by kernel_rfl) (by kernel_rfl) (by kernel_rfl) (fun _ _ _ h => h) (Or.inl ⟨by kernel_rfl, ?_⟩) (by assumption) ?_
  rotate_left
  · intro w hSw; (try dsimp only at hSw); go_simp; try with_reducible rfl
  refine wpAnyH_done (by kernel_rfl) ?_ _
  try simp only [Act.put, List.setIfInBounds_toArray, List.set_cons_zero, List.set_cons_succ, List.getElem_toArray, List.getElem_cons_zero, List.getElem_cons_succ]
  go_wp2_with fail
  go_ret2
  rw [HR.out]
  exact ⟨v, rfl, hv⟩
end Go.Proofs.YtofkploffcplhaaGreat
/- The specification's PatchOf and Patched. -/
namespace Go.Proofs.YtofkploffcplhaaGreat
open Go.RowKit Go.WideShapes Go.Maps
theorem patchedO_most (g d a : List Tri3) (hg : SmAll g) (ha : SmAll a) : ((patchedO g d a).getD []).length ≤ 80 ∧ SmAll ((patchedO g d a).getD []) := by
  cases h : patchedO g d a with
  | none => exact ⟨by simp, fun t ht => by simp at ht⟩
  | some x =>
    obtain ⟨_, _, _, _, rfl, h6⟩ := patchedO_some h
    refine ⟨graphOk_len h6, fun t ht => ?_⟩
    rcases unionT_mem.1 ht with c | c
    · exact hg t (outT_mem.1 c).1
    · exact ha t c
theorem patchOf_most (a b : List Tri3) (ha : SmAll a) (hb : SmAll b) : (((patchOf a b).getD ([], [])).1.length ≤ 80 ∧ ((patchOf a b).getD ([], [])).2.length ≤ 80) ∧ (SmAll ((patchOf a b).getD ([], [])).1 ∧ SmAll ((patchOf a b).getD ([], [])).2) := by
  unfold patchOf
  split
  · rename_i h
    exact ⟨⟨outT_graph_len h.1, outT_graph_len h.2⟩, fun t ht => ha t (outT_mem.1 ht).1, fun t ht => hb t (outT_mem.1 ht).1⟩
  · exact ⟨by simp, fun t ht => by simp at ht, fun t ht => by simp at ht⟩
set_option maxRecDepth 100000 in
set_option maxHeartbeats 3200000 in
theorem specPatchOf (a b : Option Addr) (la ca lb cb : Nat) (ts us : List Tri3) (w : World) (h : IsTris w a la ca ts) (k : IsTris w b lb cb us) (s1 : Sm ts) (s2 : Sm us) (l1 : la ≤ 1048576) (l2 : lb ≤ 1048576) :
    Calls Tryz.prog 19 #[.slice a la ca, .slice b lb cb] w (Res2 (patchOf ts us) w) := by
  have B0 := Lib.hid ((Below.refl w.heap.size w).alloc (Nat.le_refl _) (.cells #[.slice none 0 0, .slice none 0 0] 26))
  have X0 := Lib.hid (cells_new w #[.slice none 0 0, .slice none 0 0] 26)
  have A1 := specGraphOk a la ca ts _ (h.next B0.out) s1
  have A2 : Hid (∀ W, Below w.heap.size w W → Calls Tryz.prog 25 #[.slice b lb cb] W fun e w' => e = .returned (.bool (graphOk us)) ∧ Below W.heap.size W w') := Lib.hid (fun W hb => specGraphOk b lb cb us W (k.next hb) s2)
  have H := Lib.hid h
  have KG := Lib.hid k
  clear h k s1 s2
  cases g1 : graphOk ts
  · rw [g1] at A1
    have HR : Hid (patchOf ts us = none) := Lib.hid (by unfold patchOf; rw [g1]; simp)
    have C1 := Lib.hid A1
    clear A1 g1
    go_enter Tryz.func19, Tryz.ntmps19
    go_wp2_with fail
    refine C1.out.mono ?_
    rintro e w1 ⟨rfl, hb⟩
    have B1 := Lib.hid (B0.out.trans (hb.mono B0.out.size))
    have X1 := Lib.hid (X0.out.next hb)
    clear B0 X0
    clear hb
    obtain ⟨a0, a1⟩ := X1.out.now.two
    obtain ⟨f0, f1⟩ := X1.out.now.frees
    go_wp2_with fail
    refine bodyPost_ret (v := .tuple #[.agg #[.slice none 0 0, .slice none 0 0], .bool false]) (by simp [results, Tryz.results19, go_sem, *]) rfl ⟨_, _, by rw [HR.out]; rfl, ?_, below_two B1.out _ (Nat.le_refl _) _ _⟩
    rw [HR.out]
    exact own2_nil _ (by rw [set2_size]; exact B1.out.size)
  rw [g1] at A1
  have C1 := Lib.hid A1
  have G1 := Lib.hid g1
  clear A1 g1
  cases g2 : graphOk us
  · rw [g2] at A2
    have HR : Hid (patchOf ts us = none) := Lib.hid (by unfold patchOf; rw [g2]; simp)
    clear g2
    go_enter Tryz.func19, Tryz.ntmps19
    go_wp2_with fail
    refine C1.out.mono ?_
    rintro e w1 ⟨rfl, hb⟩
    have B1 := Lib.hid (B0.out.trans (hb.mono B0.out.size))
    have X1 := Lib.hid (X0.out.next hb)
    clear B0 X0
    clear hb
    go_wp2_with fail
    refine (A2.out _ B1.out).mono ?_
    rintro e w2 ⟨rfl, hb⟩
    have B2 := Lib.hid (B1.out.trans (hb.mono B1.out.size))
    have X2 := Lib.hid (X1.out.next hb)
    clear B1 X1
    clear hb
    obtain ⟨a0, a1⟩ := X2.out.now.two
    obtain ⟨f0, f1⟩ := X2.out.now.frees
    go_wp2_with fail
    refine bodyPost_ret (v := .tuple #[.agg #[.slice none 0 0, .slice none 0 0], .bool false]) (by simp [results, Tryz.results19, go_sem, *]) rfl ⟨_, _, by rw [HR.out]; rfl, ?_, below_two B2.out _ (Nat.le_refl _) _ _⟩
    rw [HR.out]
    exact own2_nil _ (by rw [set2_size]; exact B2.out.size)
  rw [g2] at A2
  have HR : Hid (patchOf ts us = some (outT ts us, outT us ts)) := Lib.hid (by unfold patchOf; rw [if_pos ⟨G1.out, g2⟩])
  clear g2
  go_enter Tryz.func19, Tryz.ntmps19
  go_wp2_with fail
  refine C1.out.mono ?_
  rintro e w1 ⟨rfl, hb⟩
  have B1 := Lib.hid (B0.out.trans (hb.mono B0.out.size))
  have X1 := Lib.hid (X0.out.next hb)
  clear B0 X0
  clear hb
  go_wp2_with fail
  refine (A2.out _ B1.out).mono ?_
  rintro e w2 ⟨rfl, hb⟩
  have B2 := Lib.hid (B1.out.trans (hb.mono B1.out.size))
  have X2 := Lib.hid (X1.out.next hb)
  clear B1 X1
  clear hb
  go_wp2_with fail
  have HZ := Lib.hid (show w.heap.size < w2.heap.size from X2.out.le)
  refine (specLess14 a b la ca lb cb ts us _ (H.out.next B2.out) (KG.out.next B2.out) l1 l2).mono ?_
  rintro e w3 ⟨v, rfl, ho, hb⟩
  have hz23 := Lib.hid hb.size
  obtain ⟨p1, q1, rfl, hh⟩ := ownC_shape ho hb rfl
  have B3 := Lib.hid (B2.out.trans (hb.mono B2.out.size))
  have X3 := Lib.hid (X2.out.next hb)
  clear B2 X2
  have V3 := Lib.hid (hh)
  clear ho hb hh
  go_wp2_with fail
  have LV := Lib.hid V3.out.le
  refine (specLess14 b a lb cb la ca us ts _ (KG.out.next B3.out) (H.out.next B3.out) l2 l1).mono ?_
  rintro e w4 ⟨v, rfl, ho, hb⟩
  obtain ⟨p2, q2, rfl, hh⟩ := ownC_shape ho hb rfl
  have B4 := Lib.hid (B3.out.trans (hb.mono B3.out.size))
  have X4 := Lib.hid (X3.out.next hb)
  have V4 := Lib.hid (V3.out.next hb)
  clear B3 X3 V3
  have U4 := Lib.hid (hh)
  clear ho hb hh
  obtain ⟨a0, a1⟩ := X4.out.now.two
  obtain ⟨f0, f1⟩ := X4.out.now.frees
  go_wp2_with fail
  refine bodyPost_ret (v := .tuple #[.agg #[.slice p1 (outT ts us).length q1, .slice p2 (outT us ts).length q2], .bool true]) (by simp [results, Tryz.results19, go_sem, *]) rfl ⟨_, _, by rw [HR.out]; rfl, ?_, below_two B4.out _ (Nat.le_refl _) _ _⟩
  rw [HR.out]
  exact own2_end V4.out.now.1 U4.out.now.1 HZ.out (Nat.lt_of_lt_of_le HZ.out hz23.out) (fun j h1 h2 => by have := V4.out.now.2 j h1; have := LV.out; have := (World.ownsRow.lt U4.out.now.1 j h2).1; omega) (set2_size _ _ _ _) (set2_else _ _ _ _)
set_option maxRecDepth 100000 in
set_option maxHeartbeats 6400000 in
theorem specPatched (a a1 a2 : Option Addr) (la ca n1 n2 c1 c2 : Nat) (ts t1 t2 : List Tri3) (w : World) (k : IsTris w a la ca ts) (h : Is2 w a1 a2 n1 n2 c1 c2 t1 t2) (s0 : Sm ts) (s1 : Sm t1) (s2 : Sm t2) (l0 : la ≤ 1048576) (l1 : n1 ≤ 1048576) (l2 : n2 ≤ 1048576) :
    Calls Tryz.prog 7 #[.slice a la ca, .agg #[.slice a1 n1 c1, .slice a2 n2 c2]] w (ResPost (patchedO ts t1 t2) w) := by
  have B0 := Lib.hid ((Below.refl w.heap.size w).alloc (Nat.le_refl _) (.cells #[.slice a1 n1 c1, .slice a2 n2 c2] 26))
  have X0 := Lib.hid (cells_new w #[.slice a1 n1 c1, .slice a2 n2 c2] 26)
  have H := Lib.hid h
  have KG := Lib.hid k
  have HL := Lib.hid (And.intro k.len (And.intro h.1.len h.2.len))
  have A1 := specGraphOk a la ca ts _ (k.next B0.out) s0
  have S := Lib.hid (And.intro s0 (And.intro s1 s2))
  have A2 : Hid (∀ W, Below w.heap.size w W → Calls Tryz.prog 14 #[.agg #[.slice a1 n1 c1, .slice a2 n2 c2]] W fun e w' => e = .returned (.bool (patchOk t1 t2)) ∧ Below W.heap.size W w') := Lib.hid (fun W hb => specPatchOk a1 a2 n1 n2 c1 c2 t1 t2 W (h.next hb) s1 s2 l1 l2)
  clear h k s0 s1 s2
  cases g1 : graphOk ts
  · rw [g1] at A1
    have HR : Hid (patchedO ts t1 t2 = none) := Lib.hid (by unfold patchedO; rw [g1]; simp)
    have C1 := Lib.hid A1
    clear A1 g1
    go_enter Tryz.func7, Tryz.ntmps7
    go_wp2_with fail
    refine C1.out.mono ?_
    rintro e w1 ⟨rfl, hb⟩
    have B1 := Lib.hid (B0.out.trans (hb.mono B0.out.size))
    have X1 := Lib.hid (X0.out.next hb)
    clear B0 X0
    clear hb
    go_wp2_with fail
    go_ret2
    rw [HR.out]
    exact ResPost.no B1.out
  rw [g1] at A1
  have C1 := Lib.hid A1
  have G1 := Lib.hid g1
  clear A1 g1
  cases g2 : patchOk t1 t2
  · rw [g2] at A2
    have HR : Hid (patchedO ts t1 t2 = none) := Lib.hid (by unfold patchedO; rw [g2]; simp)
    clear g2
    go_enter Tryz.func7, Tryz.ntmps7
    go_wp2_with fail
    refine C1.out.mono ?_
    rintro e w1 ⟨rfl, hb⟩
    have B1 := Lib.hid (B0.out.trans (hb.mono B0.out.size))
    have X1 := Lib.hid (X0.out.next hb)
    clear B0 X0
    clear hb
    obtain ⟨x0, x1⟩ := X1.out.now.two
    go_wp2_with fail
    refine (A2.out _ B1.out).mono ?_
    rintro e w2 ⟨rfl, hb⟩
    clear x0 x1
    have B2 := Lib.hid (B1.out.trans (hb.mono B1.out.size))
    have X2 := Lib.hid (X1.out.next hb)
    clear B1 X1
    clear hb
    go_wp2_with fail
    go_ret2
    rw [HR.out]
    exact ResPost.no B2.out
  rw [g2] at A2
  have la80 : la ≤ 80 := by have := graphOk_len G1.out; have := HL.out.1; omega
  have n180 : n1 ≤ 80 := by have := graphOk_len (patchOk_iff.1 g2).1; have := HL.out.2.1; omega
  have n280 : n2 ≤ 80 := by have := graphOk_len (patchOk_iff.1 g2).2.1; have := HL.out.2.2; omega
  have HV : Hid (patchedO ts t1 t2 = if subT ts t1 = true ∧ anyT ts t2 = false then unionO (outT ts t1) t2 else none) := Lib.hid (by
    unfold patchedO
    by_cases c : subT ts t1 = true ∧ anyT ts t2 = false
    · rw [if_pos ⟨G1.out, g2, c.1, c.2⟩, if_pos c]
    · rw [if_neg (fun d => c ⟨d.2.2.1, d.2.2.2⟩), if_neg c])
  have HU : Hid (unionO (outT ts t1) t2 = if (unionT (outT ts t1) t2).length ≤ 80 then some (unionT (outT ts t1) t2) else none) := Lib.hid (unionO_out G1.out (patchOk_iff.1 g2).2.1)
  clear g2
  go_enter Tryz.func7, Tryz.ntmps7
  go_wp2_with fail
  refine C1.out.mono ?_
  rintro e w1 ⟨rfl, hb⟩
  have B1 := Lib.hid (B0.out.trans (hb.mono B0.out.size))
  have X1 := Lib.hid (X0.out.next hb)
  clear B0 X0
  clear hb
  obtain ⟨x0, x1⟩ := X1.out.now.two
  go_wp2_with fail
  refine (A2.out _ B1.out).mono ?_
  rintro e w2 ⟨rfl, hb⟩
  clear x0 x1
  have B2 := Lib.hid (B1.out.trans (hb.mono B1.out.size))
  have X2 := Lib.hid (X1.out.next hb)
  clear B1 X1
  clear hb
  obtain ⟨x0, x1⟩ := X2.out.now.two
  go_wp2_with fail
  clear x0 x1
  go_loopw [6] (fun i wr => ∃ k : Nat, k ≤ n1 ∧ i = .int .i64 k ∧ Hid (subT ts (t1.take k) = true) ∧ Hid (Holds w.heap.size (w.heap.size + 1) wr (Cells w.heap.size #[.slice a1 n1 c1, .slice a2 n2 c2] 26)) ∧ Hid (Below w.heap.size w wr)) (fun i _ => n1 - (intOf i).toNat)
  case atStart => exact ⟨0, Nat.zero_le _, rfl, Lib.hid (by simp [subT]), X2, B2⟩
  case round =>
    obtain ⟨k, hk, rfl, hno, hX, hB⟩ := hrel
    clear X2 B2
    have hk6 : (0 : Int) ≤ (k : Int) := by omega
    obtain ⟨x0, x1⟩ := hX.out.now.two
    by_cases hlt : k < n1
    · have hk7 : (k : Int) < (n1 : Int) := by omega
      obtain ⟨b1, off, rfl, hb, hl', hm, hts, hcs⟩ := H.out.1.cells (by omega)
      have ht : t1[k]? = some (t1[k]'(by omega)) := List.getElem?_eq_getElem (by omega)
      have HS : Hid (t1.take (k + 1) = t1.take k ++ [t1[k]'(by omega)]) := Lib.hid (List.take_succ_eq_append_getElem (by omega))
      obtain ⟨d0, d1, d2, m0, m1, m2⟩ := hcs k _ ht
      rw [← hB.out.cell (p := ⟨b1, _, none⟩) hb] at d0 d1 d2
      have HT1 := Lib.hid ht
      generalize t1[k]'(by omega) = u at ht d0 d1 d2 m0 m1 m2 HS HT1
      obtain ⟨u0, u1, u2⟩ := u
      simp only at d0 d1 d2
      have C := specHas2 a la ca ts u0 u1 u2 wr (KG.out.next hB.out) l0
      clear hts hcs hm m0 m1 m2 hl' ht
      cases hq : decide ((u0, u1, u2) ∈ ts)
      · rw [hq] at C
        have HC := Lib.hid C
        have HR : Hid (patchedO ts t1 t2 = none) := Lib.hid (by
          rw [HV.out, if_neg (fun c => by have := subT_iff.1 c.1 _ (List.mem_of_getElem? HT1.out); exact of_decide_eq_false hq this)])
        clear C hq hno
        go_wp2_with fail
        refine HC.out.mono ?_
        rintro e w3 ⟨rfl, hb⟩
        have B3 := Lib.hid (hB.out.trans (hb.mono hB.out.size))
        clear hb d0 d1 d2 x0 x1
        go_wp2_with fail
        go_ret2
        rw [HR.out]
        exact ResPost.no B3.out
      · rw [hq] at C
        have HC := Lib.hid C
        have HN : Hid (subT ts (t1.take (k + 1)) = true) := Lib.hid (by
          rw [HS.out]; refine subT_iff.2 fun t ht => ?_
          rcases List.mem_append.1 ht with g | g
          · exact subT_iff.1 hno.out t g
          · rw [List.mem_singleton.1 g]; exact of_decide_eq_true hq)
        clear C hq hno
        go_wp2_with fail
        refine HC.out.mono ?_
        rintro e w3 ⟨rfl, hb⟩
        have B3 := Lib.hid (hB.out.trans (hb.mono hB.out.size))
        have X3 := Lib.hid (hX.out.next hb)
        clear hb d0 d1 d2 x0 x1
        go_wp2_with fail
        go_roundw
        case rel => exact ⟨k + 1, by omega, by go_num, HN, X3, B3⟩
        case measure => simp [intOf]; omega
    obtain rfl : k = n1 := by omega
    have HSUB : Hid (subT ts t1 = true) := Lib.hid (by
      have := hno.out
      rwa [List.take_of_length_le (by rw [HL.out.2.1]; exact Nat.le_refl _)] at this)
    clear hno hlt
    go_wp2_with fail
    clear x0 x1
    go_loopw [7] (fun i wr => ∃ j : Nat, j ≤ n2 ∧ i = .int .i64 j ∧ Hid (anyT ts (t2.take j) = false) ∧ Hid (Holds w.heap.size (w.heap.size + 1) wr (Cells w.heap.size #[.slice a1 k c1, .slice a2 n2 c2] 26)) ∧ Hid (Below w.heap.size w wr)) (fun i _ => n2 - (intOf i).toNat)
    case atStart => exact ⟨0, Nat.zero_le _, rfl, Lib.hid (by simp [anyT]), hX, hB⟩
    case round =>
      obtain ⟨j, hj, rfl, hno, hX, hB⟩ := hrel
      have hj6 : (0 : Int) ≤ (j : Int) := by omega
      obtain ⟨x0, x1⟩ := hX.out.now.two
      by_cases hlt : j < n2
      · have hj7 : (j : Int) < (n2 : Int) := by omega
        obtain ⟨b1, off, rfl, hb, hl', hm, hts, hcs⟩ := H.out.2.cells (by omega)
        have ht : t2[j]? = some (t2[j]'(by omega)) := List.getElem?_eq_getElem (by omega)
        have HS : Hid (t2.take (j + 1) = t2.take j ++ [t2[j]'(by omega)]) := Lib.hid (List.take_succ_eq_append_getElem (by omega))
        obtain ⟨d0, d1, d2, m0, m1, m2⟩ := hcs j _ ht
        rw [← hB.out.cell (p := ⟨b1, _, none⟩) hb] at d0 d1 d2
        have HT1 := Lib.hid ht
        generalize t2[j]'(by omega) = u at ht d0 d1 d2 m0 m1 m2 HS HT1
        obtain ⟨u0, u1, u2⟩ := u
        simp only at d0 d1 d2
        have C := specHas2 a la ca ts u0 u1 u2 _ (KG.out.next hB.out) l0
        clear hts hcs hm m0 m1 m2 hl' ht
        cases hq : decide ((u0, u1, u2) ∈ ts)
        rotate_left
        · rw [hq] at C
          have HC := Lib.hid C
          have HR : Hid (patchedO ts t1 t2 = none) := Lib.hid (by
            rw [HV.out, if_neg (fun c => anyT_no.1 c.2 _ (of_decide_eq_true hq) (List.mem_of_getElem? HT1.out))])
          clear C hq hno
          go_wp2_with fail
          refine HC.out.mono ?_
          rintro e w3 ⟨rfl, hb⟩
          have B3 := Lib.hid (hB.out.trans (hb.mono hB.out.size))
          clear hb d0 d1 d2 x0 x1
          go_wp2_with fail
          go_ret2
          rw [HR.out]
          exact ResPost.no B3.out
        · rw [hq] at C
          have HC := Lib.hid C
          have HN : Hid (anyT ts (t2.take (j + 1)) = false) := Lib.hid (by rw [HS.out, anyT_snoc, hno.out, hq]; rfl)
          clear C hq hno
          go_wp2_with fail
          refine HC.out.mono ?_
          rintro e w3 ⟨rfl, hb⟩
          have B3 := Lib.hid (hB.out.trans (hb.mono hB.out.size))
          have X3 := Lib.hid (hX.out.next hb)
          clear hb d0 d1 d2 x0 x1
          go_wp2_with fail
          go_roundw
          case rel => exact ⟨j + 1, by omega, by go_num, HN, X3, B3⟩
          case measure => simp [intOf]; omega
      obtain rfl : j = n2 := by omega
      have HANY : Hid (anyT ts t2 = false) := Lib.hid (by
        have := hno.out
        rwa [List.take_of_length_le (by rw [HL.out.2.2]; exact Nat.le_refl _)] at this)
      have HR : Hid (patchedO ts t1 t2 = if (unionT (outT ts t1) t2).length ≤ 80 then some (unionT (outT ts t1) t2) else none) := Lib.hid (by rw [HV.out, if_pos ⟨HSUB.out, HANY.out⟩, HU.out])
      clear hno hlt
      have hX2 := Lib.hid hX.out.drew
      have hB2 := Lib.hid hB.out.drew
      go_wp2_with fail
      clear x0 x1
      obtain ⟨x0, x1⟩ := hX2.out.now.two
      go_region_held3 (fun w' => w'.cell? ⟨w.heap.size, 0, none⟩ = some (.slice a1 k c1) ∧ w'.cell? ⟨w.heap.size, 1, none⟩ = some (.slice a2 j c2))
        (first | with_reducible exact X4.out.now.two | with_reducible exact X3.out.now.two | with_reducible exact hX2.out.now.two)
        (first
          | (go_at_call 28; refine (specLess14 a a1 la ca k c1 ts t1 _ (KG.out.next hB2.out) (H.out.1.next hB2.out) l0 l1).mono ?_; rintro e w3 ⟨v, rfl, ho, hb⟩
             have B3 := Lib.hid (hB2.out.trans (hb.mono hB2.out.size)); have X3 := Lib.hid (hX2.out.next hb); obtain ⟨p1, q1, rfl, ii, pp⟩ := OwnT.plain ho (sm_most (outT_sm S.out.1)); have I3 := Lib.hid (And.intro ii pp); clear hb ho ii pp)
          | (go_at_call 27; refine (specUnionL p1 a2 _ q1 j c2 (outT ts t1) t2 _ I3.out.1 I3.out.2 (H.out.2.next B3.out) (outT_graph_len G1.out) (by omega)).mono ?_; rintro e w4 ⟨v, rfl, ho, hb⟩
             have hsz := B3.out.size; have O4 := Lib.hid (own_base ho hsz); have B4 := Lib.hid (B3.out.trans (hb.mono B3.out.size)); have X4 := Lib.hid (X3.out.next hb); clear hb ho hsz))
      clear x0 x1
      obtain ⟨p2, q2, r2, rfl⟩ := ownT_shape O4.out
      obtain rfl : q2 = (unionT (outT ts t1) t2).length := by
        rcases O4.out.2 with ⟨e, h⟩ | ⟨g, c, cur, e, _⟩
        · simp only [Value.slice.injEq] at e; omega
        · simp only [Value.slice.injEq] at e; exact e.2.1
      generalize unionT (outT ts t1) t2 = UU at O4 HR ⊢
      have hul : (UU.length : Int) = (UU.length : Int) := rfl
      clear hul
      by_cases c : (80 : Int) < (UU.length : Int)
      · have HR2 : Hid (patchedO ts t1 t2 = none) := Lib.hid (by rw [HR.out, if_neg (by omega)])
        go_wp2_with fail
        go_ret2
        rw [HR2.out]
        exact ResPost.no B4.out
      · have HR2 : Hid (patchedO ts t1 t2 = some UU) := Lib.hid (by rw [HR.out, if_pos (by omega)])
        go_wp2_with fail
        go_ret2
        rw [HR2.out]
        exact ResPost.yes O4.out B4.out

end Go.Proofs.YtofkploffcplhaaGreat
/- Patches of drawn graphs: what the functions do with slices that are held by their triples. -/
namespace Go.Proofs.YtofkploffcplhaaGreat
open Go.RowKit Go.WideShapes
theorem GotG.alloc {w : World} {v : Value} {ts : List Tri3} (h : GotG w v ts) (o : Obj) : GotG (w.alloc o) v ts := h.next ((Below.refl w.heap.size w).alloc (Nat.le_refl _) o)
theorem GotG.drew {w : World} {v : Value} {ts : List Tri3} (h : GotG w v ts) : GotG w.drew v ts := h.next (Below.refl w.heap.size w).drew
theorem GotG.form {w : World} {v : Value} {ts : List Tri3} (h : GotG w v ts) : ∃ x n c, v = .slice x n c := by
  obtain ⟨x, c, hv, _⟩ := h
  exact ⟨x, _, c, hv⟩
theorem SmG.out {a b : List Tri3} (h : SmG a) : SmG (outT a b) := ⟨Nat.le_trans (outT_len a b) h.1, fun t ht => h.2 t (outT_mem.1 ht).1⟩
theorem SmG.nil : SmG [] := ⟨by simp, by simp⟩
theorem SmG.patched {g d a : List Tri3} (hg : SmG g) (ha : SmG a) : SmG ((patchedO g d a).getD []) := by
  cases h : patchedO g d a with
  | none => exact SmG.nil
  | some x =>
    obtain ⟨_, _, _, _, rfl, h6⟩ := patchedO_some h
    refine ⟨by have := graphOk_len h6; simp only [Option.getD_some]; omega, fun t ht => ?_⟩
    rcases unionT_mem.1 ht with c | c
    · exact hg.2 t (outT_mem.1 c).1
    · exact ha.2 t c
theorem SmG.patchOf {a b : List Tri3} (ha : SmG a) (hb : SmG b) : SmG ((patchOf a b).getD ([], [])).1 ∧ SmG ((patchOf a b).getD ([], [])).2 := by
  unfold Proofs.YtofkploffcplhaaGreat.patchOf
  split
  · exact ⟨ha.out, hb.out⟩
  · exact ⟨SmG.nil, SmG.nil⟩
/-- What a function that answers a patch and a flag hands back. -/
def GotRes2 (r : Option (List Tri3 × List Tri3)) (w : World) (e : Ending) (w' : World) : Prop :=
  ∃ x1 c1 x2 c2, e = .returned (.tuple #[.agg #[.slice x1 (r.getD ([], [])).1.length c1, .slice x2 (r.getD ([], [])).2.length c2], .bool r.isSome]) ∧ GotG w' (.slice x1 (r.getD ([], [])).1.length c1) (r.getD ([], [])).1 ∧ GotG w' (.slice x2 (r.getD ([], [])).2.length c2) (r.getD ([], [])).2 ∧ Below w.heap.size w w'
theorem gotRes2 {r : Option (List Tri3 × List Tri3)} {w w' : World} {e : Ending} (h : Res2 r w e w') (s1 : SmG (r.getD ([], [])).1) (s2 : SmG (r.getD ([], [])).2) : GotRes2 r w e w' := by
  obtain ⟨v1, v2, he, ho, hb⟩ := h
  have g1 := got_of ho.now.1.1 s1
  have g2 := got_of ho.now.2.1.1 s2
  obtain ⟨x1, c1, rfl⟩ := (show ∃ x c, v1 = .slice x (r.getD ([], [])).1.length c from by obtain ⟨x, c, h, _⟩ := g1; exact ⟨x, c, h⟩)
  obtain ⟨x2, c2, rfl⟩ := (show ∃ x c, v2 = .slice x (r.getD ([], [])).2.length c from by obtain ⟨x, c, h, _⟩ := g2; exact ⟨x, c, h⟩)
  exact ⟨x1, c1, x2, c2, he, g1, g2, hb⟩
theorem specPatchOfG {v u : Value} {ts us : List Tri3} {w : World} (h : GotG w v ts) (k : GotG w u us) : Calls Tryz.prog 19 #[v, u] w (GotRes2 (patchOf ts us) w) := by
  obtain ⟨x, c, rfl, hi, hp, hs⟩ := h
  obtain ⟨y, d, rfl, ki, kp, ks⟩ := k
  exact (specPatchOf x y _ c _ d ts us w hi ki hs.sm ks.sm (by have := hs.1; omega) (by have := ks.1; omega)).mono fun e w' g => gotRes2 g (SmG.patchOf hs ks).1 (SmG.patchOf hs ks).2
theorem implPatchOkG {v u : Value} {ts us : List Tri3} {w : World} (h : GotG w v ts) (k : GotG w u us) : Calls Tryz.prog 13 #[.agg #[v, u]] w fun e w' => e = .returned (.bool (patchOk ts us)) ∧ Below w.heap.size w w' := by
  obtain ⟨x, c, rfl, hi, hp, hs⟩ := h
  obtain ⟨y, d, rfl, ki, kp, ks⟩ := k
  exact implPatchOk x y _ _ c d ts us w ⟨hi, ki⟩ hs.sm ks.sm
theorem implPatchedG {z v u : Value} {gs ts us : List Tri3} {w : World} (j : GotG w z gs) (h : GotG w v ts) (k : GotG w u us) : Calls Tryz.prog 6 #[z, .agg #[v, u]] w (GotRes (patchedO gs ts us) w) := by
  obtain ⟨p, q, rfl, ji, jp, js⟩ := j
  obtain ⟨x, c, rfl, hi, hp, hs⟩ := h
  obtain ⟨y, d, rfl, ki, kp, ks⟩ := k
  exact (implPatched p x y _ q _ _ c d gs ts us w ji ⟨hi, ki⟩ js.sm hs.sm ks.sm).mono fun e w' g => gotRes (SmG.patched js ks) g
theorem implInverseG {v u : Value} {ts us : List Tri3} {w : World} (h : GotG w v ts) (k : GotG w u us) : Calls Tryz.prog 11 #[.agg #[v, u]] w fun e w' => ∃ x1 c1 x2 c2, e = .returned (.agg #[.slice x1 us.length c1, .slice x2 ts.length c2]) ∧ GotG w' (.slice x1 us.length c1) us ∧ GotG w' (.slice x2 ts.length c2) ts ∧ Below w.heap.size w w' := by
  obtain ⟨x, c, rfl, hi, hp, hs⟩ := h
  obtain ⟨y, d, rfl, ki, kp, ks⟩ := k
  refine (implInverse x y _ _ c d ts us w ⟨hi, ki⟩ (by have := hs.1; omega) (by have := ks.1; omega)).mono fun e w' ⟨v1, v2, he, ho, hb⟩ => ?_
  have g1 := got_of ho.now.1.1 ks
  have g2 := got_of ho.now.2.1.1 hs
  obtain ⟨x1, c1, rfl⟩ := (show ∃ x c, v1 = .slice x us.length c from by obtain ⟨x, c, h, _⟩ := g1; exact ⟨x, c, h⟩)
  obtain ⟨x2, c2, rfl⟩ := (show ∃ x c, v2 = .slice x ts.length c from by obtain ⟨x, c, h, _⟩ := g2; exact ⟨x, c, h⟩)
  exact ⟨x1, c1, x2, c2, he, g1, g2, hb⟩
set_option maxRecDepth 100000 in
set_option maxHeartbeats 1600000 in
theorem samePatchG {u1 u2 v1 v2 : Value} {s1 s2 : List Tri3} {w : World} (h1 : GotG w u1 s1) (h2 : GotG w u2 s2) (k1 : GotG w v1 s1) (k2 : GotG w v2 s2) :
    Calls Tryz.prog 10 #[.agg #[u1, u2], .agg #[v1, v2]] w fun e w' => e = .returned (.bool true) ∧ Below w.heap.size w w' := by
  obtain ⟨a1, n1, c1, rfl⟩ := h1.form
  obtain ⟨a2, n2, c2, rfl⟩ := h2.form
  obtain ⟨b1, m1, d1, rfl⟩ := k1.form
  obtain ⟨b2, m2, d2, rfl⟩ := k2.form
  have B0 := Lib.hid (((Below.refl w.heap.size w).alloc (Nat.le_refl _) (.cells #[.slice a1 n1 c1, .slice a2 n2 c2] 26)).alloc (by simp) (.cells #[.slice b1 m1 d1, .slice b2 m2 d2] 26))
  have X0 := Lib.hid ((cells_new w #[.slice a1 n1 c1, .slice a2 n2 c2] 26).alloc (.cells #[.slice b1 m1 d1, .slice b2 m2 d2] 26))
  have Y0' := cells_new (w.alloc (.cells #[.slice a1 n1 c1, .slice a2 n2 c2] 26)) #[.slice b1 m1 d1, .slice b2 m2 d2] 26
  rw [World.size_alloc] at Y0'
  have Y0 := Lib.hid Y0'
  clear Y0'
  have S1 : Hid (∀ W, Below w.heap.size w W → Calls Tryz.prog 9 #[.slice a1 n1 c1, .slice b1 m1 d1] W fun e w' => e = .returned (.bool true) ∧ Below W.heap.size W w') := Lib.hid (fun W hb => by have := sameG (h1.next hb) (k1.next hb); rwa [decide_eq_true rfl] at this)
  have S2 : Hid (∀ W, Below w.heap.size w W → Calls Tryz.prog 9 #[.slice a2 n2 c2, .slice b2 m2 d2] W fun e w' => e = .returned (.bool true) ∧ Below W.heap.size W w') := Lib.hid (fun W hb => by have := sameG (h2.next hb) (k2.next hb); rwa [decide_eq_true rfl] at this)
  clear h1 h2 k1 k2
  obtain ⟨x0, x1⟩ := X0.out.now.two
  obtain ⟨y0, y1⟩ := Y0.out.now.two
  go_enter Tryz.func10, Tryz.ntmps10
  go_wp2_with fail
  refine (S1.out _ B0.out).mono ?_
  rintro e w1 ⟨rfl, hb⟩
  have B1 := Lib.hid (B0.out.trans (hb.mono B0.out.size))
  have X1 := Lib.hid (X0.out.next hb)
  have Y1 := Lib.hid (Y0.out.next hb)
  clear x0 x1 y0 y1 hb B0 X0 Y0
  obtain ⟨x0, x1⟩ := X1.out.now.two
  obtain ⟨y0, y1⟩ := Y1.out.now.two
  go_wp2_with fail
  refine (S2.out _ B1.out).mono ?_
  rintro e w2 ⟨rfl, hb⟩
  go_wp2_with fail
  go_ret
  exact ⟨rfl, B1.out.trans (hb.mono B1.out.size)⟩
end Go.Proofs.YtofkploffcplhaaGreat
