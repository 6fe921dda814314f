/- Disks copied and synced: both sides. -/
import Derived.Test.YtamnlifdfhmbnaaG13
import Derived.Test.YtamnlifdfhmbnaaG18
namespace Go.Proofs.Ytamnlifdfhmbnaa
open Go.RowKit Go.WideShapes
theorem ownOp_empty {g : Nat} {w : World} (h : Cells g #[] 36 w) : OwnOp g w (.slice (some ⟨g, 0, none⟩) 0 0) [] := by
  refine ⟨rfl, .inr ⟨g, 0, #[], rfl, Nat.le_refl _, h, Nat.le_refl _, by decide, rfl, rfl⟩⟩
theorem flatOp_len (ts : List OpV) : (flatOp ts).length = ts.length * 4 := by
  induction ts with
  | nil => rfl
  | cons t r ih => simp only [flatOp, List.flatMap_cons, List.length_append, List.length_cons, List.length_nil] at *; omega
/-- 'append([]DOp{}, x...)': a copy of x. -/
theorem upon_copyOp {o : Oper} {a : Act} {w : World} {Q : Exit → Act → World → Prop} {K : Act → World → Prop} (s x : Operand)
    (ho : o.op = .call { callee := .builtin .append, args := #[s, x], argTypes := #[25, 25] }) (g : Nat) (hs : a.eval s = .slice (some ⟨g, 0, none⟩) 0 0) (hA : Cells g #[] 36 w)
    (ad : Option Addr) (n c : Nat) (ts : List OpV) (hx : a.eval x = .slice ad n c) (h : IsOps w ad n c ts) (hl : n ≤ 1048576)
    (k : ∀ (v' : Value) (w' : World) (j : Nat), j = g ∨ j = w.heap.size → v'.ownBlock = some j → OwnOp j w' v' ts → Turn g (g + 1) w w' → K (a.put o.dst v') w') : Oper.wp Try.prog o a w K Q := by
  obtain ⟨i0, hi, hz0, hz1, hz2⟩ := info_parts infoDop
  have O0 := ownOp_empty hA
  have hg : g < w.heap.size := (World.ownsRow.lt O0 g rfl).2
  rcases h with ⟨rfl, rfl, rfl, rfl⟩ | ⟨y, rfl, h1, h2, h3, h4⟩
  · have hrun := run_append_owned_none (P := Try.prog) (w := w) g 25 o.type 36 i0 4 Try.underlying25 hi _ 0 _ O0
    unfold Oper.wp
    simp [execOp, ho, resolve, invoke, builtin, hs, hx, hrun, Result.andThen]
    exact k _ _ g (.inl rfl) rfl O0 ⟨rfl, rfl, rfl, Nat.le_refl _, fun _ _ _ => rfl⟩
  · have F : ∀ (j : Nat) (u : Value), (flatOp ts)[j]? = some u → w.cell? (y.add j) = some u := by
      intro j u hu
      have hj : j < ts.length * 4 := by rw [← flatOp_len]; exact (List.getElem?_eq_some_iff.1 hu).1
      have hk : j / 4 < ts.length := by omega
      obtain ⟨f0, f1, f2, f3⟩ := flatOp_at ts (j / 4) _ (List.getElem?_eq_getElem hk)
      obtain ⟨c0, c1, c2, c3, _⟩ := h4 (j / 4) _ (List.getElem?_eq_getElem hk)
      obtain e | e | e | e : j = 4 * (j / 4) ∨ j = 4 * (j / 4) + 1 ∨ j = 4 * (j / 4) + 2 ∨ j = 4 * (j / 4) + 3 := by omega
      · rw [e] at hu ⊢; rw [Nat.mul_comm] at hu; rw [c0, ← hu, f0]
      · rw [e] at hu ⊢; rw [Nat.mul_comm] at hu; rw [c1, ← hu, f1]
      · rw [e] at hu ⊢; rw [Nat.mul_comm] at hu; rw [c2, ← hu, f2]
      · rw [e] at hu ⊢; rw [Nat.mul_comm] at hu; rw [c3, ← hu, f3]
    have F1 : ∀ y ∈ flatOp ts, y.oneCell' = true := by
      intro y hy
      unfold flatOp at hy
      obtain ⟨t, _, ht⟩ := List.mem_flatMap.1 hy
      simp at ht
      rcases ht with rfl | rfl | rfl | rfl <;> rfl
    obtain ⟨v', w', hr, ho1, hg1, _, hat⟩ := run_append_own_at (P := Try.prog) (w := w) g 25 o.type 36 i0 (.agg #[.int .i64 0, .string ⟨#[]⟩, .string ⟨#[]⟩, .string ⟨#[]⟩]) 4 56 Try.underlying25 hi hz0 hz1 hz2 rfl (by decide) _ 0 _ O0 y n c (flatOp ts) (by rw [flatOp_len, h3]) F F1 (by unfold maxLen; omega) (by omega) (by omega)
    have O1 : OwnOp g w' v' ts := by unfold OwnOp; rw [h3]; simpa [show flatOp ([] : List OpV) = [] from rfl] using ho1
    have hat2 : ∀ j, v'.ownBlock = some j → OwnOp j w' v' ts := fun j hj => by
      obtain ⟨q1, q2⟩ := O1
      refine ⟨q1, ?_⟩
      rcases q2 with ⟨rfl, e⟩ | ⟨g', cap, cur, rfl, hB, r⟩
      · simp [Value.ownBlock] at hj
      · obtain rfl : g' = j := by simpa [Value.ownBlock] using hj
        exact .inr ⟨g', cap, cur, rfl, Nat.le_refl _, r⟩
    unfold Oper.wp
    simp [execOp, ho, resolve, invoke, builtin, hs, hx, hr, Result.andThen]
    have T : Turn g (g + 1) w w' := .of_grown hg1 (fun j hj => by simp [Value.ownBlock] at hj; omega)
    rcases hat with e | e
    · exact k _ _ g (.inl rfl) e (hat2 g e) T
    · exact k _ _ w.heap.size (.inr rfl) e (hat2 _ e) T
theorem wpList_copyOp {ops : Array Oper} {rest : List Oper} {o : Oper} {a : Act} {w : World} {Q : Exit → Act → World → Prop} (hgd : o.guard = none) (s x : Operand)
    (ho : o.op = .call { callee := .builtin .append, args := #[s, x], argTypes := #[25, 25] }) (g : Nat) (hs : a.eval s = .slice (some ⟨g, 0, none⟩) 0 0) (hA : Cells g #[] 36 w)
    (ad : Option Addr) (n c : Nat) (ts : List OpV) (hx : a.eval x = .slice ad n c) (h : IsOps w ad n c ts) (hl : n ≤ 1048576)
    (k : ∀ (v' : Value) (w' : World) (j : Nat), j = g ∨ j = w.heap.size → v'.ownBlock = some j → OwnOp j w' v' ts → Turn g (g + 1) w w' → wpList Try.prog ops Q rest (a.put o.dst v') w') : wpList Try.prog ops Q (o :: rest) a w :=
  wpList_plain hgd fun _ hK => upon_copyOp s x ho g hs hA ad n c ts hx h hl fun v' w' j h1 h2 h3 h4 => hK _ _ (k v' w' j h1 h2 h3 h4)
set_option maxRecDepth 100000 in
theorem cloneFi (a : Option Addr) (len cap : Nat) (ts : List Pre2) (w : World) (h : IsPres w a len cap ts) (hl : len ≤ 1048576) :
    Calls Try.prog 85 #[.slice a len cap] w fun e w' => ∃ v, e = .returned v ∧ OwnPFi w.heap.size w' v ts ∧ Below w.heap.size w w' := by
  have q22 : ∀ (w : World) (a : Option Addr) (n c n' c' : Nat), (binOp .eql 24 (.slice a n c) (.slice none n' c')).run Try.prog w = .ok (.bool a.isNone) w := fun w a n c n' c' => Lib.run_eql_slice_nil w _ _ a n c n' c' Try.underlying24
  have HA := Lib.hid (cells_new w #[] 74).now
  have H := Lib.hid h
  have HP := Lib.hid (h.nextFi ((Below.refl _ _).alloc (Nat.le_refl _) (.cells #[] 74)))
  have NB := (Below.refl w.heap.size w).alloc (Nat.le_refl _) (.cells #[] 74)
  rcases h with ⟨rfl, rfl, rfl, rfl⟩ | ⟨x, rfl, h1, h2, h3, h4⟩
  · clear HA HP
    go_enter Try.func85, Try.ntmps85
    go_wp2_with fail
    go_ret
    exact ⟨_, rfl, World.ownsRow_nil .., Below.refl _ _⟩
  · clear h1 h2 h3 h4
    go_enter Try.func85, Try.ntmps85
    go_wp2_with (at_builtin; refine wpList_copyFi rfl _ _ rfl w.heap.size rfl HA.out (some x) len cap ts rfl HP.out hl ?_; intro v w2 j hj ov ho hT)
    have B2 := NB.trans (hT.below (B := w.heap.size) NB.size (Nat.le_refl _))
    have HO := Lib.hid ho
    clear hT ho ov
    go_wp2_with fail
    go_ret
    refine ⟨v, rfl, ownP_baseFi HO.out ?_, B2⟩
    rcases hj with rfl | rfl
    · exact Nat.le_refl _
    · exact NB.size
set_option maxRecDepth 100000 in
theorem cloneOp (a : Option Addr) (len cap : Nat) (ts : List OpV) (w : World) (h : IsOps w a len cap ts) (hl : len ≤ 1048576) :
    Calls Try.prog 88 #[.slice a len cap] w fun e w' => ∃ v, e = .returned v ∧ OwnOp w.heap.size w' v ts ∧ Below w.heap.size w w' := by
  have q22 : ∀ (w : World) (a : Option Addr) (n c n' c' : Nat), (binOp .eql 25 (.slice a n c) (.slice none n' c')).run Try.prog w = .ok (.bool a.isNone) w := fun w a n c n' c' => Lib.run_eql_slice_nil w _ _ a n c n' c' Try.underlying25
  have HA := Lib.hid (cells_new w #[] 36).now
  have H := Lib.hid h
  have HP := Lib.hid (h.next ((Below.refl _ _).alloc (Nat.le_refl _) (.cells #[] 36)))
  have NB := (Below.refl w.heap.size w).alloc (Nat.le_refl _) (.cells #[] 36)
  rcases h with ⟨rfl, rfl, rfl, rfl⟩ | ⟨x, rfl, h1, h2, h3, h4⟩
  · clear HA HP
    go_enter Try.func88, Try.ntmps88
    go_wp2_with fail
    go_ret
    exact ⟨_, rfl, World.ownsRow_nil .., Below.refl _ _⟩
  · clear h1 h2 h3 h4
    go_enter Try.func88, Try.ntmps88
    go_wp2_with (at_builtin; refine wpList_copyOp rfl _ _ rfl w.heap.size rfl HA.out (some x) len cap ts rfl HP.out hl ?_; intro v w2 j hj ov ho hT)
    have B2 := NB.trans (hT.below (B := w.heap.size) NB.size (Nat.le_refl _))
    have HO := Lib.hid ho
    clear hT ho ov
    go_wp2_with fail
    go_ret
    refine ⟨v, rfl, ownOp_base HO.out ?_, B2⟩
    rcases hj with rfl | rfl
    · exact Nat.le_refl _
    · exact NB.size
theorem turn_s3 (W : World) (g : Nat) (x y z : Value) : Turn g (g + 1) W (((W.setCell ⟨g, 0, none⟩ x).setCell ⟨g, 1, none⟩ y).setCell ⟨g, 2, none⟩ z) :=
  ⟨rfl, rfl, rfl, by simp [World.setCell], fun k _ hd => by rw [Below.heap_setCell _ _ _ _ (by show k ≠ g; omega), Below.heap_setCell _ _ _ _ (by show k ≠ g; omega), Below.heap_setCell _ _ _ _ (by show k ≠ g; omega)]⟩
theorem size_s3 (W : World) (g : Nat) (x y z : Value) : (((W.setCell ⟨g, 0, none⟩ x).setCell ⟨g, 1, none⟩ y).setCell ⟨g, 2, none⟩ z).heap.size = W.heap.size := by simp [World.setCell]
/-- A copy in a block of its own. -/
theorem held_copyFi {j : Nat} {w : World} {v : Value} {ts : List Pre2} (h : OwnPFi j w v ts) (hv : v.ownBlock = some j) : Holds j (j + 1) w (OwnPCFi j (j + 1) v ts) :=
  ⟨ownPC_livesFi, (World.ownsRow.lt h j hv).2, h, fun i hi => by rw [hv] at hi; cases hi; exact Nat.lt_succ_self _⟩
theorem held_copyOp {j : Nat} {w : World} {v : Value} {ts : List OpV} (h : OwnOp j w v ts) (hv : v.ownBlock = some j) : Holds j (j + 1) w (OwnOpC j (j + 1) v ts) :=
  ⟨ownOpC_lives, (World.ownsRow.lt h j hv).2, h, fun i hi => by rw [hv] at hi; cases hi; exact Nat.lt_succ_self _⟩
theorem fi_form {B : Nat} {w : World} {v : Value} {ts : List Pre2} (h : OwnPFi B w v ts) : ∃ a c, v = .slice a ts.length c := by
  rcases h.2 with ⟨rfl, e⟩ | ⟨g, c, cur, rfl, _⟩
  · exact ⟨none, 0, by rw [e]⟩
  · exact ⟨_, _, rfl⟩
theorem op_form {B : Nat} {w : World} {v : Value} {ts : List OpV} (h : OwnOp B w v ts) : ∃ a c, v = .slice a ts.length c := by
  rcases h.2 with ⟨rfl, e⟩ | ⟨g, c, cur, rfl, _⟩
  · exact ⟨none, 0, by rw [e]⟩
  · exact ⟨_, _, rfl⟩
/-- A disk of the call's own is what comes back. -/
def DkPost (l s : List Pre2) (o : List OpV) (w : World) (e : Ending) (w' : World) : Prop :=
  ∃ x0 y0 x1 y1 x2 y2, e = .returned (.agg #[.slice x0 l.length y0, .slice x1 s.length y1, .slice x2 o.length y2]) ∧ Holds w.heap.size w'.heap.size w' (OwnDk w.heap.size w'.heap.size (.slice x0 l.length y0) (.slice x1 s.length y1) (.slice x2 o.length y2) l s o) ∧ Below w.heap.size w w'
def syncF (l s : List Pre2) (o : List OpV) : List Pre2 := if diskOk l s o = true then l else []
set_option maxRecDepth 100000 in
set_option maxHeartbeats 6400000 in
theorem specCopyDk (a0 a1 a2 : Option Addr) (n0 n1 n2 c0 c1 c2 : Nat) (l s : List Pre2) (o : List OpV) (w : World) (h : IsDk w a0 a1 a2 n0 n1 n2 c0 c1 c2 l s o) (hn : n0 ≤ 1048576 ∧ n1 ≤ 1048576 ∧ n2 ≤ 1048576) :
    Calls Try.prog 62 #[.agg #[.slice a0 n0 c0, .slice a1 n1 c1, .slice a2 n2 c2]] w (DkPost l s o w) := by
  obtain ⟨W1, hW1⟩ : ∃ W, w.alloc (.cells #[.slice a0 n0 c0, .slice a1 n1 c1, .slice a2 n2 c2] 27) = W := ⟨_, rfl⟩
  obtain ⟨W2, hW2⟩ : ∃ W, W1.alloc (.cells #[.slice none 0 0, .slice none 0 0, .slice none 0 0] 27) = W := ⟨_, rfl⟩
  have z1 : W1.heap.size = w.heap.size + 1 := by rw [← hW1]; simp
  have z2 : W2.heap.size = w.heap.size + 2 := by rw [← hW2]; simp [z1]
  have B0 : Hid (Below w.heap.size w W2) := Lib.hid (by rw [← hW2, ← hW1]; exact ((Below.refl w.heap.size w).alloc (Nat.le_refl _) _).alloc (by simp) _)
  have X0 : Hid (Holds w.heap.size (w.heap.size + 1) W2 (Cells w.heap.size #[.slice a0 n0 c0, .slice a1 n1 c1, .slice a2 n2 c2] 27)) := Lib.hid (by rw [← hW2, ← hW1]; exact (cells_new w _ _).alloc _)
  have R0 : Hid (Holds (w.heap.size + 1) (w.heap.size + 2) W2 (Cells (w.heap.size + 1) #[.slice none 0 0, .slice none 0 0, .slice none 0 0] 27)) := Lib.hid (by
    have := cells_new W1 #[.slice none 0 0, .slice none 0 0, .slice none 0 0] 27
    rw [hW2, z1] at this; exact this)
  have HW := Lib.hid (And.intro hW1 hW2)
  have M0 : Hid (w.heap.size + 2 ≤ W2.heap.size) := Lib.hid (by omega)
  have H := Lib.hid h
  obtain ⟨hn0, hn1, hn2⟩ := hn
  clear h hW1 hW2 z1 z2
  go_enter Try.func62, Try.ntmps62
  go_wp2_with fail
  rw [HW.out.1, HW.out.2]
  have B1 := Lib.hid B0.out.drew
  have X1 := Lib.hid X0.out.drew
  have R1 := Lib.hid R0.out.drew
  clear B0 X0 R0
  refine wp_region_held_drew (S := (fun w' => w'.cell? ⟨w.heap.size, 0, none⟩ = some (.slice a0 n0 c0) ∧ w'.cell? ⟨w.heap.size, 1, none⟩ = some (.slice a1 n1 c1) ∧ w'.cell? ⟨w.heap.size, 2, none⟩ = some (.slice a2 n2 c2))) (by kernel_rfl) ?_ (fun hHeld => ?_)
  · exact X1.out.now.treDk
  have M1 : Hid (W2.heap.size ≤ W2.drew.heap.size) := Lib.hid (Nat.le_refl _)
  generalize hV1 : W2.drew = V1 at B1 X1 R1 M1 hHeld ⊢
  clear hV1
  refine wpAnyH_take (i := 1) (v := ?_) rfl (by kernel_rfl) (by kernel_rfl) (by kernel_rfl) (fun _ _ _ h => h) (Or.inl ⟨by kernel_rfl, ?_⟩) (by assumption) ?_
  rotate_left
  · intro w hSw; (try dsimp only at hSw); go_simp; try with_reducible rfl
  refine wpAnyH_take (i := 2) (v := ?_) rfl (by kernel_rfl) (by kernel_rfl) (by kernel_rfl) (fun _ _ _ h => h) (Or.inl ⟨by kernel_rfl, ?_⟩) (by assumption) ?_
  rotate_left
  · intro w hSw; (try dsimp only at hSw); go_simp; try with_reducible rfl
  refine wpAnyH_take (i := 5) (v := ?_) rfl (by kernel_rfl) (by kernel_rfl) (by kernel_rfl) (fun _ _ _ h => h) (Or.inl ⟨by kernel_rfl, ?_⟩) (by assumption) ?_
  rotate_left
  · intro w hSw; (try dsimp only at hSw); go_simp; try with_reducible rfl
  refine wpAnyH_take (i := 6) (v := ?_) rfl (by kernel_rfl) (by kernel_rfl) (by kernel_rfl) (fun _ _ _ h => h) (Or.inl ⟨by kernel_rfl, ?_⟩) (by assumption) ?_
  rotate_left
  · intro w hSw; (try dsimp only at hSw); go_simp; try with_reducible rfl
  refine wpAnyH_take (i := 9) (v := ?_) rfl (by kernel_rfl) (by kernel_rfl) (by kernel_rfl) (fun _ _ _ h => h) (Or.inl ⟨by kernel_rfl, ?_⟩) (by assumption) ?_
  rotate_left
  · intro w hSw; (try dsimp only at hSw); go_simp; try with_reducible rfl
  refine wpAnyH_take (i := 10) (v := ?_) rfl (by kernel_rfl) (by kernel_rfl) (by kernel_rfl) (fun _ _ _ h => h) (Or.inl ⟨by kernel_rfl, ?_⟩) (by assumption) ?_
  rotate_left
  · intro w hSw; (try dsimp only at hSw); go_simp; try with_reducible rfl
  refine wpAnyH_ready (rs := [0, 4, 8]) (by kernel_rfl) (by simp) ?_
  try simp only [Act.put, List.setIfInBounds_toArray, List.set_cons_zero, List.set_cons_succ, List.getElem_toArray, List.getElem_cons_zero, List.getElem_cons_succ]
  refine (AllReadyH.cons rfl (fun K hK => ?_) (AllReadyH.cons rfl (fun K hK => ?_) (AllReadyH.cons rfl (fun K hK => ?_) AllReadyH.nil)))
  · go_simp
    have B2 := Lib.hid (B1.out.alloc B1.out.size (.cells #[] 74))
    have X2 := Lib.hid (X1.out.alloc (.cells #[] 74))
    have R2 := Lib.hid (R1.out.alloc (.cells #[] 74))
    have EA2 := Lib.hid (cells_new V1 #[] 74)
    have M2 : Hid (V1.heap.size + 1 ≤ (V1.alloc (.cells #[] 74)).heap.size) := Lib.hid (by simp)
    clear hHeld
    refine hK.out _ _ ?_ (fun hHeld => ?_)
    · exact X2.out.now.treDk
    clear hK K B1 X1 R1
    generalize V1.alloc (.cells #[] 74) = V2 at B2 M2 X2 R2 EA2 hHeld ⊢
    refine wpAnyH_ready (rs := [3, 4, 8]) (by kernel_rfl) (by simp) ?_
    try simp only [Act.put, List.setIfInBounds_toArray, List.set_cons_zero, List.set_cons_succ, List.getElem_toArray, List.getElem_cons_zero, List.getElem_cons_succ]
    refine (AllReadyH.cons rfl (fun K hK => ?_) (AllReadyH.cons rfl (fun K hK => ?_) (AllReadyH.cons rfl (fun K hK => ?_) AllReadyH.nil)))
    · rw [if_pos (by rfl)]
      refine upon_copyFi _ _ (by rfl) (V1.heap.size) (by rfl) EA2.out.now a0 n0 c0 l (by rfl) (H.out.1.nextFi B2.out) hn0 ?_
      intro vVA V3 jVA hj hv ho hT
      have JVA := Lib.hid hj
      have M3 : Hid (V2.heap.size ≤ V3.heap.size) := Lib.hid hT.size
      have LVA : Hid (jVA < V3.heap.size) := Lib.hid (World.ownsRow.lt ho jVA hv).2
      obtain ⟨pVA, rVA, rfl⟩ := fi_form ho
      have B3 := Lib.hid (B2.out.trans (hT.below B2.out.size (by have q0 := M0.out; have q1 := M1.out; have q2 := M2.out; have q3 := JVA.out; have q4 := M3.out; have q5 := LVA.out; omega)))
      have X3 := Lib.hid (X2.out.step hT (by have q0 := M0.out; have q1 := M1.out; have q2 := M2.out; have q3 := JVA.out; have q4 := M3.out; have q5 := LVA.out; omega))
      have R3 := Lib.hid (R2.out.step hT (by have q0 := M0.out; have q1 := M1.out; have q2 := M2.out; have q3 := JVA.out; have q4 := M3.out; have q5 := LVA.out; omega))
      have VA3 := Lib.hid (held_copyFi ho hv)
      clear hj hv ho hT B2 X2 R2 EA2
      clear hHeld
      refine hK.out _ _ ?_ (fun hHeld => ?_)
      · exact X3.out.now.treDk
      clear hK K
      refine wpAnyH_ready (rs := [4, 8]) (by kernel_rfl) (by simp) ?_
      try simp only [Act.put, List.setIfInBounds_toArray, List.set_cons_zero, List.set_cons_succ, List.getElem_toArray, List.getElem_cons_zero, List.getElem_cons_succ]
      refine (AllReadyH.cons rfl (fun K hK => ?_) (AllReadyH.cons rfl (fun K hK => ?_) AllReadyH.nil))
      · go_simp
        have B4 := Lib.hid (B3.out.alloc B3.out.size (.cells #[] 74))
        have X4 := Lib.hid (X3.out.alloc (.cells #[] 74))
        have R4 := Lib.hid (R3.out.alloc (.cells #[] 74))
        have VA4 := Lib.hid (VA3.out.alloc (.cells #[] 74))
        have EB4 := Lib.hid (cells_new V3 #[] 74)
        have M4 : Hid (V3.heap.size + 1 ≤ (V3.alloc (.cells #[] 74)).heap.size) := Lib.hid (by simp)
        clear hHeld
        refine hK.out _ _ ?_ (fun hHeld => ?_)
        · exact X4.out.now.treDk
        clear hK K B3 X3 R3 VA3
        generalize V3.alloc (.cells #[] 74) = V4 at B4 M4 X4 R4 VA4 EB4 hHeld ⊢
        refine wpAnyH_ready (rs := [7, 8]) (by kernel_rfl) (by simp) ?_
        try simp only [Act.put, List.setIfInBounds_toArray, List.set_cons_zero, List.set_cons_succ, List.getElem_toArray, List.getElem_cons_zero, List.getElem_cons_succ]
        refine (AllReadyH.cons rfl (fun K hK => ?_) (AllReadyH.cons rfl (fun K hK => ?_) AllReadyH.nil))
        · rw [if_pos (by rfl)]
          refine upon_copyFi _ _ (by rfl) (V3.heap.size) (by rfl) EB4.out.now a1 n1 c1 s (by rfl) (H.out.2.1.nextFi B4.out) hn1 ?_
          intro vVB V5 jVB hj hv ho hT
          have JVB := Lib.hid hj
          have M5 : Hid (V4.heap.size ≤ V5.heap.size) := Lib.hid hT.size
          have LVB : Hid (jVB < V5.heap.size) := Lib.hid (World.ownsRow.lt ho jVB hv).2
          obtain ⟨pVB, rVB, rfl⟩ := fi_form ho
          have B5 := Lib.hid (B4.out.trans (hT.below B4.out.size (by have q0 := M0.out; have q1 := M1.out; have q2 := M2.out; have q3 := JVA.out; have q4 := M3.out; have q5 := LVA.out; have q6 := M4.out; have q7 := JVB.out; have q8 := M5.out; have q9 := LVB.out; omega)))
          have X5 := Lib.hid (X4.out.step hT (by have q0 := M0.out; have q1 := M1.out; have q2 := M2.out; have q3 := JVA.out; have q4 := M3.out; have q5 := LVA.out; have q6 := M4.out; have q7 := JVB.out; have q8 := M5.out; have q9 := LVB.out; omega))
          have R5 := Lib.hid (R4.out.step hT (by have q0 := M0.out; have q1 := M1.out; have q2 := M2.out; have q3 := JVA.out; have q4 := M3.out; have q5 := LVA.out; have q6 := M4.out; have q7 := JVB.out; have q8 := M5.out; have q9 := LVB.out; omega))
          have VA5 := Lib.hid (VA4.out.step hT (by have q0 := M0.out; have q1 := M1.out; have q2 := M2.out; have q3 := JVA.out; have q4 := M3.out; have q5 := LVA.out; have q6 := M4.out; have q7 := JVB.out; have q8 := M5.out; have q9 := LVB.out; omega))
          have VB5 := Lib.hid (held_copyFi ho hv)
          clear hj hv ho hT B4 X4 R4 VA4 EB4
          clear hHeld
          refine hK.out _ _ ?_ (fun hHeld => ?_)
          · exact X5.out.now.treDk
          clear hK K
          refine wpAnyH_ready (rs := [8]) (by kernel_rfl) (by simp) ?_
          try simp only [Act.put, List.setIfInBounds_toArray, List.set_cons_zero, List.set_cons_succ, List.getElem_toArray, List.getElem_cons_zero, List.getElem_cons_succ]
          refine (AllReadyH.cons rfl (fun K hK => ?_) AllReadyH.nil)
          go_simp
          have B6 := Lib.hid (B5.out.alloc B5.out.size (.cells #[] 36))
          have X6 := Lib.hid (X5.out.alloc (.cells #[] 36))
          have R6 := Lib.hid (R5.out.alloc (.cells #[] 36))
          have VA6 := Lib.hid (VA5.out.alloc (.cells #[] 36))
          have VB6 := Lib.hid (VB5.out.alloc (.cells #[] 36))
          have EC6 := Lib.hid (cells_new V5 #[] 36)
          have M6 : Hid (V5.heap.size + 1 ≤ (V5.alloc (.cells #[] 36)).heap.size) := Lib.hid (by simp)
          clear hHeld
          refine hK.out _ _ ?_ (fun hHeld => ?_)
          · exact X6.out.now.treDk
          clear hK K B5 X5 R5 VA5 VB5
          generalize V5.alloc (.cells #[] 36) = V6 at B6 M6 X6 R6 VA6 VB6 EC6 hHeld ⊢
          refine wpAnyH_ready (rs := [11]) (by kernel_rfl) (by simp) ?_
          try simp only [Act.put, List.setIfInBounds_toArray, List.set_cons_zero, List.set_cons_succ, List.getElem_toArray, List.getElem_cons_zero, List.getElem_cons_succ]
          refine (AllReadyH.cons rfl (fun K hK => ?_) AllReadyH.nil)
          rw [if_pos (by rfl)]
          refine upon_copyOp _ _ (by rfl) (V5.heap.size) (by rfl) EC6.out.now a2 n2 c2 o (by rfl) (H.out.2.2.next B6.out) hn2 ?_
          intro vVC V7 jVC hj hv ho hT
          have JVC := Lib.hid hj
          have M7 : Hid (V6.heap.size ≤ V7.heap.size) := Lib.hid hT.size
          have LVC : Hid (jVC < V7.heap.size) := Lib.hid (World.ownsRow.lt ho jVC hv).2
          obtain ⟨pVC, rVC, rfl⟩ := op_form ho
          have B7 := Lib.hid (B6.out.trans (hT.below B6.out.size (by have q0 := M0.out; have q1 := M1.out; have q2 := M2.out; have q3 := JVA.out; have q4 := M3.out; have q5 := LVA.out; have q6 := M4.out; have q7 := JVB.out; have q8 := M5.out; have q9 := LVB.out; have q10 := M6.out; have q11 := JVC.out; have q12 := M7.out; have q13 := LVC.out; omega)))
          have X7 := Lib.hid (X6.out.step hT (by have q0 := M0.out; have q1 := M1.out; have q2 := M2.out; have q3 := JVA.out; have q4 := M3.out; have q5 := LVA.out; have q6 := M4.out; have q7 := JVB.out; have q8 := M5.out; have q9 := LVB.out; have q10 := M6.out; have q11 := JVC.out; have q12 := M7.out; have q13 := LVC.out; omega))
          have R7 := Lib.hid (R6.out.step hT (by have q0 := M0.out; have q1 := M1.out; have q2 := M2.out; have q3 := JVA.out; have q4 := M3.out; have q5 := LVA.out; have q6 := M4.out; have q7 := JVB.out; have q8 := M5.out; have q9 := LVB.out; have q10 := M6.out; have q11 := JVC.out; have q12 := M7.out; have q13 := LVC.out; omega))
          have VA7 := Lib.hid (VA6.out.step hT (by have q0 := M0.out; have q1 := M1.out; have q2 := M2.out; have q3 := JVA.out; have q4 := M3.out; have q5 := LVA.out; have q6 := M4.out; have q7 := JVB.out; have q8 := M5.out; have q9 := LVB.out; have q10 := M6.out; have q11 := JVC.out; have q12 := M7.out; have q13 := LVC.out; omega))
          have VB7 := Lib.hid (VB6.out.step hT (by have q0 := M0.out; have q1 := M1.out; have q2 := M2.out; have q3 := JVA.out; have q4 := M3.out; have q5 := LVA.out; have q6 := M4.out; have q7 := JVB.out; have q8 := M5.out; have q9 := LVB.out; have q10 := M6.out; have q11 := JVC.out; have q12 := M7.out; have q13 := LVC.out; omega))
          have VC7 := Lib.hid (held_copyOp ho hv)
          clear hj hv ho hT B6 X6 R6 VA6 VB6 EC6
          clear hHeld
          refine hK.out _ _ ?_ (fun hHeld => ?_)
          · exact X7.out.now.treDk
          clear hK K
          refine wpAnyH_take (i := 12) (v := ?_) rfl (by kernel_rfl) (by kernel_rfl) (by kernel_rfl) (fun _ _ _ h => h) (Or.inl ⟨by kernel_rfl, ?_⟩) (by assumption) ?_
          rotate_left
          · intro w hSw; (try dsimp only at hSw); go_simp; try with_reducible rfl
          refine wpAnyH_ready (rs := [13]) (by kernel_rfl) (by simp) ?_
          try simp only [Act.put, List.setIfInBounds_toArray, List.set_cons_zero, List.set_cons_succ, List.getElem_toArray, List.getElem_cons_zero, List.getElem_cons_succ]
          refine AllReadyH.cons rfl (fun K hK => ?_) AllReadyH.nil
          obtain ⟨y0, y1, y2⟩ := R7.out.now.treDk
          have f0 := R7.out.now.free 0
          have f1 := R7.out.now.free 1
          have f2 := R7.out.now.free 2
          have TT := turn_s3 V7 (w.heap.size + 1) (.slice pVA l.length rVA) (.slice pVB s.length rVB) (.slice pVC o.length rVC)
          have XX := X7.out.step TT (.inl (Nat.le_refl _))
          have hsz := size_s3 V7 (w.heap.size + 1) (.slice pVA l.length rVA) (.slice pVB s.length rVB) (.slice pVC o.length rVC)
          have BF := B7.out.trans (TT.below B7.out.size (Nat.le_succ _))
          have FVA := VA7.out.step TT (by have q0 := M0.out; have q1 := M1.out; have q2 := M2.out; have q3 := JVA.out; have q4 := M3.out; have q5 := LVA.out; have q6 := M4.out; have q7 := JVB.out; have q8 := M5.out; have q9 := LVB.out; have q10 := M6.out; have q11 := JVC.out; have q12 := M7.out; have q13 := LVC.out; omega)
          have FVB := VB7.out.step TT (by have q0 := M0.out; have q1 := M1.out; have q2 := M2.out; have q3 := JVA.out; have q4 := M3.out; have q5 := LVA.out; have q6 := M4.out; have q7 := JVB.out; have q8 := M5.out; have q9 := LVB.out; have q10 := M6.out; have q11 := JVC.out; have q12 := M7.out; have q13 := LVC.out; omega)
          have FVC := VC7.out.step TT (by have q0 := M0.out; have q1 := M1.out; have q2 := M2.out; have q3 := JVA.out; have q4 := M3.out; have q5 := LVA.out; have q6 := M4.out; have q7 := JVB.out; have q8 := M5.out; have q9 := LVB.out; have q10 := M6.out; have q11 := JVC.out; have q12 := M7.out; have q13 := LVC.out; omega)
          have HF : Hid (Holds w.heap.size (((V7.setCell ⟨w.heap.size + 1, 0, none⟩ (.slice pVA l.length rVA)).setCell ⟨w.heap.size + 1, 1, none⟩ (.slice pVB s.length rVB)).setCell ⟨w.heap.size + 1, 2, none⟩ (.slice pVC o.length rVC)).heap.size (((V7.setCell ⟨w.heap.size + 1, 0, none⟩ (.slice pVA l.length rVA)).setCell ⟨w.heap.size + 1, 1, none⟩ (.slice pVB s.length rVB)).setCell ⟨w.heap.size + 1, 2, none⟩ (.slice pVC o.length rVC)) (OwnDk w.heap.size (((V7.setCell ⟨w.heap.size + 1, 0, none⟩ (.slice pVA l.length rVA)).setCell ⟨w.heap.size + 1, 1, none⟩ (.slice pVB s.length rVB)).setCell ⟨w.heap.size + 1, 2, none⟩ (.slice pVC o.length rVC)).heap.size (.slice pVA l.length rVA) (.slice pVB s.length rVB) (.slice pVC o.length rVC) l s o)) := Lib.hid ⟨ownDk_lives, Nat.le_refl _, ⟨ownP_baseFi FVA.now.1 (by have q0 := M0.out; have q1 := M1.out; have q2 := M2.out; have q3 := JVA.out; have q4 := M3.out; have q5 := LVA.out; have q6 := M4.out; have q7 := JVB.out; have q8 := M5.out; have q9 := LVB.out; have q10 := M6.out; have q11 := JVC.out; have q12 := M7.out; have q13 := LVC.out; omega), fun i hi => by have z1 := FVA.now.2 i hi; have z2 := FVA.le; omega⟩, ⟨ownP_baseFi FVB.now.1 (by have q0 := M0.out; have q1 := M1.out; have q2 := M2.out; have q3 := JVA.out; have q4 := M3.out; have q5 := LVA.out; have q6 := M4.out; have q7 := JVB.out; have q8 := M5.out; have q9 := LVB.out; have q10 := M6.out; have q11 := JVC.out; have q12 := M7.out; have q13 := LVC.out; omega), fun i hi => by have z1 := FVB.now.2 i hi; have z2 := FVB.le; omega⟩, ⟨ownOp_base FVC.now.1 (by have q0 := M0.out; have q1 := M1.out; have q2 := M2.out; have q3 := JVA.out; have q4 := M3.out; have q5 := LVA.out; have q6 := M4.out; have q7 := JVB.out; have q8 := M5.out; have q9 := LVB.out; have q10 := M6.out; have q11 := JVC.out; have q12 := M7.out; have q13 := LVC.out; omega), fun i hi => by have z1 := FVC.now.2 i hi; have z2 := FVC.le; omega⟩, fun i h1 h2 => by have z1 := (World.ownsRow.lt FVA.now.1 i h1).1; have z2 := FVA.now.2 i h1; have z3 := (World.ownsRow.lt FVB.now.1 i h2).1; have z4 := FVB.now.2 i h2; have q0 := M0.out; have q1 := M1.out; have q2 := M2.out; have q3 := JVA.out; have q4 := M3.out; have q5 := LVA.out; have q6 := M4.out; have q7 := JVB.out; have q8 := M5.out; have q9 := LVB.out; have q10 := M6.out; have q11 := JVC.out; have q12 := M7.out; have q13 := LVC.out; omega, fun i h1 h2 => by have z1 := (World.ownsRow.lt FVA.now.1 i h1).1; have z2 := FVA.now.2 i h1; have z3 := (World.ownsRow.lt FVC.now.1 i h2).1; have z4 := FVC.now.2 i h2; have q0 := M0.out; have q1 := M1.out; have q2 := M2.out; have q3 := JVA.out; have q4 := M3.out; have q5 := LVA.out; have q6 := M4.out; have q7 := JVB.out; have q8 := M5.out; have q9 := LVB.out; have q10 := M6.out; have q11 := JVC.out; have q12 := M7.out; have q13 := LVC.out; omega, fun i h1 h2 => by have z1 := (World.ownsRow.lt FVB.now.1 i h1).1; have z2 := FVB.now.2 i h1; have z3 := (World.ownsRow.lt FVC.now.1 i h2).1; have z4 := FVC.now.2 i h2; have q0 := M0.out; have q1 := M1.out; have q2 := M2.out; have q3 := JVA.out; have q4 := M3.out; have q5 := LVA.out; have q6 := M4.out; have q7 := JVB.out; have q8 := M5.out; have q9 := LVB.out; have q10 := M6.out; have q11 := JVC.out; have q12 := M7.out; have q13 := LVC.out; omega⟩
          have HBF := Lib.hid BF
          go_simp
          clear hHeld
          refine hK.out _ _ ?_ (fun hHeld => ?_)
          · exact XX.now.treDk
          clear hK K XX TT BF FVA FVB FVC
          refine wpAnyH_done (by kernel_rfl) ?_ _
          try simp only [Act.put, List.setIfInBounds_toArray, List.set_cons_zero, List.set_cons_succ, List.getElem_toArray, List.getElem_cons_zero, List.getElem_cons_succ]
          go_wp2_with fail
          refine bodyPost_ret (v := .agg #[.slice pVA l.length rVA, .slice pVB s.length rVB, .slice pVC o.length rVC]) (by simp [results, Try.results62, go_sem, *]) rfl ⟨_, _, _, _, _, _, rfl, HF.out, HBF.out⟩
        · go_simp
          have B5 := Lib.hid (B4.out.alloc B4.out.size (.cells #[] 36))
          have X5 := Lib.hid (X4.out.alloc (.cells #[] 36))
          have R5 := Lib.hid (R4.out.alloc (.cells #[] 36))
          have VA5 := Lib.hid (VA4.out.alloc (.cells #[] 36))
          have EB5 := Lib.hid (EB4.out.alloc (.cells #[] 36))
          have EC5 := Lib.hid (cells_new V4 #[] 36)
          have M5 : Hid (V4.heap.size + 1 ≤ (V4.alloc (.cells #[] 36)).heap.size) := Lib.hid (by simp)
          clear hHeld
          refine hK.out _ _ ?_ (fun hHeld => ?_)
          · exact X5.out.now.treDk
          clear hK K B4 X4 R4 VA4 EB4
          generalize V4.alloc (.cells #[] 36) = V5 at B5 M5 X5 R5 VA5 EB5 EC5 hHeld ⊢
          refine wpAnyH_ready (rs := [7]) (by kernel_rfl) (by simp) ?_
          try simp only [Act.put, List.setIfInBounds_toArray, List.set_cons_zero, List.set_cons_succ, List.getElem_toArray, List.getElem_cons_zero, List.getElem_cons_succ]
          refine (AllReadyH.cons rfl (fun K hK => ?_) AllReadyH.nil)
          rw [if_pos (by rfl)]
          refine upon_copyFi _ _ (by rfl) (V3.heap.size) (by rfl) EB5.out.now a1 n1 c1 s (by rfl) (H.out.2.1.nextFi B5.out) hn1 ?_
          intro vVB V6 jVB hj hv ho hT
          have JVB := Lib.hid hj
          have M6 : Hid (V5.heap.size ≤ V6.heap.size) := Lib.hid hT.size
          have LVB : Hid (jVB < V6.heap.size) := Lib.hid (World.ownsRow.lt ho jVB hv).2
          obtain ⟨pVB, rVB, rfl⟩ := fi_form ho
          have B6 := Lib.hid (B5.out.trans (hT.below B5.out.size (by have q0 := M0.out; have q1 := M1.out; have q2 := M2.out; have q3 := JVA.out; have q4 := M3.out; have q5 := LVA.out; have q6 := M4.out; have q7 := M5.out; have q8 := JVB.out; have q9 := M6.out; have q10 := LVB.out; omega)))
          have X6 := Lib.hid (X5.out.step hT (by have q0 := M0.out; have q1 := M1.out; have q2 := M2.out; have q3 := JVA.out; have q4 := M3.out; have q5 := LVA.out; have q6 := M4.out; have q7 := M5.out; have q8 := JVB.out; have q9 := M6.out; have q10 := LVB.out; omega))
          have R6 := Lib.hid (R5.out.step hT (by have q0 := M0.out; have q1 := M1.out; have q2 := M2.out; have q3 := JVA.out; have q4 := M3.out; have q5 := LVA.out; have q6 := M4.out; have q7 := M5.out; have q8 := JVB.out; have q9 := M6.out; have q10 := LVB.out; omega))
          have VA6 := Lib.hid (VA5.out.step hT (by have q0 := M0.out; have q1 := M1.out; have q2 := M2.out; have q3 := JVA.out; have q4 := M3.out; have q5 := LVA.out; have q6 := M4.out; have q7 := M5.out; have q8 := JVB.out; have q9 := M6.out; have q10 := LVB.out; omega))
          have EC6 := Lib.hid (EC5.out.step hT (by have q0 := M0.out; have q1 := M1.out; have q2 := M2.out; have q3 := JVA.out; have q4 := M3.out; have q5 := LVA.out; have q6 := M4.out; have q7 := M5.out; have q8 := JVB.out; have q9 := M6.out; have q10 := LVB.out; omega))
          have VB6 := Lib.hid (held_copyFi ho hv)
          clear hj hv ho hT B5 X5 R5 VA5 EB5 EC5
          clear hHeld
          refine hK.out _ _ ?_ (fun hHeld => ?_)
          · exact X6.out.now.treDk
          clear hK K
          refine wpAnyH_ready (rs := [11]) (by kernel_rfl) (by simp) ?_
          try simp only [Act.put, List.setIfInBounds_toArray, List.set_cons_zero, List.set_cons_succ, List.getElem_toArray, List.getElem_cons_zero, List.getElem_cons_succ]
          refine (AllReadyH.cons rfl (fun K hK => ?_) AllReadyH.nil)
          rw [if_pos (by rfl)]
          refine upon_copyOp _ _ (by rfl) (V4.heap.size) (by rfl) EC6.out.now a2 n2 c2 o (by rfl) (H.out.2.2.next B6.out) hn2 ?_
          intro vVC V7 jVC hj hv ho hT
          have JVC := Lib.hid hj
          have M7 : Hid (V6.heap.size ≤ V7.heap.size) := Lib.hid hT.size
          have LVC : Hid (jVC < V7.heap.size) := Lib.hid (World.ownsRow.lt ho jVC hv).2
          obtain ⟨pVC, rVC, rfl⟩ := op_form ho
          have B7 := Lib.hid (B6.out.trans (hT.below B6.out.size (by have q0 := M0.out; have q1 := M1.out; have q2 := M2.out; have q3 := JVA.out; have q4 := M3.out; have q5 := LVA.out; have q6 := M4.out; have q7 := M5.out; have q8 := JVB.out; have q9 := M6.out; have q10 := LVB.out; have q11 := JVC.out; have q12 := M7.out; have q13 := LVC.out; omega)))
          have X7 := Lib.hid (X6.out.step hT (by have q0 := M0.out; have q1 := M1.out; have q2 := M2.out; have q3 := JVA.out; have q4 := M3.out; have q5 := LVA.out; have q6 := M4.out; have q7 := M5.out; have q8 := JVB.out; have q9 := M6.out; have q10 := LVB.out; have q11 := JVC.out; have q12 := M7.out; have q13 := LVC.out; omega))
          have R7 := Lib.hid (R6.out.step hT (by have q0 := M0.out; have q1 := M1.out; have q2 := M2.out; have q3 := JVA.out; have q4 := M3.out; have q5 := LVA.out; have q6 := M4.out; have q7 := M5.out; have q8 := JVB.out; have q9 := M6.out; have q10 := LVB.out; have q11 := JVC.out; have q12 := M7.out; have q13 := LVC.out; omega))
          have VA7 := Lib.hid (VA6.out.step hT (by have q0 := M0.out; have q1 := M1.out; have q2 := M2.out; have q3 := JVA.out; have q4 := M3.out; have q5 := LVA.out; have q6 := M4.out; have q7 := M5.out; have q8 := JVB.out; have q9 := M6.out; have q10 := LVB.out; have q11 := JVC.out; have q12 := M7.out; have q13 := LVC.out; omega))
          have VB7 := Lib.hid (VB6.out.step hT (by have q0 := M0.out; have q1 := M1.out; have q2 := M2.out; have q3 := JVA.out; have q4 := M3.out; have q5 := LVA.out; have q6 := M4.out; have q7 := M5.out; have q8 := JVB.out; have q9 := M6.out; have q10 := LVB.out; have q11 := JVC.out; have q12 := M7.out; have q13 := LVC.out; omega))
          have VC7 := Lib.hid (held_copyOp ho hv)
          clear hj hv ho hT B6 X6 R6 VA6 EC6 VB6
          clear hHeld
          refine hK.out _ _ ?_ (fun hHeld => ?_)
          · exact X7.out.now.treDk
          clear hK K
          refine wpAnyH_take (i := 12) (v := ?_) rfl (by kernel_rfl) (by kernel_rfl) (by kernel_rfl) (fun _ _ _ h => h) (Or.inl ⟨by kernel_rfl, ?_⟩) (by assumption) ?_
          rotate_left
          · intro w hSw; (try dsimp only at hSw); go_simp; try with_reducible rfl
          refine wpAnyH_ready (rs := [13]) (by kernel_rfl) (by simp) ?_
          try simp only [Act.put, List.setIfInBounds_toArray, List.set_cons_zero, List.set_cons_succ, List.getElem_toArray, List.getElem_cons_zero, List.getElem_cons_succ]
          refine AllReadyH.cons rfl (fun K hK => ?_) AllReadyH.nil
          obtain ⟨y0, y1, y2⟩ := R7.out.now.treDk
          have f0 := R7.out.now.free 0
          have f1 := R7.out.now.free 1
          have f2 := R7.out.now.free 2
          have TT := turn_s3 V7 (w.heap.size + 1) (.slice pVA l.length rVA) (.slice pVB s.length rVB) (.slice pVC o.length rVC)
          have XX := X7.out.step TT (.inl (Nat.le_refl _))
          have hsz := size_s3 V7 (w.heap.size + 1) (.slice pVA l.length rVA) (.slice pVB s.length rVB) (.slice pVC o.length rVC)
          have BF := B7.out.trans (TT.below B7.out.size (Nat.le_succ _))
          have FVA := VA7.out.step TT (by have q0 := M0.out; have q1 := M1.out; have q2 := M2.out; have q3 := JVA.out; have q4 := M3.out; have q5 := LVA.out; have q6 := M4.out; have q7 := M5.out; have q8 := JVB.out; have q9 := M6.out; have q10 := LVB.out; have q11 := JVC.out; have q12 := M7.out; have q13 := LVC.out; omega)
          have FVB := VB7.out.step TT (by have q0 := M0.out; have q1 := M1.out; have q2 := M2.out; have q3 := JVA.out; have q4 := M3.out; have q5 := LVA.out; have q6 := M4.out; have q7 := M5.out; have q8 := JVB.out; have q9 := M6.out; have q10 := LVB.out; have q11 := JVC.out; have q12 := M7.out; have q13 := LVC.out; omega)
          have FVC := VC7.out.step TT (by have q0 := M0.out; have q1 := M1.out; have q2 := M2.out; have q3 := JVA.out; have q4 := M3.out; have q5 := LVA.out; have q6 := M4.out; have q7 := M5.out; have q8 := JVB.out; have q9 := M6.out; have q10 := LVB.out; have q11 := JVC.out; have q12 := M7.out; have q13 := LVC.out; omega)
          have HF : Hid (Holds w.heap.size (((V7.setCell ⟨w.heap.size + 1, 0, none⟩ (.slice pVA l.length rVA)).setCell ⟨w.heap.size + 1, 1, none⟩ (.slice pVB s.length rVB)).setCell ⟨w.heap.size + 1, 2, none⟩ (.slice pVC o.length rVC)).heap.size (((V7.setCell ⟨w.heap.size + 1, 0, none⟩ (.slice pVA l.length rVA)).setCell ⟨w.heap.size + 1, 1, none⟩ (.slice pVB s.length rVB)).setCell ⟨w.heap.size + 1, 2, none⟩ (.slice pVC o.length rVC)) (OwnDk w.heap.size (((V7.setCell ⟨w.heap.size + 1, 0, none⟩ (.slice pVA l.length rVA)).setCell ⟨w.heap.size + 1, 1, none⟩ (.slice pVB s.length rVB)).setCell ⟨w.heap.size + 1, 2, none⟩ (.slice pVC o.length rVC)).heap.size (.slice pVA l.length rVA) (.slice pVB s.length rVB) (.slice pVC o.length rVC) l s o)) := Lib.hid ⟨ownDk_lives, Nat.le_refl _, ⟨ownP_baseFi FVA.now.1 (by have q0 := M0.out; have q1 := M1.out; have q2 := M2.out; have q3 := JVA.out; have q4 := M3.out; have q5 := LVA.out; have q6 := M4.out; have q7 := M5.out; have q8 := JVB.out; have q9 := M6.out; have q10 := LVB.out; have q11 := JVC.out; have q12 := M7.out; have q13 := LVC.out; omega), fun i hi => by have z1 := FVA.now.2 i hi; have z2 := FVA.le; omega⟩, ⟨ownP_baseFi FVB.now.1 (by have q0 := M0.out; have q1 := M1.out; have q2 := M2.out; have q3 := JVA.out; have q4 := M3.out; have q5 := LVA.out; have q6 := M4.out; have q7 := M5.out; have q8 := JVB.out; have q9 := M6.out; have q10 := LVB.out; have q11 := JVC.out; have q12 := M7.out; have q13 := LVC.out; omega), fun i hi => by have z1 := FVB.now.2 i hi; have z2 := FVB.le; omega⟩, ⟨ownOp_base FVC.now.1 (by have q0 := M0.out; have q1 := M1.out; have q2 := M2.out; have q3 := JVA.out; have q4 := M3.out; have q5 := LVA.out; have q6 := M4.out; have q7 := M5.out; have q8 := JVB.out; have q9 := M6.out; have q10 := LVB.out; have q11 := JVC.out; have q12 := M7.out; have q13 := LVC.out; omega), fun i hi => by have z1 := FVC.now.2 i hi; have z2 := FVC.le; omega⟩, fun i h1 h2 => by have z1 := (World.ownsRow.lt FVA.now.1 i h1).1; have z2 := FVA.now.2 i h1; have z3 := (World.ownsRow.lt FVB.now.1 i h2).1; have z4 := FVB.now.2 i h2; have q0 := M0.out; have q1 := M1.out; have q2 := M2.out; have q3 := JVA.out; have q4 := M3.out; have q5 := LVA.out; have q6 := M4.out; have q7 := M5.out; have q8 := JVB.out; have q9 := M6.out; have q10 := LVB.out; have q11 := JVC.out; have q12 := M7.out; have q13 := LVC.out; omega, fun i h1 h2 => by have z1 := (World.ownsRow.lt FVA.now.1 i h1).1; have z2 := FVA.now.2 i h1; have z3 := (World.ownsRow.lt FVC.now.1 i h2).1; have z4 := FVC.now.2 i h2; have q0 := M0.out; have q1 := M1.out; have q2 := M2.out; have q3 := JVA.out; have q4 := M3.out; have q5 := LVA.out; have q6 := M4.out; have q7 := M5.out; have q8 := JVB.out; have q9 := M6.out; have q10 := LVB.out; have q11 := JVC.out; have q12 := M7.out; have q13 := LVC.out; omega, fun i h1 h2 => by have z1 := (World.ownsRow.lt FVB.now.1 i h1).1; have z2 := FVB.now.2 i h1; have z3 := (World.ownsRow.lt FVC.now.1 i h2).1; have z4 := FVC.now.2 i h2; have q0 := M0.out; have q1 := M1.out; have q2 := M2.out; have q3 := JVA.out; have q4 := M3.out; have q5 := LVA.out; have q6 := M4.out; have q7 := M5.out; have q8 := JVB.out; have q9 := M6.out; have q10 := LVB.out; have q11 := JVC.out; have q12 := M7.out; have q13 := LVC.out; omega⟩
          have HBF := Lib.hid BF
          go_simp
          clear hHeld
          refine hK.out _ _ ?_ (fun hHeld => ?_)
          · exact XX.now.treDk
          clear hK K XX TT BF FVA FVB FVC
          refine wpAnyH_done (by kernel_rfl) ?_ _
          try simp only [Act.put, List.setIfInBounds_toArray, List.set_cons_zero, List.set_cons_succ, List.getElem_toArray, List.getElem_cons_zero, List.getElem_cons_succ]
          go_wp2_with fail
          refine bodyPost_ret (v := .agg #[.slice pVA l.length rVA, .slice pVB s.length rVB, .slice pVC o.length rVC]) (by simp [results, Try.results62, go_sem, *]) rfl ⟨_, _, _, _, _, _, rfl, HF.out, HBF.out⟩
      · go_simp
        have B4 := Lib.hid (B3.out.alloc B3.out.size (.cells #[] 36))
        have X4 := Lib.hid (X3.out.alloc (.cells #[] 36))
        have R4 := Lib.hid (R3.out.alloc (.cells #[] 36))
        have VA4 := Lib.hid (VA3.out.alloc (.cells #[] 36))
        have EC4 := Lib.hid (cells_new V3 #[] 36)
        have M4 : Hid (V3.heap.size + 1 ≤ (V3.alloc (.cells #[] 36)).heap.size) := Lib.hid (by simp)
        clear hHeld
        refine hK.out _ _ ?_ (fun hHeld => ?_)
        · exact X4.out.now.treDk
        clear hK K B3 X3 R3 VA3
        generalize V3.alloc (.cells #[] 36) = V4 at B4 M4 X4 R4 VA4 EC4 hHeld ⊢
        refine wpAnyH_ready (rs := [4]) (by kernel_rfl) (by simp) ?_
        try simp only [Act.put, List.setIfInBounds_toArray, List.set_cons_zero, List.set_cons_succ, List.getElem_toArray, List.getElem_cons_zero, List.getElem_cons_succ]
        refine (AllReadyH.cons rfl (fun K hK => ?_) AllReadyH.nil)
        go_simp
        have B5 := Lib.hid (B4.out.alloc B4.out.size (.cells #[] 74))
        have X5 := Lib.hid (X4.out.alloc (.cells #[] 74))
        have R5 := Lib.hid (R4.out.alloc (.cells #[] 74))
        have VA5 := Lib.hid (VA4.out.alloc (.cells #[] 74))
        have EC5 := Lib.hid (EC4.out.alloc (.cells #[] 74))
        have EB5 := Lib.hid (cells_new V4 #[] 74)
        have M5 : Hid (V4.heap.size + 1 ≤ (V4.alloc (.cells #[] 74)).heap.size) := Lib.hid (by simp)
        clear hHeld
        refine hK.out _ _ ?_ (fun hHeld => ?_)
        · exact X5.out.now.treDk
        clear hK K B4 X4 R4 VA4 EC4
        generalize V4.alloc (.cells #[] 74) = V5 at B5 M5 X5 R5 VA5 EC5 EB5 hHeld ⊢
        refine wpAnyH_ready (rs := [7]) (by kernel_rfl) (by simp) ?_
        try simp only [Act.put, List.setIfInBounds_toArray, List.set_cons_zero, List.set_cons_succ, List.getElem_toArray, List.getElem_cons_zero, List.getElem_cons_succ]
        refine (AllReadyH.cons rfl (fun K hK => ?_) AllReadyH.nil)
        rw [if_pos (by rfl)]
        refine upon_copyFi _ _ (by rfl) (V4.heap.size) (by rfl) EB5.out.now a1 n1 c1 s (by rfl) (H.out.2.1.nextFi B5.out) hn1 ?_
        intro vVB V6 jVB hj hv ho hT
        have JVB := Lib.hid hj
        have M6 : Hid (V5.heap.size ≤ V6.heap.size) := Lib.hid hT.size
        have LVB : Hid (jVB < V6.heap.size) := Lib.hid (World.ownsRow.lt ho jVB hv).2
        obtain ⟨pVB, rVB, rfl⟩ := fi_form ho
        have B6 := Lib.hid (B5.out.trans (hT.below B5.out.size (by have q0 := M0.out; have q1 := M1.out; have q2 := M2.out; have q3 := JVA.out; have q4 := M3.out; have q5 := LVA.out; have q6 := M4.out; have q7 := M5.out; have q8 := JVB.out; have q9 := M6.out; have q10 := LVB.out; omega)))
        have X6 := Lib.hid (X5.out.step hT (by have q0 := M0.out; have q1 := M1.out; have q2 := M2.out; have q3 := JVA.out; have q4 := M3.out; have q5 := LVA.out; have q6 := M4.out; have q7 := M5.out; have q8 := JVB.out; have q9 := M6.out; have q10 := LVB.out; omega))
        have R6 := Lib.hid (R5.out.step hT (by have q0 := M0.out; have q1 := M1.out; have q2 := M2.out; have q3 := JVA.out; have q4 := M3.out; have q5 := LVA.out; have q6 := M4.out; have q7 := M5.out; have q8 := JVB.out; have q9 := M6.out; have q10 := LVB.out; omega))
        have VA6 := Lib.hid (VA5.out.step hT (by have q0 := M0.out; have q1 := M1.out; have q2 := M2.out; have q3 := JVA.out; have q4 := M3.out; have q5 := LVA.out; have q6 := M4.out; have q7 := M5.out; have q8 := JVB.out; have q9 := M6.out; have q10 := LVB.out; omega))
        have EC6 := Lib.hid (EC5.out.step hT (by have q0 := M0.out; have q1 := M1.out; have q2 := M2.out; have q3 := JVA.out; have q4 := M3.out; have q5 := LVA.out; have q6 := M4.out; have q7 := M5.out; have q8 := JVB.out; have q9 := M6.out; have q10 := LVB.out; omega))
        have VB6 := Lib.hid (held_copyFi ho hv)
        clear hj hv ho hT B5 X5 R5 VA5 EC5 EB5
        clear hHeld
        refine hK.out _ _ ?_ (fun hHeld => ?_)
        · exact X6.out.now.treDk
        clear hK K
        refine wpAnyH_ready (rs := [11]) (by kernel_rfl) (by simp) ?_
        try simp only [Act.put, List.setIfInBounds_toArray, List.set_cons_zero, List.set_cons_succ, List.getElem_toArray, List.getElem_cons_zero, List.getElem_cons_succ]
        refine (AllReadyH.cons rfl (fun K hK => ?_) AllReadyH.nil)
        rw [if_pos (by rfl)]
        refine upon_copyOp _ _ (by rfl) (V3.heap.size) (by rfl) EC6.out.now a2 n2 c2 o (by rfl) (H.out.2.2.next B6.out) hn2 ?_
        intro vVC V7 jVC hj hv ho hT
        have JVC := Lib.hid hj
        have M7 : Hid (V6.heap.size ≤ V7.heap.size) := Lib.hid hT.size
        have LVC : Hid (jVC < V7.heap.size) := Lib.hid (World.ownsRow.lt ho jVC hv).2
        obtain ⟨pVC, rVC, rfl⟩ := op_form ho
        have B7 := Lib.hid (B6.out.trans (hT.below B6.out.size (by have q0 := M0.out; have q1 := M1.out; have q2 := M2.out; have q3 := JVA.out; have q4 := M3.out; have q5 := LVA.out; have q6 := M4.out; have q7 := M5.out; have q8 := JVB.out; have q9 := M6.out; have q10 := LVB.out; have q11 := JVC.out; have q12 := M7.out; have q13 := LVC.out; omega)))
        have X7 := Lib.hid (X6.out.step hT (by have q0 := M0.out; have q1 := M1.out; have q2 := M2.out; have q3 := JVA.out; have q4 := M3.out; have q5 := LVA.out; have q6 := M4.out; have q7 := M5.out; have q8 := JVB.out; have q9 := M6.out; have q10 := LVB.out; have q11 := JVC.out; have q12 := M7.out; have q13 := LVC.out; omega))
        have R7 := Lib.hid (R6.out.step hT (by have q0 := M0.out; have q1 := M1.out; have q2 := M2.out; have q3 := JVA.out; have q4 := M3.out; have q5 := LVA.out; have q6 := M4.out; have q7 := M5.out; have q8 := JVB.out; have q9 := M6.out; have q10 := LVB.out; have q11 := JVC.out; have q12 := M7.out; have q13 := LVC.out; omega))
        have VA7 := Lib.hid (VA6.out.step hT (by have q0 := M0.out; have q1 := M1.out; have q2 := M2.out; have q3 := JVA.out; have q4 := M3.out; have q5 := LVA.out; have q6 := M4.out; have q7 := M5.out; have q8 := JVB.out; have q9 := M6.out; have q10 := LVB.out; have q11 := JVC.out; have q12 := M7.out; have q13 := LVC.out; omega))
        have VB7 := Lib.hid (VB6.out.step hT (by have q0 := M0.out; have q1 := M1.out; have q2 := M2.out; have q3 := JVA.out; have q4 := M3.out; have q5 := LVA.out; have q6 := M4.out; have q7 := M5.out; have q8 := JVB.out; have q9 := M6.out; have q10 := LVB.out; have q11 := JVC.out; have q12 := M7.out; have q13 := LVC.out; omega))
        have VC7 := Lib.hid (held_copyOp ho hv)
        clear hj hv ho hT B6 X6 R6 VA6 EC6 VB6
        clear hHeld
        refine hK.out _ _ ?_ (fun hHeld => ?_)
        · exact X7.out.now.treDk
        clear hK K
        refine wpAnyH_take (i := 12) (v := ?_) rfl (by kernel_rfl) (by kernel_rfl) (by kernel_rfl) (fun _ _ _ h => h) (Or.inl ⟨by kernel_rfl, ?_⟩) (by assumption) ?_
        rotate_left
        · intro w hSw; (try dsimp only at hSw); go_simp; try with_reducible rfl
        refine wpAnyH_ready (rs := [13]) (by kernel_rfl) (by simp) ?_
        try simp only [Act.put, List.setIfInBounds_toArray, List.set_cons_zero, List.set_cons_succ, List.getElem_toArray, List.getElem_cons_zero, List.getElem_cons_succ]
        refine AllReadyH.cons rfl (fun K hK => ?_) AllReadyH.nil
        obtain ⟨y0, y1, y2⟩ := R7.out.now.treDk
        have f0 := R7.out.now.free 0
        have f1 := R7.out.now.free 1
        have f2 := R7.out.now.free 2
        have TT := turn_s3 V7 (w.heap.size + 1) (.slice pVA l.length rVA) (.slice pVB s.length rVB) (.slice pVC o.length rVC)
        have XX := X7.out.step TT (.inl (Nat.le_refl _))
        have hsz := size_s3 V7 (w.heap.size + 1) (.slice pVA l.length rVA) (.slice pVB s.length rVB) (.slice pVC o.length rVC)
        have BF := B7.out.trans (TT.below B7.out.size (Nat.le_succ _))
        have FVA := VA7.out.step TT (by have q0 := M0.out; have q1 := M1.out; have q2 := M2.out; have q3 := JVA.out; have q4 := M3.out; have q5 := LVA.out; have q6 := M4.out; have q7 := M5.out; have q8 := JVB.out; have q9 := M6.out; have q10 := LVB.out; have q11 := JVC.out; have q12 := M7.out; have q13 := LVC.out; omega)
        have FVB := VB7.out.step TT (by have q0 := M0.out; have q1 := M1.out; have q2 := M2.out; have q3 := JVA.out; have q4 := M3.out; have q5 := LVA.out; have q6 := M4.out; have q7 := M5.out; have q8 := JVB.out; have q9 := M6.out; have q10 := LVB.out; have q11 := JVC.out; have q12 := M7.out; have q13 := LVC.out; omega)
        have FVC := VC7.out.step TT (by have q0 := M0.out; have q1 := M1.out; have q2 := M2.out; have q3 := JVA.out; have q4 := M3.out; have q5 := LVA.out; have q6 := M4.out; have q7 := M5.out; have q8 := JVB.out; have q9 := M6.out; have q10 := LVB.out; have q11 := JVC.out; have q12 := M7.out; have q13 := LVC.out; omega)
        have HF : Hid (Holds w.heap.size (((V7.setCell ⟨w.heap.size + 1, 0, none⟩ (.slice pVA l.length rVA)).setCell ⟨w.heap.size + 1, 1, none⟩ (.slice pVB s.length rVB)).setCell ⟨w.heap.size + 1, 2, none⟩ (.slice pVC o.length rVC)).heap.size (((V7.setCell ⟨w.heap.size + 1, 0, none⟩ (.slice pVA l.length rVA)).setCell ⟨w.heap.size + 1, 1, none⟩ (.slice pVB s.length rVB)).setCell ⟨w.heap.size + 1, 2, none⟩ (.slice pVC o.length rVC)) (OwnDk w.heap.size (((V7.setCell ⟨w.heap.size + 1, 0, none⟩ (.slice pVA l.length rVA)).setCell ⟨w.heap.size + 1, 1, none⟩ (.slice pVB s.length rVB)).setCell ⟨w.heap.size + 1, 2, none⟩ (.slice pVC o.length rVC)).heap.size (.slice pVA l.length rVA) (.slice pVB s.length rVB) (.slice pVC o.length rVC) l s o)) := Lib.hid ⟨ownDk_lives, Nat.le_refl _, ⟨ownP_baseFi FVA.now.1 (by have q0 := M0.out; have q1 := M1.out; have q2 := M2.out; have q3 := JVA.out; have q4 := M3.out; have q5 := LVA.out; have q6 := M4.out; have q7 := M5.out; have q8 := JVB.out; have q9 := M6.out; have q10 := LVB.out; have q11 := JVC.out; have q12 := M7.out; have q13 := LVC.out; omega), fun i hi => by have z1 := FVA.now.2 i hi; have z2 := FVA.le; omega⟩, ⟨ownP_baseFi FVB.now.1 (by have q0 := M0.out; have q1 := M1.out; have q2 := M2.out; have q3 := JVA.out; have q4 := M3.out; have q5 := LVA.out; have q6 := M4.out; have q7 := M5.out; have q8 := JVB.out; have q9 := M6.out; have q10 := LVB.out; have q11 := JVC.out; have q12 := M7.out; have q13 := LVC.out; omega), fun i hi => by have z1 := FVB.now.2 i hi; have z2 := FVB.le; omega⟩, ⟨ownOp_base FVC.now.1 (by have q0 := M0.out; have q1 := M1.out; have q2 := M2.out; have q3 := JVA.out; have q4 := M3.out; have q5 := LVA.out; have q6 := M4.out; have q7 := M5.out; have q8 := JVB.out; have q9 := M6.out; have q10 := LVB.out; have q11 := JVC.out; have q12 := M7.out; have q13 := LVC.out; omega), fun i hi => by have z1 := FVC.now.2 i hi; have z2 := FVC.le; omega⟩, fun i h1 h2 => by have z1 := (World.ownsRow.lt FVA.now.1 i h1).1; have z2 := FVA.now.2 i h1; have z3 := (World.ownsRow.lt FVB.now.1 i h2).1; have z4 := FVB.now.2 i h2; have q0 := M0.out; have q1 := M1.out; have q2 := M2.out; have q3 := JVA.out; have q4 := M3.out; have q5 := LVA.out; have q6 := M4.out; have q7 := M5.out; have q8 := JVB.out; have q9 := M6.out; have q10 := LVB.out; have q11 := JVC.out; have q12 := M7.out; have q13 := LVC.out; omega, fun i h1 h2 => by have z1 := (World.ownsRow.lt FVA.now.1 i h1).1; have z2 := FVA.now.2 i h1; have z3 := (World.ownsRow.lt FVC.now.1 i h2).1; have z4 := FVC.now.2 i h2; have q0 := M0.out; have q1 := M1.out; have q2 := M2.out; have q3 := JVA.out; have q4 := M3.out; have q5 := LVA.out; have q6 := M4.out; have q7 := M5.out; have q8 := JVB.out; have q9 := M6.out; have q10 := LVB.out; have q11 := JVC.out; have q12 := M7.out; have q13 := LVC.out; omega, fun i h1 h2 => by have z1 := (World.ownsRow.lt FVB.now.1 i h1).1; have z2 := FVB.now.2 i h1; have z3 := (World.ownsRow.lt FVC.now.1 i h2).1; have z4 := FVC.now.2 i h2; have q0 := M0.out; have q1 := M1.out; have q2 := M2.out; have q3 := JVA.out; have q4 := M3.out; have q5 := LVA.out; have q6 := M4.out; have q7 := M5.out; have q8 := JVB.out; have q9 := M6.out; have q10 := LVB.out; have q11 := JVC.out; have q12 := M7.out; have q13 := LVC.out; omega⟩
        have HBF := Lib.hid BF
        go_simp
        clear hHeld
        refine hK.out _ _ ?_ (fun hHeld => ?_)
        · exact XX.now.treDk
        clear hK K XX TT BF FVA FVB FVC
        refine wpAnyH_done (by kernel_rfl) ?_ _
        try simp only [Act.put, List.setIfInBounds_toArray, List.set_cons_zero, List.set_cons_succ, List.getElem_toArray, List.getElem_cons_zero, List.getElem_cons_succ]
        go_wp2_with fail
        refine bodyPost_ret (v := .agg #[.slice pVA l.length rVA, .slice pVB s.length rVB, .slice pVC o.length rVC]) (by simp [results, Try.results62, go_sem, *]) rfl ⟨_, _, _, _, _, _, rfl, HF.out, HBF.out⟩
    · go_simp
      have B3 := Lib.hid (B2.out.alloc B2.out.size (.cells #[] 74))
      have X3 := Lib.hid (X2.out.alloc (.cells #[] 74))
      have R3 := Lib.hid (R2.out.alloc (.cells #[] 74))
      have EA3 := Lib.hid (EA2.out.alloc (.cells #[] 74))
      have EB3 := Lib.hid (cells_new V2 #[] 74)
      have M3 : Hid (V2.heap.size + 1 ≤ (V2.alloc (.cells #[] 74)).heap.size) := Lib.hid (by simp)
      clear hHeld
      refine hK.out _ _ ?_ (fun hHeld => ?_)
      · exact X3.out.now.treDk
      clear hK K B2 X2 R2 EA2
      generalize V2.alloc (.cells #[] 74) = V3 at B3 M3 X3 R3 EA3 EB3 hHeld ⊢
      refine wpAnyH_ready (rs := [3, 8]) (by kernel_rfl) (by simp) ?_
      try simp only [Act.put, List.setIfInBounds_toArray, List.set_cons_zero, List.set_cons_succ, List.getElem_toArray, List.getElem_cons_zero, List.getElem_cons_succ]
      refine (AllReadyH.cons rfl (fun K hK => ?_) (AllReadyH.cons rfl (fun K hK => ?_) AllReadyH.nil))
      · rw [if_pos (by rfl)]
        refine upon_copyFi _ _ (by rfl) (V1.heap.size) (by rfl) EA3.out.now a0 n0 c0 l (by rfl) (H.out.1.nextFi B3.out) hn0 ?_
        intro vVA V4 jVA hj hv ho hT
        have JVA := Lib.hid hj
        have M4 : Hid (V3.heap.size ≤ V4.heap.size) := Lib.hid hT.size
        have LVA : Hid (jVA < V4.heap.size) := Lib.hid (World.ownsRow.lt ho jVA hv).2
        obtain ⟨pVA, rVA, rfl⟩ := fi_form ho
        have B4 := Lib.hid (B3.out.trans (hT.below B3.out.size (by have q0 := M0.out; have q1 := M1.out; have q2 := M2.out; have q3 := M3.out; have q4 := JVA.out; have q5 := M4.out; have q6 := LVA.out; omega)))
        have X4 := Lib.hid (X3.out.step hT (by have q0 := M0.out; have q1 := M1.out; have q2 := M2.out; have q3 := M3.out; have q4 := JVA.out; have q5 := M4.out; have q6 := LVA.out; omega))
        have R4 := Lib.hid (R3.out.step hT (by have q0 := M0.out; have q1 := M1.out; have q2 := M2.out; have q3 := M3.out; have q4 := JVA.out; have q5 := M4.out; have q6 := LVA.out; omega))
        have EB4 := Lib.hid (EB3.out.step hT (by have q0 := M0.out; have q1 := M1.out; have q2 := M2.out; have q3 := M3.out; have q4 := JVA.out; have q5 := M4.out; have q6 := LVA.out; omega))
        have VA4 := Lib.hid (held_copyFi ho hv)
        clear hj hv ho hT B3 X3 R3 EA3 EB3
        clear hHeld
        refine hK.out _ _ ?_ (fun hHeld => ?_)
        · exact X4.out.now.treDk
        clear hK K
        refine wpAnyH_ready (rs := [7, 8]) (by kernel_rfl) (by simp) ?_
        try simp only [Act.put, List.setIfInBounds_toArray, List.set_cons_zero, List.set_cons_succ, List.getElem_toArray, List.getElem_cons_zero, List.getElem_cons_succ]
        refine (AllReadyH.cons rfl (fun K hK => ?_) (AllReadyH.cons rfl (fun K hK => ?_) AllReadyH.nil))
        · rw [if_pos (by rfl)]
          refine upon_copyFi _ _ (by rfl) (V2.heap.size) (by rfl) EB4.out.now a1 n1 c1 s (by rfl) (H.out.2.1.nextFi B4.out) hn1 ?_
          intro vVB V5 jVB hj hv ho hT
          have JVB := Lib.hid hj
          have M5 : Hid (V4.heap.size ≤ V5.heap.size) := Lib.hid hT.size
          have LVB : Hid (jVB < V5.heap.size) := Lib.hid (World.ownsRow.lt ho jVB hv).2
          obtain ⟨pVB, rVB, rfl⟩ := fi_form ho
          have B5 := Lib.hid (B4.out.trans (hT.below B4.out.size (by have q0 := M0.out; have q1 := M1.out; have q2 := M2.out; have q3 := M3.out; have q4 := JVA.out; have q5 := M4.out; have q6 := LVA.out; have q7 := JVB.out; have q8 := M5.out; have q9 := LVB.out; omega)))
          have X5 := Lib.hid (X4.out.step hT (by have q0 := M0.out; have q1 := M1.out; have q2 := M2.out; have q3 := M3.out; have q4 := JVA.out; have q5 := M4.out; have q6 := LVA.out; have q7 := JVB.out; have q8 := M5.out; have q9 := LVB.out; omega))
          have R5 := Lib.hid (R4.out.step hT (by have q0 := M0.out; have q1 := M1.out; have q2 := M2.out; have q3 := M3.out; have q4 := JVA.out; have q5 := M4.out; have q6 := LVA.out; have q7 := JVB.out; have q8 := M5.out; have q9 := LVB.out; omega))
          have VA5 := Lib.hid (VA4.out.step hT (by have q0 := M0.out; have q1 := M1.out; have q2 := M2.out; have q3 := M3.out; have q4 := JVA.out; have q5 := M4.out; have q6 := LVA.out; have q7 := JVB.out; have q8 := M5.out; have q9 := LVB.out; omega))
          have VB5 := Lib.hid (held_copyFi ho hv)
          clear hj hv ho hT B4 X4 R4 EB4 VA4
          clear hHeld
          refine hK.out _ _ ?_ (fun hHeld => ?_)
          · exact X5.out.now.treDk
          clear hK K
          refine wpAnyH_ready (rs := [8]) (by kernel_rfl) (by simp) ?_
          try simp only [Act.put, List.setIfInBounds_toArray, List.set_cons_zero, List.set_cons_succ, List.getElem_toArray, List.getElem_cons_zero, List.getElem_cons_succ]
          refine (AllReadyH.cons rfl (fun K hK => ?_) AllReadyH.nil)
          go_simp
          have B6 := Lib.hid (B5.out.alloc B5.out.size (.cells #[] 36))
          have X6 := Lib.hid (X5.out.alloc (.cells #[] 36))
          have R6 := Lib.hid (R5.out.alloc (.cells #[] 36))
          have VA6 := Lib.hid (VA5.out.alloc (.cells #[] 36))
          have VB6 := Lib.hid (VB5.out.alloc (.cells #[] 36))
          have EC6 := Lib.hid (cells_new V5 #[] 36)
          have M6 : Hid (V5.heap.size + 1 ≤ (V5.alloc (.cells #[] 36)).heap.size) := Lib.hid (by simp)
          clear hHeld
          refine hK.out _ _ ?_ (fun hHeld => ?_)
          · exact X6.out.now.treDk
          clear hK K B5 X5 R5 VA5 VB5
          generalize V5.alloc (.cells #[] 36) = V6 at B6 M6 X6 R6 VA6 VB6 EC6 hHeld ⊢
          refine wpAnyH_ready (rs := [11]) (by kernel_rfl) (by simp) ?_
          try simp only [Act.put, List.setIfInBounds_toArray, List.set_cons_zero, List.set_cons_succ, List.getElem_toArray, List.getElem_cons_zero, List.getElem_cons_succ]
          refine (AllReadyH.cons rfl (fun K hK => ?_) AllReadyH.nil)
          rw [if_pos (by rfl)]
          refine upon_copyOp _ _ (by rfl) (V5.heap.size) (by rfl) EC6.out.now a2 n2 c2 o (by rfl) (H.out.2.2.next B6.out) hn2 ?_
          intro vVC V7 jVC hj hv ho hT
          have JVC := Lib.hid hj
          have M7 : Hid (V6.heap.size ≤ V7.heap.size) := Lib.hid hT.size
          have LVC : Hid (jVC < V7.heap.size) := Lib.hid (World.ownsRow.lt ho jVC hv).2
          obtain ⟨pVC, rVC, rfl⟩ := op_form ho
          have B7 := Lib.hid (B6.out.trans (hT.below B6.out.size (by have q0 := M0.out; have q1 := M1.out; have q2 := M2.out; have q3 := M3.out; have q4 := JVA.out; have q5 := M4.out; have q6 := LVA.out; have q7 := JVB.out; have q8 := M5.out; have q9 := LVB.out; have q10 := M6.out; have q11 := JVC.out; have q12 := M7.out; have q13 := LVC.out; omega)))
          have X7 := Lib.hid (X6.out.step hT (by have q0 := M0.out; have q1 := M1.out; have q2 := M2.out; have q3 := M3.out; have q4 := JVA.out; have q5 := M4.out; have q6 := LVA.out; have q7 := JVB.out; have q8 := M5.out; have q9 := LVB.out; have q10 := M6.out; have q11 := JVC.out; have q12 := M7.out; have q13 := LVC.out; omega))
          have R7 := Lib.hid (R6.out.step hT (by have q0 := M0.out; have q1 := M1.out; have q2 := M2.out; have q3 := M3.out; have q4 := JVA.out; have q5 := M4.out; have q6 := LVA.out; have q7 := JVB.out; have q8 := M5.out; have q9 := LVB.out; have q10 := M6.out; have q11 := JVC.out; have q12 := M7.out; have q13 := LVC.out; omega))
          have VA7 := Lib.hid (VA6.out.step hT (by have q0 := M0.out; have q1 := M1.out; have q2 := M2.out; have q3 := M3.out; have q4 := JVA.out; have q5 := M4.out; have q6 := LVA.out; have q7 := JVB.out; have q8 := M5.out; have q9 := LVB.out; have q10 := M6.out; have q11 := JVC.out; have q12 := M7.out; have q13 := LVC.out; omega))
          have VB7 := Lib.hid (VB6.out.step hT (by have q0 := M0.out; have q1 := M1.out; have q2 := M2.out; have q3 := M3.out; have q4 := JVA.out; have q5 := M4.out; have q6 := LVA.out; have q7 := JVB.out; have q8 := M5.out; have q9 := LVB.out; have q10 := M6.out; have q11 := JVC.out; have q12 := M7.out; have q13 := LVC.out; omega))
          have VC7 := Lib.hid (held_copyOp ho hv)
          clear hj hv ho hT B6 X6 R6 VA6 VB6 EC6
          clear hHeld
          refine hK.out _ _ ?_ (fun hHeld => ?_)
          · exact X7.out.now.treDk
          clear hK K
          refine wpAnyH_take (i := 12) (v := ?_) rfl (by kernel_rfl) (by kernel_rfl) (by kernel_rfl) (fun _ _ _ h => h) (Or.inl ⟨by kernel_rfl, ?_⟩) (by assumption) ?_
          rotate_left
          · intro w hSw; (try dsimp only at hSw); go_simp; try with_reducible rfl
          refine wpAnyH_ready (rs := [13]) (by kernel_rfl) (by simp) ?_
          try simp only [Act.put, List.setIfInBounds_toArray, List.set_cons_zero, List.set_cons_succ, List.getElem_toArray, List.getElem_cons_zero, List.getElem_cons_succ]
          refine AllReadyH.cons rfl (fun K hK => ?_) AllReadyH.nil
          obtain ⟨y0, y1, y2⟩ := R7.out.now.treDk
          have f0 := R7.out.now.free 0
          have f1 := R7.out.now.free 1
          have f2 := R7.out.now.free 2
          have TT := turn_s3 V7 (w.heap.size + 1) (.slice pVA l.length rVA) (.slice pVB s.length rVB) (.slice pVC o.length rVC)
          have XX := X7.out.step TT (.inl (Nat.le_refl _))
          have hsz := size_s3 V7 (w.heap.size + 1) (.slice pVA l.length rVA) (.slice pVB s.length rVB) (.slice pVC o.length rVC)
          have BF := B7.out.trans (TT.below B7.out.size (Nat.le_succ _))
          have FVA := VA7.out.step TT (by have q0 := M0.out; have q1 := M1.out; have q2 := M2.out; have q3 := M3.out; have q4 := JVA.out; have q5 := M4.out; have q6 := LVA.out; have q7 := JVB.out; have q8 := M5.out; have q9 := LVB.out; have q10 := M6.out; have q11 := JVC.out; have q12 := M7.out; have q13 := LVC.out; omega)
          have FVB := VB7.out.step TT (by have q0 := M0.out; have q1 := M1.out; have q2 := M2.out; have q3 := M3.out; have q4 := JVA.out; have q5 := M4.out; have q6 := LVA.out; have q7 := JVB.out; have q8 := M5.out; have q9 := LVB.out; have q10 := M6.out; have q11 := JVC.out; have q12 := M7.out; have q13 := LVC.out; omega)
          have FVC := VC7.out.step TT (by have q0 := M0.out; have q1 := M1.out; have q2 := M2.out; have q3 := M3.out; have q4 := JVA.out; have q5 := M4.out; have q6 := LVA.out; have q7 := JVB.out; have q8 := M5.out; have q9 := LVB.out; have q10 := M6.out; have q11 := JVC.out; have q12 := M7.out; have q13 := LVC.out; omega)
          have HF : Hid (Holds w.heap.size (((V7.setCell ⟨w.heap.size + 1, 0, none⟩ (.slice pVA l.length rVA)).setCell ⟨w.heap.size + 1, 1, none⟩ (.slice pVB s.length rVB)).setCell ⟨w.heap.size + 1, 2, none⟩ (.slice pVC o.length rVC)).heap.size (((V7.setCell ⟨w.heap.size + 1, 0, none⟩ (.slice pVA l.length rVA)).setCell ⟨w.heap.size + 1, 1, none⟩ (.slice pVB s.length rVB)).setCell ⟨w.heap.size + 1, 2, none⟩ (.slice pVC o.length rVC)) (OwnDk w.heap.size (((V7.setCell ⟨w.heap.size + 1, 0, none⟩ (.slice pVA l.length rVA)).setCell ⟨w.heap.size + 1, 1, none⟩ (.slice pVB s.length rVB)).setCell ⟨w.heap.size + 1, 2, none⟩ (.slice pVC o.length rVC)).heap.size (.slice pVA l.length rVA) (.slice pVB s.length rVB) (.slice pVC o.length rVC) l s o)) := Lib.hid ⟨ownDk_lives, Nat.le_refl _, ⟨ownP_baseFi FVA.now.1 (by have q0 := M0.out; have q1 := M1.out; have q2 := M2.out; have q3 := M3.out; have q4 := JVA.out; have q5 := M4.out; have q6 := LVA.out; have q7 := JVB.out; have q8 := M5.out; have q9 := LVB.out; have q10 := M6.out; have q11 := JVC.out; have q12 := M7.out; have q13 := LVC.out; omega), fun i hi => by have z1 := FVA.now.2 i hi; have z2 := FVA.le; omega⟩, ⟨ownP_baseFi FVB.now.1 (by have q0 := M0.out; have q1 := M1.out; have q2 := M2.out; have q3 := M3.out; have q4 := JVA.out; have q5 := M4.out; have q6 := LVA.out; have q7 := JVB.out; have q8 := M5.out; have q9 := LVB.out; have q10 := M6.out; have q11 := JVC.out; have q12 := M7.out; have q13 := LVC.out; omega), fun i hi => by have z1 := FVB.now.2 i hi; have z2 := FVB.le; omega⟩, ⟨ownOp_base FVC.now.1 (by have q0 := M0.out; have q1 := M1.out; have q2 := M2.out; have q3 := M3.out; have q4 := JVA.out; have q5 := M4.out; have q6 := LVA.out; have q7 := JVB.out; have q8 := M5.out; have q9 := LVB.out; have q10 := M6.out; have q11 := JVC.out; have q12 := M7.out; have q13 := LVC.out; omega), fun i hi => by have z1 := FVC.now.2 i hi; have z2 := FVC.le; omega⟩, fun i h1 h2 => by have z1 := (World.ownsRow.lt FVA.now.1 i h1).1; have z2 := FVA.now.2 i h1; have z3 := (World.ownsRow.lt FVB.now.1 i h2).1; have z4 := FVB.now.2 i h2; have q0 := M0.out; have q1 := M1.out; have q2 := M2.out; have q3 := M3.out; have q4 := JVA.out; have q5 := M4.out; have q6 := LVA.out; have q7 := JVB.out; have q8 := M5.out; have q9 := LVB.out; have q10 := M6.out; have q11 := JVC.out; have q12 := M7.out; have q13 := LVC.out; omega, fun i h1 h2 => by have z1 := (World.ownsRow.lt FVA.now.1 i h1).1; have z2 := FVA.now.2 i h1; have z3 := (World.ownsRow.lt FVC.now.1 i h2).1; have z4 := FVC.now.2 i h2; have q0 := M0.out; have q1 := M1.out; have q2 := M2.out; have q3 := M3.out; have q4 := JVA.out; have q5 := M4.out; have q6 := LVA.out; have q7 := JVB.out; have q8 := M5.out; have q9 := LVB.out; have q10 := M6.out; have q11 := JVC.out; have q12 := M7.out; have q13 := LVC.out; omega, fun i h1 h2 => by have z1 := (World.ownsRow.lt FVB.now.1 i h1).1; have z2 := FVB.now.2 i h1; have z3 := (World.ownsRow.lt FVC.now.1 i h2).1; have z4 := FVC.now.2 i h2; have q0 := M0.out; have q1 := M1.out; have q2 := M2.out; have q3 := M3.out; have q4 := JVA.out; have q5 := M4.out; have q6 := LVA.out; have q7 := JVB.out; have q8 := M5.out; have q9 := LVB.out; have q10 := M6.out; have q11 := JVC.out; have q12 := M7.out; have q13 := LVC.out; omega⟩
          have HBF := Lib.hid BF
          go_simp
          clear hHeld
          refine hK.out _ _ ?_ (fun hHeld => ?_)
          · exact XX.now.treDk
          clear hK K XX TT BF FVA FVB FVC
          refine wpAnyH_done (by kernel_rfl) ?_ _
          try simp only [Act.put, List.setIfInBounds_toArray, List.set_cons_zero, List.set_cons_succ, List.getElem_toArray, List.getElem_cons_zero, List.getElem_cons_succ]
          go_wp2_with fail
          refine bodyPost_ret (v := .agg #[.slice pVA l.length rVA, .slice pVB s.length rVB, .slice pVC o.length rVC]) (by simp [results, Try.results62, go_sem, *]) rfl ⟨_, _, _, _, _, _, rfl, HF.out, HBF.out⟩
        · go_simp
          have B5 := Lib.hid (B4.out.alloc B4.out.size (.cells #[] 36))
          have X5 := Lib.hid (X4.out.alloc (.cells #[] 36))
          have R5 := Lib.hid (R4.out.alloc (.cells #[] 36))
          have EB5 := Lib.hid (EB4.out.alloc (.cells #[] 36))
          have VA5 := Lib.hid (VA4.out.alloc (.cells #[] 36))
          have EC5 := Lib.hid (cells_new V4 #[] 36)
          have M5 : Hid (V4.heap.size + 1 ≤ (V4.alloc (.cells #[] 36)).heap.size) := Lib.hid (by simp)
          clear hHeld
          refine hK.out _ _ ?_ (fun hHeld => ?_)
          · exact X5.out.now.treDk
          clear hK K B4 X4 R4 EB4 VA4
          generalize V4.alloc (.cells #[] 36) = V5 at B5 M5 X5 R5 EB5 VA5 EC5 hHeld ⊢
          refine wpAnyH_ready (rs := [7]) (by kernel_rfl) (by simp) ?_
          try simp only [Act.put, List.setIfInBounds_toArray, List.set_cons_zero, List.set_cons_succ, List.getElem_toArray, List.getElem_cons_zero, List.getElem_cons_succ]
          refine (AllReadyH.cons rfl (fun K hK => ?_) AllReadyH.nil)
          rw [if_pos (by rfl)]
          refine upon_copyFi _ _ (by rfl) (V2.heap.size) (by rfl) EB5.out.now a1 n1 c1 s (by rfl) (H.out.2.1.nextFi B5.out) hn1 ?_
          intro vVB V6 jVB hj hv ho hT
          have JVB := Lib.hid hj
          have M6 : Hid (V5.heap.size ≤ V6.heap.size) := Lib.hid hT.size
          have LVB : Hid (jVB < V6.heap.size) := Lib.hid (World.ownsRow.lt ho jVB hv).2
          obtain ⟨pVB, rVB, rfl⟩ := fi_form ho
          have B6 := Lib.hid (B5.out.trans (hT.below B5.out.size (by have q0 := M0.out; have q1 := M1.out; have q2 := M2.out; have q3 := M3.out; have q4 := JVA.out; have q5 := M4.out; have q6 := LVA.out; have q7 := M5.out; have q8 := JVB.out; have q9 := M6.out; have q10 := LVB.out; omega)))
          have X6 := Lib.hid (X5.out.step hT (by have q0 := M0.out; have q1 := M1.out; have q2 := M2.out; have q3 := M3.out; have q4 := JVA.out; have q5 := M4.out; have q6 := LVA.out; have q7 := M5.out; have q8 := JVB.out; have q9 := M6.out; have q10 := LVB.out; omega))
          have R6 := Lib.hid (R5.out.step hT (by have q0 := M0.out; have q1 := M1.out; have q2 := M2.out; have q3 := M3.out; have q4 := JVA.out; have q5 := M4.out; have q6 := LVA.out; have q7 := M5.out; have q8 := JVB.out; have q9 := M6.out; have q10 := LVB.out; omega))
          have VA6 := Lib.hid (VA5.out.step hT (by have q0 := M0.out; have q1 := M1.out; have q2 := M2.out; have q3 := M3.out; have q4 := JVA.out; have q5 := M4.out; have q6 := LVA.out; have q7 := M5.out; have q8 := JVB.out; have q9 := M6.out; have q10 := LVB.out; omega))
          have EC6 := Lib.hid (EC5.out.step hT (by have q0 := M0.out; have q1 := M1.out; have q2 := M2.out; have q3 := M3.out; have q4 := JVA.out; have q5 := M4.out; have q6 := LVA.out; have q7 := M5.out; have q8 := JVB.out; have q9 := M6.out; have q10 := LVB.out; omega))
          have VB6 := Lib.hid (held_copyFi ho hv)
          clear hj hv ho hT B5 X5 R5 EB5 VA5 EC5
          clear hHeld
          refine hK.out _ _ ?_ (fun hHeld => ?_)
          · exact X6.out.now.treDk
          clear hK K
          refine wpAnyH_ready (rs := [11]) (by kernel_rfl) (by simp) ?_
          try simp only [Act.put, List.setIfInBounds_toArray, List.set_cons_zero, List.set_cons_succ, List.getElem_toArray, List.getElem_cons_zero, List.getElem_cons_succ]
          refine (AllReadyH.cons rfl (fun K hK => ?_) AllReadyH.nil)
          rw [if_pos (by rfl)]
          refine upon_copyOp _ _ (by rfl) (V4.heap.size) (by rfl) EC6.out.now a2 n2 c2 o (by rfl) (H.out.2.2.next B6.out) hn2 ?_
          intro vVC V7 jVC hj hv ho hT
          have JVC := Lib.hid hj
          have M7 : Hid (V6.heap.size ≤ V7.heap.size) := Lib.hid hT.size
          have LVC : Hid (jVC < V7.heap.size) := Lib.hid (World.ownsRow.lt ho jVC hv).2
          obtain ⟨pVC, rVC, rfl⟩ := op_form ho
          have B7 := Lib.hid (B6.out.trans (hT.below B6.out.size (by have q0 := M0.out; have q1 := M1.out; have q2 := M2.out; have q3 := M3.out; have q4 := JVA.out; have q5 := M4.out; have q6 := LVA.out; have q7 := M5.out; have q8 := JVB.out; have q9 := M6.out; have q10 := LVB.out; have q11 := JVC.out; have q12 := M7.out; have q13 := LVC.out; omega)))
          have X7 := Lib.hid (X6.out.step hT (by have q0 := M0.out; have q1 := M1.out; have q2 := M2.out; have q3 := M3.out; have q4 := JVA.out; have q5 := M4.out; have q6 := LVA.out; have q7 := M5.out; have q8 := JVB.out; have q9 := M6.out; have q10 := LVB.out; have q11 := JVC.out; have q12 := M7.out; have q13 := LVC.out; omega))
          have R7 := Lib.hid (R6.out.step hT (by have q0 := M0.out; have q1 := M1.out; have q2 := M2.out; have q3 := M3.out; have q4 := JVA.out; have q5 := M4.out; have q6 := LVA.out; have q7 := M5.out; have q8 := JVB.out; have q9 := M6.out; have q10 := LVB.out; have q11 := JVC.out; have q12 := M7.out; have q13 := LVC.out; omega))
          have VA7 := Lib.hid (VA6.out.step hT (by have q0 := M0.out; have q1 := M1.out; have q2 := M2.out; have q3 := M3.out; have q4 := JVA.out; have q5 := M4.out; have q6 := LVA.out; have q7 := M5.out; have q8 := JVB.out; have q9 := M6.out; have q10 := LVB.out; have q11 := JVC.out; have q12 := M7.out; have q13 := LVC.out; omega))
          have VB7 := Lib.hid (VB6.out.step hT (by have q0 := M0.out; have q1 := M1.out; have q2 := M2.out; have q3 := M3.out; have q4 := JVA.out; have q5 := M4.out; have q6 := LVA.out; have q7 := M5.out; have q8 := JVB.out; have q9 := M6.out; have q10 := LVB.out; have q11 := JVC.out; have q12 := M7.out; have q13 := LVC.out; omega))
          have VC7 := Lib.hid (held_copyOp ho hv)
          clear hj hv ho hT B6 X6 R6 VA6 EC6 VB6
          clear hHeld
          refine hK.out _ _ ?_ (fun hHeld => ?_)
          · exact X7.out.now.treDk
          clear hK K
          refine wpAnyH_take (i := 12) (v := ?_) rfl (by kernel_rfl) (by kernel_rfl) (by kernel_rfl) (fun _ _ _ h => h) (Or.inl ⟨by kernel_rfl, ?_⟩) (by assumption) ?_
          rotate_left
          · intro w hSw; (try dsimp only at hSw); go_simp; try with_reducible rfl
          refine wpAnyH_ready (rs := [13]) (by kernel_rfl) (by simp) ?_
          try simp only [Act.put, List.setIfInBounds_toArray, List.set_cons_zero, List.set_cons_succ, List.getElem_toArray, List.getElem_cons_zero, List.getElem_cons_succ]
          refine AllReadyH.cons rfl (fun K hK => ?_) AllReadyH.nil
          obtain ⟨y0, y1, y2⟩ := R7.out.now.treDk
          have f0 := R7.out.now.free 0
          have f1 := R7.out.now.free 1
          have f2 := R7.out.now.free 2
          have TT := turn_s3 V7 (w.heap.size + 1) (.slice pVA l.length rVA) (.slice pVB s.length rVB) (.slice pVC o.length rVC)
          have XX := X7.out.step TT (.inl (Nat.le_refl _))
          have hsz := size_s3 V7 (w.heap.size + 1) (.slice pVA l.length rVA) (.slice pVB s.length rVB) (.slice pVC o.length rVC)
          have BF := B7.out.trans (TT.below B7.out.size (Nat.le_succ _))
          have FVA := VA7.out.step TT (by have q0 := M0.out; have q1 := M1.out; have q2 := M2.out; have q3 := M3.out; have q4 := JVA.out; have q5 := M4.out; have q6 := LVA.out; have q7 := M5.out; have q8 := JVB.out; have q9 := M6.out; have q10 := LVB.out; have q11 := JVC.out; have q12 := M7.out; have q13 := LVC.out; omega)
          have FVB := VB7.out.step TT (by have q0 := M0.out; have q1 := M1.out; have q2 := M2.out; have q3 := M3.out; have q4 := JVA.out; have q5 := M4.out; have q6 := LVA.out; have q7 := M5.out; have q8 := JVB.out; have q9 := M6.out; have q10 := LVB.out; have q11 := JVC.out; have q12 := M7.out; have q13 := LVC.out; omega)
          have FVC := VC7.out.step TT (by have q0 := M0.out; have q1 := M1.out; have q2 := M2.out; have q3 := M3.out; have q4 := JVA.out; have q5 := M4.out; have q6 := LVA.out; have q7 := M5.out; have q8 := JVB.out; have q9 := M6.out; have q10 := LVB.out; have q11 := JVC.out; have q12 := M7.out; have q13 := LVC.out; omega)
          have HF : Hid (Holds w.heap.size (((V7.setCell ⟨w.heap.size + 1, 0, none⟩ (.slice pVA l.length rVA)).setCell ⟨w.heap.size + 1, 1, none⟩ (.slice pVB s.length rVB)).setCell ⟨w.heap.size + 1, 2, none⟩ (.slice pVC o.length rVC)).heap.size (((V7.setCell ⟨w.heap.size + 1, 0, none⟩ (.slice pVA l.length rVA)).setCell ⟨w.heap.size + 1, 1, none⟩ (.slice pVB s.length rVB)).setCell ⟨w.heap.size + 1, 2, none⟩ (.slice pVC o.length rVC)) (OwnDk w.heap.size (((V7.setCell ⟨w.heap.size + 1, 0, none⟩ (.slice pVA l.length rVA)).setCell ⟨w.heap.size + 1, 1, none⟩ (.slice pVB s.length rVB)).setCell ⟨w.heap.size + 1, 2, none⟩ (.slice pVC o.length rVC)).heap.size (.slice pVA l.length rVA) (.slice pVB s.length rVB) (.slice pVC o.length rVC) l s o)) := Lib.hid ⟨ownDk_lives, Nat.le_refl _, ⟨ownP_baseFi FVA.now.1 (by have q0 := M0.out; have q1 := M1.out; have q2 := M2.out; have q3 := M3.out; have q4 := JVA.out; have q5 := M4.out; have q6 := LVA.out; have q7 := M5.out; have q8 := JVB.out; have q9 := M6.out; have q10 := LVB.out; have q11 := JVC.out; have q12 := M7.out; have q13 := LVC.out; omega), fun i hi => by have z1 := FVA.now.2 i hi; have z2 := FVA.le; omega⟩, ⟨ownP_baseFi FVB.now.1 (by have q0 := M0.out; have q1 := M1.out; have q2 := M2.out; have q3 := M3.out; have q4 := JVA.out; have q5 := M4.out; have q6 := LVA.out; have q7 := M5.out; have q8 := JVB.out; have q9 := M6.out; have q10 := LVB.out; have q11 := JVC.out; have q12 := M7.out; have q13 := LVC.out; omega), fun i hi => by have z1 := FVB.now.2 i hi; have z2 := FVB.le; omega⟩, ⟨ownOp_base FVC.now.1 (by have q0 := M0.out; have q1 := M1.out; have q2 := M2.out; have q3 := M3.out; have q4 := JVA.out; have q5 := M4.out; have q6 := LVA.out; have q7 := M5.out; have q8 := JVB.out; have q9 := M6.out; have q10 := LVB.out; have q11 := JVC.out; have q12 := M7.out; have q13 := LVC.out; omega), fun i hi => by have z1 := FVC.now.2 i hi; have z2 := FVC.le; omega⟩, fun i h1 h2 => by have z1 := (World.ownsRow.lt FVA.now.1 i h1).1; have z2 := FVA.now.2 i h1; have z3 := (World.ownsRow.lt FVB.now.1 i h2).1; have z4 := FVB.now.2 i h2; have q0 := M0.out; have q1 := M1.out; have q2 := M2.out; have q3 := M3.out; have q4 := JVA.out; have q5 := M4.out; have q6 := LVA.out; have q7 := M5.out; have q8 := JVB.out; have q9 := M6.out; have q10 := LVB.out; have q11 := JVC.out; have q12 := M7.out; have q13 := LVC.out; omega, fun i h1 h2 => by have z1 := (World.ownsRow.lt FVA.now.1 i h1).1; have z2 := FVA.now.2 i h1; have z3 := (World.ownsRow.lt FVC.now.1 i h2).1; have z4 := FVC.now.2 i h2; have q0 := M0.out; have q1 := M1.out; have q2 := M2.out; have q3 := M3.out; have q4 := JVA.out; have q5 := M4.out; have q6 := LVA.out; have q7 := M5.out; have q8 := JVB.out; have q9 := M6.out; have q10 := LVB.out; have q11 := JVC.out; have q12 := M7.out; have q13 := LVC.out; omega, fun i h1 h2 => by have z1 := (World.ownsRow.lt FVB.now.1 i h1).1; have z2 := FVB.now.2 i h1; have z3 := (World.ownsRow.lt FVC.now.1 i h2).1; have z4 := FVC.now.2 i h2; have q0 := M0.out; have q1 := M1.out; have q2 := M2.out; have q3 := M3.out; have q4 := JVA.out; have q5 := M4.out; have q6 := LVA.out; have q7 := M5.out; have q8 := JVB.out; have q9 := M6.out; have q10 := LVB.out; have q11 := JVC.out; have q12 := M7.out; have q13 := LVC.out; omega⟩
          have HBF := Lib.hid BF
          go_simp
          clear hHeld
          refine hK.out _ _ ?_ (fun hHeld => ?_)
          · exact XX.now.treDk
          clear hK K XX TT BF FVA FVB FVC
          refine wpAnyH_done (by kernel_rfl) ?_ _
          try simp only [Act.put, List.setIfInBounds_toArray, List.set_cons_zero, List.set_cons_succ, List.getElem_toArray, List.getElem_cons_zero, List.getElem_cons_succ]
          go_wp2_with fail
          refine bodyPost_ret (v := .agg #[.slice pVA l.length rVA, .slice pVB s.length rVB, .slice pVC o.length rVC]) (by simp [results, Try.results62, go_sem, *]) rfl ⟨_, _, _, _, _, _, rfl, HF.out, HBF.out⟩
      · go_simp
        have B4 := Lib.hid (B3.out.alloc B3.out.size (.cells #[] 36))
        have X4 := Lib.hid (X3.out.alloc (.cells #[] 36))
        have R4 := Lib.hid (R3.out.alloc (.cells #[] 36))
        have EA4 := Lib.hid (EA3.out.alloc (.cells #[] 36))
        have EB4 := Lib.hid (EB3.out.alloc (.cells #[] 36))
        have EC4 := Lib.hid (cells_new V3 #[] 36)
        have M4 : Hid (V3.heap.size + 1 ≤ (V3.alloc (.cells #[] 36)).heap.size) := Lib.hid (by simp)
        clear hHeld
        refine hK.out _ _ ?_ (fun hHeld => ?_)
        · exact X4.out.now.treDk
        clear hK K B3 X3 R3 EA3 EB3
        generalize V3.alloc (.cells #[] 36) = V4 at B4 M4 X4 R4 EA4 EB4 EC4 hHeld ⊢
        refine wpAnyH_ready (rs := [3]) (by kernel_rfl) (by simp) ?_
        try simp only [Act.put, List.setIfInBounds_toArray, List.set_cons_zero, List.set_cons_succ, List.getElem_toArray, List.getElem_cons_zero, List.getElem_cons_succ]
        refine (AllReadyH.cons rfl (fun K hK => ?_) AllReadyH.nil)
        rw [if_pos (by rfl)]
        refine upon_copyFi _ _ (by rfl) (V1.heap.size) (by rfl) EA4.out.now a0 n0 c0 l (by rfl) (H.out.1.nextFi B4.out) hn0 ?_
        intro vVA V5 jVA hj hv ho hT
        have JVA := Lib.hid hj
        have M5 : Hid (V4.heap.size ≤ V5.heap.size) := Lib.hid hT.size
        have LVA : Hid (jVA < V5.heap.size) := Lib.hid (World.ownsRow.lt ho jVA hv).2
        obtain ⟨pVA, rVA, rfl⟩ := fi_form ho
        have B5 := Lib.hid (B4.out.trans (hT.below B4.out.size (by have q0 := M0.out; have q1 := M1.out; have q2 := M2.out; have q3 := M3.out; have q4 := M4.out; have q5 := JVA.out; have q6 := M5.out; have q7 := LVA.out; omega)))
        have X5 := Lib.hid (X4.out.step hT (by have q0 := M0.out; have q1 := M1.out; have q2 := M2.out; have q3 := M3.out; have q4 := M4.out; have q5 := JVA.out; have q6 := M5.out; have q7 := LVA.out; omega))
        have R5 := Lib.hid (R4.out.step hT (by have q0 := M0.out; have q1 := M1.out; have q2 := M2.out; have q3 := M3.out; have q4 := M4.out; have q5 := JVA.out; have q6 := M5.out; have q7 := LVA.out; omega))
        have EB5 := Lib.hid (EB4.out.step hT (by have q0 := M0.out; have q1 := M1.out; have q2 := M2.out; have q3 := M3.out; have q4 := M4.out; have q5 := JVA.out; have q6 := M5.out; have q7 := LVA.out; omega))
        have EC5 := Lib.hid (EC4.out.step hT (by have q0 := M0.out; have q1 := M1.out; have q2 := M2.out; have q3 := M3.out; have q4 := M4.out; have q5 := JVA.out; have q6 := M5.out; have q7 := LVA.out; omega))
        have VA5 := Lib.hid (held_copyFi ho hv)
        clear hj hv ho hT B4 X4 R4 EA4 EB4 EC4
        clear hHeld
        refine hK.out _ _ ?_ (fun hHeld => ?_)
        · exact X5.out.now.treDk
        clear hK K
        refine wpAnyH_ready (rs := [7]) (by kernel_rfl) (by simp) ?_
        try simp only [Act.put, List.setIfInBounds_toArray, List.set_cons_zero, List.set_cons_succ, List.getElem_toArray, List.getElem_cons_zero, List.getElem_cons_succ]
        refine (AllReadyH.cons rfl (fun K hK => ?_) AllReadyH.nil)
        rw [if_pos (by rfl)]
        refine upon_copyFi _ _ (by rfl) (V2.heap.size) (by rfl) EB5.out.now a1 n1 c1 s (by rfl) (H.out.2.1.nextFi B5.out) hn1 ?_
        intro vVB V6 jVB hj hv ho hT
        have JVB := Lib.hid hj
        have M6 : Hid (V5.heap.size ≤ V6.heap.size) := Lib.hid hT.size
        have LVB : Hid (jVB < V6.heap.size) := Lib.hid (World.ownsRow.lt ho jVB hv).2
        obtain ⟨pVB, rVB, rfl⟩ := fi_form ho
        have B6 := Lib.hid (B5.out.trans (hT.below B5.out.size (by have q0 := M0.out; have q1 := M1.out; have q2 := M2.out; have q3 := M3.out; have q4 := M4.out; have q5 := JVA.out; have q6 := M5.out; have q7 := LVA.out; have q8 := JVB.out; have q9 := M6.out; have q10 := LVB.out; omega)))
        have X6 := Lib.hid (X5.out.step hT (by have q0 := M0.out; have q1 := M1.out; have q2 := M2.out; have q3 := M3.out; have q4 := M4.out; have q5 := JVA.out; have q6 := M5.out; have q7 := LVA.out; have q8 := JVB.out; have q9 := M6.out; have q10 := LVB.out; omega))
        have R6 := Lib.hid (R5.out.step hT (by have q0 := M0.out; have q1 := M1.out; have q2 := M2.out; have q3 := M3.out; have q4 := M4.out; have q5 := JVA.out; have q6 := M5.out; have q7 := LVA.out; have q8 := JVB.out; have q9 := M6.out; have q10 := LVB.out; omega))
        have EC6 := Lib.hid (EC5.out.step hT (by have q0 := M0.out; have q1 := M1.out; have q2 := M2.out; have q3 := M3.out; have q4 := M4.out; have q5 := JVA.out; have q6 := M5.out; have q7 := LVA.out; have q8 := JVB.out; have q9 := M6.out; have q10 := LVB.out; omega))
        have VA6 := Lib.hid (VA5.out.step hT (by have q0 := M0.out; have q1 := M1.out; have q2 := M2.out; have q3 := M3.out; have q4 := M4.out; have q5 := JVA.out; have q6 := M5.out; have q7 := LVA.out; have q8 := JVB.out; have q9 := M6.out; have q10 := LVB.out; omega))
        have VB6 := Lib.hid (held_copyFi ho hv)
        clear hj hv ho hT B5 X5 R5 EB5 EC5 VA5
        clear hHeld
        refine hK.out _ _ ?_ (fun hHeld => ?_)
        · exact X6.out.now.treDk
        clear hK K
        refine wpAnyH_ready (rs := [11]) (by kernel_rfl) (by simp) ?_
        try simp only [Act.put, List.setIfInBounds_toArray, List.set_cons_zero, List.set_cons_succ, List.getElem_toArray, List.getElem_cons_zero, List.getElem_cons_succ]
        refine (AllReadyH.cons rfl (fun K hK => ?_) AllReadyH.nil)
        rw [if_pos (by rfl)]
        refine upon_copyOp _ _ (by rfl) (V3.heap.size) (by rfl) EC6.out.now a2 n2 c2 o (by rfl) (H.out.2.2.next B6.out) hn2 ?_
        intro vVC V7 jVC hj hv ho hT
        have JVC := Lib.hid hj
        have M7 : Hid (V6.heap.size ≤ V7.heap.size) := Lib.hid hT.size
        have LVC : Hid (jVC < V7.heap.size) := Lib.hid (World.ownsRow.lt ho jVC hv).2
        obtain ⟨pVC, rVC, rfl⟩ := op_form ho
        have B7 := Lib.hid (B6.out.trans (hT.below B6.out.size (by have q0 := M0.out; have q1 := M1.out; have q2 := M2.out; have q3 := M3.out; have q4 := M4.out; have q5 := JVA.out; have q6 := M5.out; have q7 := LVA.out; have q8 := JVB.out; have q9 := M6.out; have q10 := LVB.out; have q11 := JVC.out; have q12 := M7.out; have q13 := LVC.out; omega)))
        have X7 := Lib.hid (X6.out.step hT (by have q0 := M0.out; have q1 := M1.out; have q2 := M2.out; have q3 := M3.out; have q4 := M4.out; have q5 := JVA.out; have q6 := M5.out; have q7 := LVA.out; have q8 := JVB.out; have q9 := M6.out; have q10 := LVB.out; have q11 := JVC.out; have q12 := M7.out; have q13 := LVC.out; omega))
        have R7 := Lib.hid (R6.out.step hT (by have q0 := M0.out; have q1 := M1.out; have q2 := M2.out; have q3 := M3.out; have q4 := M4.out; have q5 := JVA.out; have q6 := M5.out; have q7 := LVA.out; have q8 := JVB.out; have q9 := M6.out; have q10 := LVB.out; have q11 := JVC.out; have q12 := M7.out; have q13 := LVC.out; omega))
        have VA7 := Lib.hid (VA6.out.step hT (by have q0 := M0.out; have q1 := M1.out; have q2 := M2.out; have q3 := M3.out; have q4 := M4.out; have q5 := JVA.out; have q6 := M5.out; have q7 := LVA.out; have q8 := JVB.out; have q9 := M6.out; have q10 := LVB.out; have q11 := JVC.out; have q12 := M7.out; have q13 := LVC.out; omega))
        have VB7 := Lib.hid (VB6.out.step hT (by have q0 := M0.out; have q1 := M1.out; have q2 := M2.out; have q3 := M3.out; have q4 := M4.out; have q5 := JVA.out; have q6 := M5.out; have q7 := LVA.out; have q8 := JVB.out; have q9 := M6.out; have q10 := LVB.out; have q11 := JVC.out; have q12 := M7.out; have q13 := LVC.out; omega))
        have VC7 := Lib.hid (held_copyOp ho hv)
        clear hj hv ho hT B6 X6 R6 EC6 VA6 VB6
        clear hHeld
        refine hK.out _ _ ?_ (fun hHeld => ?_)
        · exact X7.out.now.treDk
        clear hK K
        refine wpAnyH_take (i := 12) (v := ?_) rfl (by kernel_rfl) (by kernel_rfl) (by kernel_rfl) (fun _ _ _ h => h) (Or.inl ⟨by kernel_rfl, ?_⟩) (by assumption) ?_
        rotate_left
        · intro w hSw; (try dsimp only at hSw); go_simp; try with_reducible rfl
        refine wpAnyH_ready (rs := [13]) (by kernel_rfl) (by simp) ?_
        try simp only [Act.put, List.setIfInBounds_toArray, List.set_cons_zero, List.set_cons_succ, List.getElem_toArray, List.getElem_cons_zero, List.getElem_cons_succ]
        refine AllReadyH.cons rfl (fun K hK => ?_) AllReadyH.nil
        obtain ⟨y0, y1, y2⟩ := R7.out.now.treDk
        have f0 := R7.out.now.free 0
        have f1 := R7.out.now.free 1
        have f2 := R7.out.now.free 2
        have TT := turn_s3 V7 (w.heap.size + 1) (.slice pVA l.length rVA) (.slice pVB s.length rVB) (.slice pVC o.length rVC)
        have XX := X7.out.step TT (.inl (Nat.le_refl _))
        have hsz := size_s3 V7 (w.heap.size + 1) (.slice pVA l.length rVA) (.slice pVB s.length rVB) (.slice pVC o.length rVC)
        have BF := B7.out.trans (TT.below B7.out.size (Nat.le_succ _))
        have FVA := VA7.out.step TT (by have q0 := M0.out; have q1 := M1.out; have q2 := M2.out; have q3 := M3.out; have q4 := M4.out; have q5 := JVA.out; have q6 := M5.out; have q7 := LVA.out; have q8 := JVB.out; have q9 := M6.out; have q10 := LVB.out; have q11 := JVC.out; have q12 := M7.out; have q13 := LVC.out; omega)
        have FVB := VB7.out.step TT (by have q0 := M0.out; have q1 := M1.out; have q2 := M2.out; have q3 := M3.out; have q4 := M4.out; have q5 := JVA.out; have q6 := M5.out; have q7 := LVA.out; have q8 := JVB.out; have q9 := M6.out; have q10 := LVB.out; have q11 := JVC.out; have q12 := M7.out; have q13 := LVC.out; omega)
        have FVC := VC7.out.step TT (by have q0 := M0.out; have q1 := M1.out; have q2 := M2.out; have q3 := M3.out; have q4 := M4.out; have q5 := JVA.out; have q6 := M5.out; have q7 := LVA.out; have q8 := JVB.out; have q9 := M6.out; have q10 := LVB.out; have q11 := JVC.out; have q12 := M7.out; have q13 := LVC.out; omega)
        have HF : Hid (Holds w.heap.size (((V7.setCell ⟨w.heap.size + 1, 0, none⟩ (.slice pVA l.length rVA)).setCell ⟨w.heap.size + 1, 1, none⟩ (.slice pVB s.length rVB)).setCell ⟨w.heap.size + 1, 2, none⟩ (.slice pVC o.length rVC)).heap.size (((V7.setCell ⟨w.heap.size + 1, 0, none⟩ (.slice pVA l.length rVA)).setCell ⟨w.heap.size + 1, 1, none⟩ (.slice pVB s.length rVB)).setCell ⟨w.heap.size + 1, 2, none⟩ (.slice pVC o.length rVC)) (OwnDk w.heap.size (((V7.setCell ⟨w.heap.size + 1, 0, none⟩ (.slice pVA l.length rVA)).setCell ⟨w.heap.size + 1, 1, none⟩ (.slice pVB s.length rVB)).setCell ⟨w.heap.size + 1, 2, none⟩ (.slice pVC o.length rVC)).heap.size (.slice pVA l.length rVA) (.slice pVB s.length rVB) (.slice pVC o.length rVC) l s o)) := Lib.hid ⟨ownDk_lives, Nat.le_refl _, ⟨ownP_baseFi FVA.now.1 (by have q0 := M0.out; have q1 := M1.out; have q2 := M2.out; have q3 := M3.out; have q4 := M4.out; have q5 := JVA.out; have q6 := M5.out; have q7 := LVA.out; have q8 := JVB.out; have q9 := M6.out; have q10 := LVB.out; have q11 := JVC.out; have q12 := M7.out; have q13 := LVC.out; omega), fun i hi => by have z1 := FVA.now.2 i hi; have z2 := FVA.le; omega⟩, ⟨ownP_baseFi FVB.now.1 (by have q0 := M0.out; have q1 := M1.out; have q2 := M2.out; have q3 := M3.out; have q4 := M4.out; have q5 := JVA.out; have q6 := M5.out; have q7 := LVA.out; have q8 := JVB.out; have q9 := M6.out; have q10 := LVB.out; have q11 := JVC.out; have q12 := M7.out; have q13 := LVC.out; omega), fun i hi => by have z1 := FVB.now.2 i hi; have z2 := FVB.le; omega⟩, ⟨ownOp_base FVC.now.1 (by have q0 := M0.out; have q1 := M1.out; have q2 := M2.out; have q3 := M3.out; have q4 := M4.out; have q5 := JVA.out; have q6 := M5.out; have q7 := LVA.out; have q8 := JVB.out; have q9 := M6.out; have q10 := LVB.out; have q11 := JVC.out; have q12 := M7.out; have q13 := LVC.out; omega), fun i hi => by have z1 := FVC.now.2 i hi; have z2 := FVC.le; omega⟩, fun i h1 h2 => by have z1 := (World.ownsRow.lt FVA.now.1 i h1).1; have z2 := FVA.now.2 i h1; have z3 := (World.ownsRow.lt FVB.now.1 i h2).1; have z4 := FVB.now.2 i h2; have q0 := M0.out; have q1 := M1.out; have q2 := M2.out; have q3 := M3.out; have q4 := M4.out; have q5 := JVA.out; have q6 := M5.out; have q7 := LVA.out; have q8 := JVB.out; have q9 := M6.out; have q10 := LVB.out; have q11 := JVC.out; have q12 := M7.out; have q13 := LVC.out; omega, fun i h1 h2 => by have z1 := (World.ownsRow.lt FVA.now.1 i h1).1; have z2 := FVA.now.2 i h1; have z3 := (World.ownsRow.lt FVC.now.1 i h2).1; have z4 := FVC.now.2 i h2; have q0 := M0.out; have q1 := M1.out; have q2 := M2.out; have q3 := M3.out; have q4 := M4.out; have q5 := JVA.out; have q6 := M5.out; have q7 := LVA.out; have q8 := JVB.out; have q9 := M6.out; have q10 := LVB.out; have q11 := JVC.out; have q12 := M7.out; have q13 := LVC.out; omega, fun i h1 h2 => by have z1 := (World.ownsRow.lt FVB.now.1 i h1).1; have z2 := FVB.now.2 i h1; have z3 := (World.ownsRow.lt FVC.now.1 i h2).1; have z4 := FVC.now.2 i h2; have q0 := M0.out; have q1 := M1.out; have q2 := M2.out; have q3 := M3.out; have q4 := M4.out; have q5 := JVA.out; have q6 := M5.out; have q7 := LVA.out; have q8 := JVB.out; have q9 := M6.out; have q10 := LVB.out; have q11 := JVC.out; have q12 := M7.out; have q13 := LVC.out; omega⟩
        have HBF := Lib.hid BF
        go_simp
        clear hHeld
        refine hK.out _ _ ?_ (fun hHeld => ?_)
        · exact XX.now.treDk
        clear hK K XX TT BF FVA FVB FVC
        refine wpAnyH_done (by kernel_rfl) ?_ _
        try simp only [Act.put, List.setIfInBounds_toArray, List.set_cons_zero, List.set_cons_succ, List.getElem_toArray, List.getElem_cons_zero, List.getElem_cons_succ]
        go_wp2_with fail
        refine bodyPost_ret (v := .agg #[.slice pVA l.length rVA, .slice pVB s.length rVB, .slice pVC o.length rVC]) (by simp [results, Try.results62, go_sem, *]) rfl ⟨_, _, _, _, _, _, rfl, HF.out, HBF.out⟩
    · go_simp
      have B3 := Lib.hid (B2.out.alloc B2.out.size (.cells #[] 36))
      have X3 := Lib.hid (X2.out.alloc (.cells #[] 36))
      have R3 := Lib.hid (R2.out.alloc (.cells #[] 36))
      have EA3 := Lib.hid (EA2.out.alloc (.cells #[] 36))
      have EC3 := Lib.hid (cells_new V2 #[] 36)
      have M3 : Hid (V2.heap.size + 1 ≤ (V2.alloc (.cells #[] 36)).heap.size) := Lib.hid (by simp)
      clear hHeld
      refine hK.out _ _ ?_ (fun hHeld => ?_)
      · exact X3.out.now.treDk
      clear hK K B2 X2 R2 EA2
      generalize V2.alloc (.cells #[] 36) = V3 at B3 M3 X3 R3 EA3 EC3 hHeld ⊢
      refine wpAnyH_ready (rs := [3, 4]) (by kernel_rfl) (by simp) ?_
      try simp only [Act.put, List.setIfInBounds_toArray, List.set_cons_zero, List.set_cons_succ, List.getElem_toArray, List.getElem_cons_zero, List.getElem_cons_succ]
      refine (AllReadyH.cons rfl (fun K hK => ?_) (AllReadyH.cons rfl (fun K hK => ?_) AllReadyH.nil))
      · rw [if_pos (by rfl)]
        refine upon_copyFi _ _ (by rfl) (V1.heap.size) (by rfl) EA3.out.now a0 n0 c0 l (by rfl) (H.out.1.nextFi B3.out) hn0 ?_
        intro vVA V4 jVA hj hv ho hT
        have JVA := Lib.hid hj
        have M4 : Hid (V3.heap.size ≤ V4.heap.size) := Lib.hid hT.size
        have LVA : Hid (jVA < V4.heap.size) := Lib.hid (World.ownsRow.lt ho jVA hv).2
        obtain ⟨pVA, rVA, rfl⟩ := fi_form ho
        have B4 := Lib.hid (B3.out.trans (hT.below B3.out.size (by have q0 := M0.out; have q1 := M1.out; have q2 := M2.out; have q3 := M3.out; have q4 := JVA.out; have q5 := M4.out; have q6 := LVA.out; omega)))
        have X4 := Lib.hid (X3.out.step hT (by have q0 := M0.out; have q1 := M1.out; have q2 := M2.out; have q3 := M3.out; have q4 := JVA.out; have q5 := M4.out; have q6 := LVA.out; omega))
        have R4 := Lib.hid (R3.out.step hT (by have q0 := M0.out; have q1 := M1.out; have q2 := M2.out; have q3 := M3.out; have q4 := JVA.out; have q5 := M4.out; have q6 := LVA.out; omega))
        have EC4 := Lib.hid (EC3.out.step hT (by have q0 := M0.out; have q1 := M1.out; have q2 := M2.out; have q3 := M3.out; have q4 := JVA.out; have q5 := M4.out; have q6 := LVA.out; omega))
        have VA4 := Lib.hid (held_copyFi ho hv)
        clear hj hv ho hT B3 X3 R3 EA3 EC3
        clear hHeld
        refine hK.out _ _ ?_ (fun hHeld => ?_)
        · exact X4.out.now.treDk
        clear hK K
        refine wpAnyH_ready (rs := [4]) (by kernel_rfl) (by simp) ?_
        try simp only [Act.put, List.setIfInBounds_toArray, List.set_cons_zero, List.set_cons_succ, List.getElem_toArray, List.getElem_cons_zero, List.getElem_cons_succ]
        refine (AllReadyH.cons rfl (fun K hK => ?_) AllReadyH.nil)
        go_simp
        have B5 := Lib.hid (B4.out.alloc B4.out.size (.cells #[] 74))
        have X5 := Lib.hid (X4.out.alloc (.cells #[] 74))
        have R5 := Lib.hid (R4.out.alloc (.cells #[] 74))
        have EC5 := Lib.hid (EC4.out.alloc (.cells #[] 74))
        have VA5 := Lib.hid (VA4.out.alloc (.cells #[] 74))
        have EB5 := Lib.hid (cells_new V4 #[] 74)
        have M5 : Hid (V4.heap.size + 1 ≤ (V4.alloc (.cells #[] 74)).heap.size) := Lib.hid (by simp)
        clear hHeld
        refine hK.out _ _ ?_ (fun hHeld => ?_)
        · exact X5.out.now.treDk
        clear hK K B4 X4 R4 EC4 VA4
        generalize V4.alloc (.cells #[] 74) = V5 at B5 M5 X5 R5 EC5 VA5 EB5 hHeld ⊢
        refine wpAnyH_ready (rs := [7]) (by kernel_rfl) (by simp) ?_
        try simp only [Act.put, List.setIfInBounds_toArray, List.set_cons_zero, List.set_cons_succ, List.getElem_toArray, List.getElem_cons_zero, List.getElem_cons_succ]
        refine (AllReadyH.cons rfl (fun K hK => ?_) AllReadyH.nil)
        rw [if_pos (by rfl)]
        refine upon_copyFi _ _ (by rfl) (V4.heap.size) (by rfl) EB5.out.now a1 n1 c1 s (by rfl) (H.out.2.1.nextFi B5.out) hn1 ?_
        intro vVB V6 jVB hj hv ho hT
        have JVB := Lib.hid hj
        have M6 : Hid (V5.heap.size ≤ V6.heap.size) := Lib.hid hT.size
        have LVB : Hid (jVB < V6.heap.size) := Lib.hid (World.ownsRow.lt ho jVB hv).2
        obtain ⟨pVB, rVB, rfl⟩ := fi_form ho
        have B6 := Lib.hid (B5.out.trans (hT.below B5.out.size (by have q0 := M0.out; have q1 := M1.out; have q2 := M2.out; have q3 := M3.out; have q4 := JVA.out; have q5 := M4.out; have q6 := LVA.out; have q7 := M5.out; have q8 := JVB.out; have q9 := M6.out; have q10 := LVB.out; omega)))
        have X6 := Lib.hid (X5.out.step hT (by have q0 := M0.out; have q1 := M1.out; have q2 := M2.out; have q3 := M3.out; have q4 := JVA.out; have q5 := M4.out; have q6 := LVA.out; have q7 := M5.out; have q8 := JVB.out; have q9 := M6.out; have q10 := LVB.out; omega))
        have R6 := Lib.hid (R5.out.step hT (by have q0 := M0.out; have q1 := M1.out; have q2 := M2.out; have q3 := M3.out; have q4 := JVA.out; have q5 := M4.out; have q6 := LVA.out; have q7 := M5.out; have q8 := JVB.out; have q9 := M6.out; have q10 := LVB.out; omega))
        have EC6 := Lib.hid (EC5.out.step hT (by have q0 := M0.out; have q1 := M1.out; have q2 := M2.out; have q3 := M3.out; have q4 := JVA.out; have q5 := M4.out; have q6 := LVA.out; have q7 := M5.out; have q8 := JVB.out; have q9 := M6.out; have q10 := LVB.out; omega))
        have VA6 := Lib.hid (VA5.out.step hT (by have q0 := M0.out; have q1 := M1.out; have q2 := M2.out; have q3 := M3.out; have q4 := JVA.out; have q5 := M4.out; have q6 := LVA.out; have q7 := M5.out; have q8 := JVB.out; have q9 := M6.out; have q10 := LVB.out; omega))
        have VB6 := Lib.hid (held_copyFi ho hv)
        clear hj hv ho hT B5 X5 R5 EC5 VA5 EB5
        clear hHeld
        refine hK.out _ _ ?_ (fun hHeld => ?_)
        · exact X6.out.now.treDk
        clear hK K
        refine wpAnyH_ready (rs := [11]) (by kernel_rfl) (by simp) ?_
        try simp only [Act.put, List.setIfInBounds_toArray, List.set_cons_zero, List.set_cons_succ, List.getElem_toArray, List.getElem_cons_zero, List.getElem_cons_succ]
        refine (AllReadyH.cons rfl (fun K hK => ?_) AllReadyH.nil)
        rw [if_pos (by rfl)]
        refine upon_copyOp _ _ (by rfl) (V2.heap.size) (by rfl) EC6.out.now a2 n2 c2 o (by rfl) (H.out.2.2.next B6.out) hn2 ?_
        intro vVC V7 jVC hj hv ho hT
        have JVC := Lib.hid hj
        have M7 : Hid (V6.heap.size ≤ V7.heap.size) := Lib.hid hT.size
        have LVC : Hid (jVC < V7.heap.size) := Lib.hid (World.ownsRow.lt ho jVC hv).2
        obtain ⟨pVC, rVC, rfl⟩ := op_form ho
        have B7 := Lib.hid (B6.out.trans (hT.below B6.out.size (by have q0 := M0.out; have q1 := M1.out; have q2 := M2.out; have q3 := M3.out; have q4 := JVA.out; have q5 := M4.out; have q6 := LVA.out; have q7 := M5.out; have q8 := JVB.out; have q9 := M6.out; have q10 := LVB.out; have q11 := JVC.out; have q12 := M7.out; have q13 := LVC.out; omega)))
        have X7 := Lib.hid (X6.out.step hT (by have q0 := M0.out; have q1 := M1.out; have q2 := M2.out; have q3 := M3.out; have q4 := JVA.out; have q5 := M4.out; have q6 := LVA.out; have q7 := M5.out; have q8 := JVB.out; have q9 := M6.out; have q10 := LVB.out; have q11 := JVC.out; have q12 := M7.out; have q13 := LVC.out; omega))
        have R7 := Lib.hid (R6.out.step hT (by have q0 := M0.out; have q1 := M1.out; have q2 := M2.out; have q3 := M3.out; have q4 := JVA.out; have q5 := M4.out; have q6 := LVA.out; have q7 := M5.out; have q8 := JVB.out; have q9 := M6.out; have q10 := LVB.out; have q11 := JVC.out; have q12 := M7.out; have q13 := LVC.out; omega))
        have VA7 := Lib.hid (VA6.out.step hT (by have q0 := M0.out; have q1 := M1.out; have q2 := M2.out; have q3 := M3.out; have q4 := JVA.out; have q5 := M4.out; have q6 := LVA.out; have q7 := M5.out; have q8 := JVB.out; have q9 := M6.out; have q10 := LVB.out; have q11 := JVC.out; have q12 := M7.out; have q13 := LVC.out; omega))
        have VB7 := Lib.hid (VB6.out.step hT (by have q0 := M0.out; have q1 := M1.out; have q2 := M2.out; have q3 := M3.out; have q4 := JVA.out; have q5 := M4.out; have q6 := LVA.out; have q7 := M5.out; have q8 := JVB.out; have q9 := M6.out; have q10 := LVB.out; have q11 := JVC.out; have q12 := M7.out; have q13 := LVC.out; omega))
        have VC7 := Lib.hid (held_copyOp ho hv)
        clear hj hv ho hT B6 X6 R6 EC6 VA6 VB6
        clear hHeld
        refine hK.out _ _ ?_ (fun hHeld => ?_)
        · exact X7.out.now.treDk
        clear hK K
        refine wpAnyH_take (i := 12) (v := ?_) rfl (by kernel_rfl) (by kernel_rfl) (by kernel_rfl) (fun _ _ _ h => h) (Or.inl ⟨by kernel_rfl, ?_⟩) (by assumption) ?_
        rotate_left
        · intro w hSw; (try dsimp only at hSw); go_simp; try with_reducible rfl
        refine wpAnyH_ready (rs := [13]) (by kernel_rfl) (by simp) ?_
        try simp only [Act.put, List.setIfInBounds_toArray, List.set_cons_zero, List.set_cons_succ, List.getElem_toArray, List.getElem_cons_zero, List.getElem_cons_succ]
        refine AllReadyH.cons rfl (fun K hK => ?_) AllReadyH.nil
        obtain ⟨y0, y1, y2⟩ := R7.out.now.treDk
        have f0 := R7.out.now.free 0
        have f1 := R7.out.now.free 1
        have f2 := R7.out.now.free 2
        have TT := turn_s3 V7 (w.heap.size + 1) (.slice pVA l.length rVA) (.slice pVB s.length rVB) (.slice pVC o.length rVC)
        have XX := X7.out.step TT (.inl (Nat.le_refl _))
        have hsz := size_s3 V7 (w.heap.size + 1) (.slice pVA l.length rVA) (.slice pVB s.length rVB) (.slice pVC o.length rVC)
        have BF := B7.out.trans (TT.below B7.out.size (Nat.le_succ _))
        have FVA := VA7.out.step TT (by have q0 := M0.out; have q1 := M1.out; have q2 := M2.out; have q3 := M3.out; have q4 := JVA.out; have q5 := M4.out; have q6 := LVA.out; have q7 := M5.out; have q8 := JVB.out; have q9 := M6.out; have q10 := LVB.out; have q11 := JVC.out; have q12 := M7.out; have q13 := LVC.out; omega)
        have FVB := VB7.out.step TT (by have q0 := M0.out; have q1 := M1.out; have q2 := M2.out; have q3 := M3.out; have q4 := JVA.out; have q5 := M4.out; have q6 := LVA.out; have q7 := M5.out; have q8 := JVB.out; have q9 := M6.out; have q10 := LVB.out; have q11 := JVC.out; have q12 := M7.out; have q13 := LVC.out; omega)
        have FVC := VC7.out.step TT (by have q0 := M0.out; have q1 := M1.out; have q2 := M2.out; have q3 := M3.out; have q4 := JVA.out; have q5 := M4.out; have q6 := LVA.out; have q7 := M5.out; have q8 := JVB.out; have q9 := M6.out; have q10 := LVB.out; have q11 := JVC.out; have q12 := M7.out; have q13 := LVC.out; omega)
        have HF : Hid (Holds w.heap.size (((V7.setCell ⟨w.heap.size + 1, 0, none⟩ (.slice pVA l.length rVA)).setCell ⟨w.heap.size + 1, 1, none⟩ (.slice pVB s.length rVB)).setCell ⟨w.heap.size + 1, 2, none⟩ (.slice pVC o.length rVC)).heap.size (((V7.setCell ⟨w.heap.size + 1, 0, none⟩ (.slice pVA l.length rVA)).setCell ⟨w.heap.size + 1, 1, none⟩ (.slice pVB s.length rVB)).setCell ⟨w.heap.size + 1, 2, none⟩ (.slice pVC o.length rVC)) (OwnDk w.heap.size (((V7.setCell ⟨w.heap.size + 1, 0, none⟩ (.slice pVA l.length rVA)).setCell ⟨w.heap.size + 1, 1, none⟩ (.slice pVB s.length rVB)).setCell ⟨w.heap.size + 1, 2, none⟩ (.slice pVC o.length rVC)).heap.size (.slice pVA l.length rVA) (.slice pVB s.length rVB) (.slice pVC o.length rVC) l s o)) := Lib.hid ⟨ownDk_lives, Nat.le_refl _, ⟨ownP_baseFi FVA.now.1 (by have q0 := M0.out; have q1 := M1.out; have q2 := M2.out; have q3 := M3.out; have q4 := JVA.out; have q5 := M4.out; have q6 := LVA.out; have q7 := M5.out; have q8 := JVB.out; have q9 := M6.out; have q10 := LVB.out; have q11 := JVC.out; have q12 := M7.out; have q13 := LVC.out; omega), fun i hi => by have z1 := FVA.now.2 i hi; have z2 := FVA.le; omega⟩, ⟨ownP_baseFi FVB.now.1 (by have q0 := M0.out; have q1 := M1.out; have q2 := M2.out; have q3 := M3.out; have q4 := JVA.out; have q5 := M4.out; have q6 := LVA.out; have q7 := M5.out; have q8 := JVB.out; have q9 := M6.out; have q10 := LVB.out; have q11 := JVC.out; have q12 := M7.out; have q13 := LVC.out; omega), fun i hi => by have z1 := FVB.now.2 i hi; have z2 := FVB.le; omega⟩, ⟨ownOp_base FVC.now.1 (by have q0 := M0.out; have q1 := M1.out; have q2 := M2.out; have q3 := M3.out; have q4 := JVA.out; have q5 := M4.out; have q6 := LVA.out; have q7 := M5.out; have q8 := JVB.out; have q9 := M6.out; have q10 := LVB.out; have q11 := JVC.out; have q12 := M7.out; have q13 := LVC.out; omega), fun i hi => by have z1 := FVC.now.2 i hi; have z2 := FVC.le; omega⟩, fun i h1 h2 => by have z1 := (World.ownsRow.lt FVA.now.1 i h1).1; have z2 := FVA.now.2 i h1; have z3 := (World.ownsRow.lt FVB.now.1 i h2).1; have z4 := FVB.now.2 i h2; have q0 := M0.out; have q1 := M1.out; have q2 := M2.out; have q3 := M3.out; have q4 := JVA.out; have q5 := M4.out; have q6 := LVA.out; have q7 := M5.out; have q8 := JVB.out; have q9 := M6.out; have q10 := LVB.out; have q11 := JVC.out; have q12 := M7.out; have q13 := LVC.out; omega, fun i h1 h2 => by have z1 := (World.ownsRow.lt FVA.now.1 i h1).1; have z2 := FVA.now.2 i h1; have z3 := (World.ownsRow.lt FVC.now.1 i h2).1; have z4 := FVC.now.2 i h2; have q0 := M0.out; have q1 := M1.out; have q2 := M2.out; have q3 := M3.out; have q4 := JVA.out; have q5 := M4.out; have q6 := LVA.out; have q7 := M5.out; have q8 := JVB.out; have q9 := M6.out; have q10 := LVB.out; have q11 := JVC.out; have q12 := M7.out; have q13 := LVC.out; omega, fun i h1 h2 => by have z1 := (World.ownsRow.lt FVB.now.1 i h1).1; have z2 := FVB.now.2 i h1; have z3 := (World.ownsRow.lt FVC.now.1 i h2).1; have z4 := FVC.now.2 i h2; have q0 := M0.out; have q1 := M1.out; have q2 := M2.out; have q3 := M3.out; have q4 := JVA.out; have q5 := M4.out; have q6 := LVA.out; have q7 := M5.out; have q8 := JVB.out; have q9 := M6.out; have q10 := LVB.out; have q11 := JVC.out; have q12 := M7.out; have q13 := LVC.out; omega⟩
        have HBF := Lib.hid BF
        go_simp
        clear hHeld
        refine hK.out _ _ ?_ (fun hHeld => ?_)
        · exact XX.now.treDk
        clear hK K XX TT BF FVA FVB FVC
        refine wpAnyH_done (by kernel_rfl) ?_ _
        try simp only [Act.put, List.setIfInBounds_toArray, List.set_cons_zero, List.set_cons_succ, List.getElem_toArray, List.getElem_cons_zero, List.getElem_cons_succ]
        go_wp2_with fail
        refine bodyPost_ret (v := .agg #[.slice pVA l.length rVA, .slice pVB s.length rVB, .slice pVC o.length rVC]) (by simp [results, Try.results62, go_sem, *]) rfl ⟨_, _, _, _, _, _, rfl, HF.out, HBF.out⟩
      · go_simp
        have B4 := Lib.hid (B3.out.alloc B3.out.size (.cells #[] 74))
        have X4 := Lib.hid (X3.out.alloc (.cells #[] 74))
        have R4 := Lib.hid (R3.out.alloc (.cells #[] 74))
        have EA4 := Lib.hid (EA3.out.alloc (.cells #[] 74))
        have EC4 := Lib.hid (EC3.out.alloc (.cells #[] 74))
        have EB4 := Lib.hid (cells_new V3 #[] 74)
        have M4 : Hid (V3.heap.size + 1 ≤ (V3.alloc (.cells #[] 74)).heap.size) := Lib.hid (by simp)
        clear hHeld
        refine hK.out _ _ ?_ (fun hHeld => ?_)
        · exact X4.out.now.treDk
        clear hK K B3 X3 R3 EA3 EC3
        generalize V3.alloc (.cells #[] 74) = V4 at B4 M4 X4 R4 EA4 EC4 EB4 hHeld ⊢
        refine wpAnyH_ready (rs := [3]) (by kernel_rfl) (by simp) ?_
        try simp only [Act.put, List.setIfInBounds_toArray, List.set_cons_zero, List.set_cons_succ, List.getElem_toArray, List.getElem_cons_zero, List.getElem_cons_succ]
        refine (AllReadyH.cons rfl (fun K hK => ?_) AllReadyH.nil)
        rw [if_pos (by rfl)]
        refine upon_copyFi _ _ (by rfl) (V1.heap.size) (by rfl) EA4.out.now a0 n0 c0 l (by rfl) (H.out.1.nextFi B4.out) hn0 ?_
        intro vVA V5 jVA hj hv ho hT
        have JVA := Lib.hid hj
        have M5 : Hid (V4.heap.size ≤ V5.heap.size) := Lib.hid hT.size
        have LVA : Hid (jVA < V5.heap.size) := Lib.hid (World.ownsRow.lt ho jVA hv).2
        obtain ⟨pVA, rVA, rfl⟩ := fi_form ho
        have B5 := Lib.hid (B4.out.trans (hT.below B4.out.size (by have q0 := M0.out; have q1 := M1.out; have q2 := M2.out; have q3 := M3.out; have q4 := M4.out; have q5 := JVA.out; have q6 := M5.out; have q7 := LVA.out; omega)))
        have X5 := Lib.hid (X4.out.step hT (by have q0 := M0.out; have q1 := M1.out; have q2 := M2.out; have q3 := M3.out; have q4 := M4.out; have q5 := JVA.out; have q6 := M5.out; have q7 := LVA.out; omega))
        have R5 := Lib.hid (R4.out.step hT (by have q0 := M0.out; have q1 := M1.out; have q2 := M2.out; have q3 := M3.out; have q4 := M4.out; have q5 := JVA.out; have q6 := M5.out; have q7 := LVA.out; omega))
        have EC5 := Lib.hid (EC4.out.step hT (by have q0 := M0.out; have q1 := M1.out; have q2 := M2.out; have q3 := M3.out; have q4 := M4.out; have q5 := JVA.out; have q6 := M5.out; have q7 := LVA.out; omega))
        have EB5 := Lib.hid (EB4.out.step hT (by have q0 := M0.out; have q1 := M1.out; have q2 := M2.out; have q3 := M3.out; have q4 := M4.out; have q5 := JVA.out; have q6 := M5.out; have q7 := LVA.out; omega))
        have VA5 := Lib.hid (held_copyFi ho hv)
        clear hj hv ho hT B4 X4 R4 EA4 EC4 EB4
        clear hHeld
        refine hK.out _ _ ?_ (fun hHeld => ?_)
        · exact X5.out.now.treDk
        clear hK K
        refine wpAnyH_ready (rs := [7]) (by kernel_rfl) (by simp) ?_
        try simp only [Act.put, List.setIfInBounds_toArray, List.set_cons_zero, List.set_cons_succ, List.getElem_toArray, List.getElem_cons_zero, List.getElem_cons_succ]
        refine (AllReadyH.cons rfl (fun K hK => ?_) AllReadyH.nil)
        rw [if_pos (by rfl)]
        refine upon_copyFi _ _ (by rfl) (V3.heap.size) (by rfl) EB5.out.now a1 n1 c1 s (by rfl) (H.out.2.1.nextFi B5.out) hn1 ?_
        intro vVB V6 jVB hj hv ho hT
        have JVB := Lib.hid hj
        have M6 : Hid (V5.heap.size ≤ V6.heap.size) := Lib.hid hT.size
        have LVB : Hid (jVB < V6.heap.size) := Lib.hid (World.ownsRow.lt ho jVB hv).2
        obtain ⟨pVB, rVB, rfl⟩ := fi_form ho
        have B6 := Lib.hid (B5.out.trans (hT.below B5.out.size (by have q0 := M0.out; have q1 := M1.out; have q2 := M2.out; have q3 := M3.out; have q4 := M4.out; have q5 := JVA.out; have q6 := M5.out; have q7 := LVA.out; have q8 := JVB.out; have q9 := M6.out; have q10 := LVB.out; omega)))
        have X6 := Lib.hid (X5.out.step hT (by have q0 := M0.out; have q1 := M1.out; have q2 := M2.out; have q3 := M3.out; have q4 := M4.out; have q5 := JVA.out; have q6 := M5.out; have q7 := LVA.out; have q8 := JVB.out; have q9 := M6.out; have q10 := LVB.out; omega))
        have R6 := Lib.hid (R5.out.step hT (by have q0 := M0.out; have q1 := M1.out; have q2 := M2.out; have q3 := M3.out; have q4 := M4.out; have q5 := JVA.out; have q6 := M5.out; have q7 := LVA.out; have q8 := JVB.out; have q9 := M6.out; have q10 := LVB.out; omega))
        have EC6 := Lib.hid (EC5.out.step hT (by have q0 := M0.out; have q1 := M1.out; have q2 := M2.out; have q3 := M3.out; have q4 := M4.out; have q5 := JVA.out; have q6 := M5.out; have q7 := LVA.out; have q8 := JVB.out; have q9 := M6.out; have q10 := LVB.out; omega))
        have VA6 := Lib.hid (VA5.out.step hT (by have q0 := M0.out; have q1 := M1.out; have q2 := M2.out; have q3 := M3.out; have q4 := M4.out; have q5 := JVA.out; have q6 := M5.out; have q7 := LVA.out; have q8 := JVB.out; have q9 := M6.out; have q10 := LVB.out; omega))
        have VB6 := Lib.hid (held_copyFi ho hv)
        clear hj hv ho hT B5 X5 R5 EC5 EB5 VA5
        clear hHeld
        refine hK.out _ _ ?_ (fun hHeld => ?_)
        · exact X6.out.now.treDk
        clear hK K
        refine wpAnyH_ready (rs := [11]) (by kernel_rfl) (by simp) ?_
        try simp only [Act.put, List.setIfInBounds_toArray, List.set_cons_zero, List.set_cons_succ, List.getElem_toArray, List.getElem_cons_zero, List.getElem_cons_succ]
        refine (AllReadyH.cons rfl (fun K hK => ?_) AllReadyH.nil)
        rw [if_pos (by rfl)]
        refine upon_copyOp _ _ (by rfl) (V2.heap.size) (by rfl) EC6.out.now a2 n2 c2 o (by rfl) (H.out.2.2.next B6.out) hn2 ?_
        intro vVC V7 jVC hj hv ho hT
        have JVC := Lib.hid hj
        have M7 : Hid (V6.heap.size ≤ V7.heap.size) := Lib.hid hT.size
        have LVC : Hid (jVC < V7.heap.size) := Lib.hid (World.ownsRow.lt ho jVC hv).2
        obtain ⟨pVC, rVC, rfl⟩ := op_form ho
        have B7 := Lib.hid (B6.out.trans (hT.below B6.out.size (by have q0 := M0.out; have q1 := M1.out; have q2 := M2.out; have q3 := M3.out; have q4 := M4.out; have q5 := JVA.out; have q6 := M5.out; have q7 := LVA.out; have q8 := JVB.out; have q9 := M6.out; have q10 := LVB.out; have q11 := JVC.out; have q12 := M7.out; have q13 := LVC.out; omega)))
        have X7 := Lib.hid (X6.out.step hT (by have q0 := M0.out; have q1 := M1.out; have q2 := M2.out; have q3 := M3.out; have q4 := M4.out; have q5 := JVA.out; have q6 := M5.out; have q7 := LVA.out; have q8 := JVB.out; have q9 := M6.out; have q10 := LVB.out; have q11 := JVC.out; have q12 := M7.out; have q13 := LVC.out; omega))
        have R7 := Lib.hid (R6.out.step hT (by have q0 := M0.out; have q1 := M1.out; have q2 := M2.out; have q3 := M3.out; have q4 := M4.out; have q5 := JVA.out; have q6 := M5.out; have q7 := LVA.out; have q8 := JVB.out; have q9 := M6.out; have q10 := LVB.out; have q11 := JVC.out; have q12 := M7.out; have q13 := LVC.out; omega))
        have VA7 := Lib.hid (VA6.out.step hT (by have q0 := M0.out; have q1 := M1.out; have q2 := M2.out; have q3 := M3.out; have q4 := M4.out; have q5 := JVA.out; have q6 := M5.out; have q7 := LVA.out; have q8 := JVB.out; have q9 := M6.out; have q10 := LVB.out; have q11 := JVC.out; have q12 := M7.out; have q13 := LVC.out; omega))
        have VB7 := Lib.hid (VB6.out.step hT (by have q0 := M0.out; have q1 := M1.out; have q2 := M2.out; have q3 := M3.out; have q4 := M4.out; have q5 := JVA.out; have q6 := M5.out; have q7 := LVA.out; have q8 := JVB.out; have q9 := M6.out; have q10 := LVB.out; have q11 := JVC.out; have q12 := M7.out; have q13 := LVC.out; omega))
        have VC7 := Lib.hid (held_copyOp ho hv)
        clear hj hv ho hT B6 X6 R6 EC6 VA6 VB6
        clear hHeld
        refine hK.out _ _ ?_ (fun hHeld => ?_)
        · exact X7.out.now.treDk
        clear hK K
        refine wpAnyH_take (i := 12) (v := ?_) rfl (by kernel_rfl) (by kernel_rfl) (by kernel_rfl) (fun _ _ _ h => h) (Or.inl ⟨by kernel_rfl, ?_⟩) (by assumption) ?_
        rotate_left
        · intro w hSw; (try dsimp only at hSw); go_simp; try with_reducible rfl
        refine wpAnyH_ready (rs := [13]) (by kernel_rfl) (by simp) ?_
        try simp only [Act.put, List.setIfInBounds_toArray, List.set_cons_zero, List.set_cons_succ, List.getElem_toArray, List.getElem_cons_zero, List.getElem_cons_succ]
        refine AllReadyH.cons rfl (fun K hK => ?_) AllReadyH.nil
        obtain ⟨y0, y1, y2⟩ := R7.out.now.treDk
        have f0 := R7.out.now.free 0
        have f1 := R7.out.now.free 1
        have f2 := R7.out.now.free 2
        have TT := turn_s3 V7 (w.heap.size + 1) (.slice pVA l.length rVA) (.slice pVB s.length rVB) (.slice pVC o.length rVC)
        have XX := X7.out.step TT (.inl (Nat.le_refl _))
        have hsz := size_s3 V7 (w.heap.size + 1) (.slice pVA l.length rVA) (.slice pVB s.length rVB) (.slice pVC o.length rVC)
        have BF := B7.out.trans (TT.below B7.out.size (Nat.le_succ _))
        have FVA := VA7.out.step TT (by have q0 := M0.out; have q1 := M1.out; have q2 := M2.out; have q3 := M3.out; have q4 := M4.out; have q5 := JVA.out; have q6 := M5.out; have q7 := LVA.out; have q8 := JVB.out; have q9 := M6.out; have q10 := LVB.out; have q11 := JVC.out; have q12 := M7.out; have q13 := LVC.out; omega)
        have FVB := VB7.out.step TT (by have q0 := M0.out; have q1 := M1.out; have q2 := M2.out; have q3 := M3.out; have q4 := M4.out; have q5 := JVA.out; have q6 := M5.out; have q7 := LVA.out; have q8 := JVB.out; have q9 := M6.out; have q10 := LVB.out; have q11 := JVC.out; have q12 := M7.out; have q13 := LVC.out; omega)
        have FVC := VC7.out.step TT (by have q0 := M0.out; have q1 := M1.out; have q2 := M2.out; have q3 := M3.out; have q4 := M4.out; have q5 := JVA.out; have q6 := M5.out; have q7 := LVA.out; have q8 := JVB.out; have q9 := M6.out; have q10 := LVB.out; have q11 := JVC.out; have q12 := M7.out; have q13 := LVC.out; omega)
        have HF : Hid (Holds w.heap.size (((V7.setCell ⟨w.heap.size + 1, 0, none⟩ (.slice pVA l.length rVA)).setCell ⟨w.heap.size + 1, 1, none⟩ (.slice pVB s.length rVB)).setCell ⟨w.heap.size + 1, 2, none⟩ (.slice pVC o.length rVC)).heap.size (((V7.setCell ⟨w.heap.size + 1, 0, none⟩ (.slice pVA l.length rVA)).setCell ⟨w.heap.size + 1, 1, none⟩ (.slice pVB s.length rVB)).setCell ⟨w.heap.size + 1, 2, none⟩ (.slice pVC o.length rVC)) (OwnDk w.heap.size (((V7.setCell ⟨w.heap.size + 1, 0, none⟩ (.slice pVA l.length rVA)).setCell ⟨w.heap.size + 1, 1, none⟩ (.slice pVB s.length rVB)).setCell ⟨w.heap.size + 1, 2, none⟩ (.slice pVC o.length rVC)).heap.size (.slice pVA l.length rVA) (.slice pVB s.length rVB) (.slice pVC o.length rVC) l s o)) := Lib.hid ⟨ownDk_lives, Nat.le_refl _, ⟨ownP_baseFi FVA.now.1 (by have q0 := M0.out; have q1 := M1.out; have q2 := M2.out; have q3 := M3.out; have q4 := M4.out; have q5 := JVA.out; have q6 := M5.out; have q7 := LVA.out; have q8 := JVB.out; have q9 := M6.out; have q10 := LVB.out; have q11 := JVC.out; have q12 := M7.out; have q13 := LVC.out; omega), fun i hi => by have z1 := FVA.now.2 i hi; have z2 := FVA.le; omega⟩, ⟨ownP_baseFi FVB.now.1 (by have q0 := M0.out; have q1 := M1.out; have q2 := M2.out; have q3 := M3.out; have q4 := M4.out; have q5 := JVA.out; have q6 := M5.out; have q7 := LVA.out; have q8 := JVB.out; have q9 := M6.out; have q10 := LVB.out; have q11 := JVC.out; have q12 := M7.out; have q13 := LVC.out; omega), fun i hi => by have z1 := FVB.now.2 i hi; have z2 := FVB.le; omega⟩, ⟨ownOp_base FVC.now.1 (by have q0 := M0.out; have q1 := M1.out; have q2 := M2.out; have q3 := M3.out; have q4 := M4.out; have q5 := JVA.out; have q6 := M5.out; have q7 := LVA.out; have q8 := JVB.out; have q9 := M6.out; have q10 := LVB.out; have q11 := JVC.out; have q12 := M7.out; have q13 := LVC.out; omega), fun i hi => by have z1 := FVC.now.2 i hi; have z2 := FVC.le; omega⟩, fun i h1 h2 => by have z1 := (World.ownsRow.lt FVA.now.1 i h1).1; have z2 := FVA.now.2 i h1; have z3 := (World.ownsRow.lt FVB.now.1 i h2).1; have z4 := FVB.now.2 i h2; have q0 := M0.out; have q1 := M1.out; have q2 := M2.out; have q3 := M3.out; have q4 := M4.out; have q5 := JVA.out; have q6 := M5.out; have q7 := LVA.out; have q8 := JVB.out; have q9 := M6.out; have q10 := LVB.out; have q11 := JVC.out; have q12 := M7.out; have q13 := LVC.out; omega, fun i h1 h2 => by have z1 := (World.ownsRow.lt FVA.now.1 i h1).1; have z2 := FVA.now.2 i h1; have z3 := (World.ownsRow.lt FVC.now.1 i h2).1; have z4 := FVC.now.2 i h2; have q0 := M0.out; have q1 := M1.out; have q2 := M2.out; have q3 := M3.out; have q4 := M4.out; have q5 := JVA.out; have q6 := M5.out; have q7 := LVA.out; have q8 := JVB.out; have q9 := M6.out; have q10 := LVB.out; have q11 := JVC.out; have q12 := M7.out; have q13 := LVC.out; omega, fun i h1 h2 => by have z1 := (World.ownsRow.lt FVB.now.1 i h1).1; have z2 := FVB.now.2 i h1; have z3 := (World.ownsRow.lt FVC.now.1 i h2).1; have z4 := FVC.now.2 i h2; have q0 := M0.out; have q1 := M1.out; have q2 := M2.out; have q3 := M3.out; have q4 := M4.out; have q5 := JVA.out; have q6 := M5.out; have q7 := LVA.out; have q8 := JVB.out; have q9 := M6.out; have q10 := LVB.out; have q11 := JVC.out; have q12 := M7.out; have q13 := LVC.out; omega⟩
        have HBF := Lib.hid BF
        go_simp
        clear hHeld
        refine hK.out _ _ ?_ (fun hHeld => ?_)
        · exact XX.now.treDk
        clear hK K XX TT BF FVA FVB FVC
        refine wpAnyH_done (by kernel_rfl) ?_ _
        try simp only [Act.put, List.setIfInBounds_toArray, List.set_cons_zero, List.set_cons_succ, List.getElem_toArray, List.getElem_cons_zero, List.getElem_cons_succ]
        go_wp2_with fail
        refine bodyPost_ret (v := .agg #[.slice pVA l.length rVA, .slice pVB s.length rVB, .slice pVC o.length rVC]) (by simp [results, Try.results62, go_sem, *]) rfl ⟨_, _, _, _, _, _, rfl, HF.out, HBF.out⟩
  · go_simp
    have B2 := Lib.hid (B1.out.alloc B1.out.size (.cells #[] 74))
    have X2 := Lib.hid (X1.out.alloc (.cells #[] 74))
    have R2 := Lib.hid (R1.out.alloc (.cells #[] 74))
    have EB2 := Lib.hid (cells_new V1 #[] 74)
    have M2 : Hid (V1.heap.size + 1 ≤ (V1.alloc (.cells #[] 74)).heap.size) := Lib.hid (by simp)
    clear hHeld
    refine hK.out _ _ ?_ (fun hHeld => ?_)
    · exact X2.out.now.treDk
    clear hK K B1 X1 R1
    generalize V1.alloc (.cells #[] 74) = V2 at B2 M2 X2 R2 EB2 hHeld ⊢
    refine wpAnyH_ready (rs := [0, 8]) (by kernel_rfl) (by simp) ?_
    try simp only [Act.put, List.setIfInBounds_toArray, List.set_cons_zero, List.set_cons_succ, List.getElem_toArray, List.getElem_cons_zero, List.getElem_cons_succ]
    refine (AllReadyH.cons rfl (fun K hK => ?_) (AllReadyH.cons rfl (fun K hK => ?_) AllReadyH.nil))
    · go_simp
      have B3 := Lib.hid (B2.out.alloc B2.out.size (.cells #[] 74))
      have X3 := Lib.hid (X2.out.alloc (.cells #[] 74))
      have R3 := Lib.hid (R2.out.alloc (.cells #[] 74))
      have EB3 := Lib.hid (EB2.out.alloc (.cells #[] 74))
      have EA3 := Lib.hid (cells_new V2 #[] 74)
      have M3 : Hid (V2.heap.size + 1 ≤ (V2.alloc (.cells #[] 74)).heap.size) := Lib.hid (by simp)
      clear hHeld
      refine hK.out _ _ ?_ (fun hHeld => ?_)
      · exact X3.out.now.treDk
      clear hK K B2 X2 R2 EB2
      generalize V2.alloc (.cells #[] 74) = V3 at B3 M3 X3 R3 EB3 EA3 hHeld ⊢
      refine wpAnyH_ready (rs := [3, 8]) (by kernel_rfl) (by simp) ?_
      try simp only [Act.put, List.setIfInBounds_toArray, List.set_cons_zero, List.set_cons_succ, List.getElem_toArray, List.getElem_cons_zero, List.getElem_cons_succ]
      refine (AllReadyH.cons rfl (fun K hK => ?_) (AllReadyH.cons rfl (fun K hK => ?_) AllReadyH.nil))
      · rw [if_pos (by rfl)]
        refine upon_copyFi _ _ (by rfl) (V2.heap.size) (by rfl) EA3.out.now a0 n0 c0 l (by rfl) (H.out.1.nextFi B3.out) hn0 ?_
        intro vVA V4 jVA hj hv ho hT
        have JVA := Lib.hid hj
        have M4 : Hid (V3.heap.size ≤ V4.heap.size) := Lib.hid hT.size
        have LVA : Hid (jVA < V4.heap.size) := Lib.hid (World.ownsRow.lt ho jVA hv).2
        obtain ⟨pVA, rVA, rfl⟩ := fi_form ho
        have B4 := Lib.hid (B3.out.trans (hT.below B3.out.size (by have q0 := M0.out; have q1 := M1.out; have q2 := M2.out; have q3 := M3.out; have q4 := JVA.out; have q5 := M4.out; have q6 := LVA.out; omega)))
        have X4 := Lib.hid (X3.out.step hT (by have q0 := M0.out; have q1 := M1.out; have q2 := M2.out; have q3 := M3.out; have q4 := JVA.out; have q5 := M4.out; have q6 := LVA.out; omega))
        have R4 := Lib.hid (R3.out.step hT (by have q0 := M0.out; have q1 := M1.out; have q2 := M2.out; have q3 := M3.out; have q4 := JVA.out; have q5 := M4.out; have q6 := LVA.out; omega))
        have EB4 := Lib.hid (EB3.out.step hT (by have q0 := M0.out; have q1 := M1.out; have q2 := M2.out; have q3 := M3.out; have q4 := JVA.out; have q5 := M4.out; have q6 := LVA.out; omega))
        have VA4 := Lib.hid (held_copyFi ho hv)
        clear hj hv ho hT B3 X3 R3 EB3 EA3
        clear hHeld
        refine hK.out _ _ ?_ (fun hHeld => ?_)
        · exact X4.out.now.treDk
        clear hK K
        refine wpAnyH_ready (rs := [7, 8]) (by kernel_rfl) (by simp) ?_
        try simp only [Act.put, List.setIfInBounds_toArray, List.set_cons_zero, List.set_cons_succ, List.getElem_toArray, List.getElem_cons_zero, List.getElem_cons_succ]
        refine (AllReadyH.cons rfl (fun K hK => ?_) (AllReadyH.cons rfl (fun K hK => ?_) AllReadyH.nil))
        · rw [if_pos (by rfl)]
          refine upon_copyFi _ _ (by rfl) (V1.heap.size) (by rfl) EB4.out.now a1 n1 c1 s (by rfl) (H.out.2.1.nextFi B4.out) hn1 ?_
          intro vVB V5 jVB hj hv ho hT
          have JVB := Lib.hid hj
          have M5 : Hid (V4.heap.size ≤ V5.heap.size) := Lib.hid hT.size
          have LVB : Hid (jVB < V5.heap.size) := Lib.hid (World.ownsRow.lt ho jVB hv).2
          obtain ⟨pVB, rVB, rfl⟩ := fi_form ho
          have B5 := Lib.hid (B4.out.trans (hT.below B4.out.size (by have q0 := M0.out; have q1 := M1.out; have q2 := M2.out; have q3 := M3.out; have q4 := JVA.out; have q5 := M4.out; have q6 := LVA.out; have q7 := JVB.out; have q8 := M5.out; have q9 := LVB.out; omega)))
          have X5 := Lib.hid (X4.out.step hT (by have q0 := M0.out; have q1 := M1.out; have q2 := M2.out; have q3 := M3.out; have q4 := JVA.out; have q5 := M4.out; have q6 := LVA.out; have q7 := JVB.out; have q8 := M5.out; have q9 := LVB.out; omega))
          have R5 := Lib.hid (R4.out.step hT (by have q0 := M0.out; have q1 := M1.out; have q2 := M2.out; have q3 := M3.out; have q4 := JVA.out; have q5 := M4.out; have q6 := LVA.out; have q7 := JVB.out; have q8 := M5.out; have q9 := LVB.out; omega))
          have VA5 := Lib.hid (VA4.out.step hT (by have q0 := M0.out; have q1 := M1.out; have q2 := M2.out; have q3 := M3.out; have q4 := JVA.out; have q5 := M4.out; have q6 := LVA.out; have q7 := JVB.out; have q8 := M5.out; have q9 := LVB.out; omega))
          have VB5 := Lib.hid (held_copyFi ho hv)
          clear hj hv ho hT B4 X4 R4 EB4 VA4
          clear hHeld
          refine hK.out _ _ ?_ (fun hHeld => ?_)
          · exact X5.out.now.treDk
          clear hK K
          refine wpAnyH_ready (rs := [8]) (by kernel_rfl) (by simp) ?_
          try simp only [Act.put, List.setIfInBounds_toArray, List.set_cons_zero, List.set_cons_succ, List.getElem_toArray, List.getElem_cons_zero, List.getElem_cons_succ]
          refine (AllReadyH.cons rfl (fun K hK => ?_) AllReadyH.nil)
          go_simp
          have B6 := Lib.hid (B5.out.alloc B5.out.size (.cells #[] 36))
          have X6 := Lib.hid (X5.out.alloc (.cells #[] 36))
          have R6 := Lib.hid (R5.out.alloc (.cells #[] 36))
          have VA6 := Lib.hid (VA5.out.alloc (.cells #[] 36))
          have VB6 := Lib.hid (VB5.out.alloc (.cells #[] 36))
          have EC6 := Lib.hid (cells_new V5 #[] 36)
          have M6 : Hid (V5.heap.size + 1 ≤ (V5.alloc (.cells #[] 36)).heap.size) := Lib.hid (by simp)
          clear hHeld
          refine hK.out _ _ ?_ (fun hHeld => ?_)
          · exact X6.out.now.treDk
          clear hK K B5 X5 R5 VA5 VB5
          generalize V5.alloc (.cells #[] 36) = V6 at B6 M6 X6 R6 VA6 VB6 EC6 hHeld ⊢
          refine wpAnyH_ready (rs := [11]) (by kernel_rfl) (by simp) ?_
          try simp only [Act.put, List.setIfInBounds_toArray, List.set_cons_zero, List.set_cons_succ, List.getElem_toArray, List.getElem_cons_zero, List.getElem_cons_succ]
          refine (AllReadyH.cons rfl (fun K hK => ?_) AllReadyH.nil)
          rw [if_pos (by rfl)]
          refine upon_copyOp _ _ (by rfl) (V5.heap.size) (by rfl) EC6.out.now a2 n2 c2 o (by rfl) (H.out.2.2.next B6.out) hn2 ?_
          intro vVC V7 jVC hj hv ho hT
          have JVC := Lib.hid hj
          have M7 : Hid (V6.heap.size ≤ V7.heap.size) := Lib.hid hT.size
          have LVC : Hid (jVC < V7.heap.size) := Lib.hid (World.ownsRow.lt ho jVC hv).2
          obtain ⟨pVC, rVC, rfl⟩ := op_form ho
          have B7 := Lib.hid (B6.out.trans (hT.below B6.out.size (by have q0 := M0.out; have q1 := M1.out; have q2 := M2.out; have q3 := M3.out; have q4 := JVA.out; have q5 := M4.out; have q6 := LVA.out; have q7 := JVB.out; have q8 := M5.out; have q9 := LVB.out; have q10 := M6.out; have q11 := JVC.out; have q12 := M7.out; have q13 := LVC.out; omega)))
          have X7 := Lib.hid (X6.out.step hT (by have q0 := M0.out; have q1 := M1.out; have q2 := M2.out; have q3 := M3.out; have q4 := JVA.out; have q5 := M4.out; have q6 := LVA.out; have q7 := JVB.out; have q8 := M5.out; have q9 := LVB.out; have q10 := M6.out; have q11 := JVC.out; have q12 := M7.out; have q13 := LVC.out; omega))
          have R7 := Lib.hid (R6.out.step hT (by have q0 := M0.out; have q1 := M1.out; have q2 := M2.out; have q3 := M3.out; have q4 := JVA.out; have q5 := M4.out; have q6 := LVA.out; have q7 := JVB.out; have q8 := M5.out; have q9 := LVB.out; have q10 := M6.out; have q11 := JVC.out; have q12 := M7.out; have q13 := LVC.out; omega))
          have VA7 := Lib.hid (VA6.out.step hT (by have q0 := M0.out; have q1 := M1.out; have q2 := M2.out; have q3 := M3.out; have q4 := JVA.out; have q5 := M4.out; have q6 := LVA.out; have q7 := JVB.out; have q8 := M5.out; have q9 := LVB.out; have q10 := M6.out; have q11 := JVC.out; have q12 := M7.out; have q13 := LVC.out; omega))
          have VB7 := Lib.hid (VB6.out.step hT (by have q0 := M0.out; have q1 := M1.out; have q2 := M2.out; have q3 := M3.out; have q4 := JVA.out; have q5 := M4.out; have q6 := LVA.out; have q7 := JVB.out; have q8 := M5.out; have q9 := LVB.out; have q10 := M6.out; have q11 := JVC.out; have q12 := M7.out; have q13 := LVC.out; omega))
          have VC7 := Lib.hid (held_copyOp ho hv)
          clear hj hv ho hT B6 X6 R6 VA6 VB6 EC6
          clear hHeld
          refine hK.out _ _ ?_ (fun hHeld => ?_)
          · exact X7.out.now.treDk
          clear hK K
          refine wpAnyH_take (i := 12) (v := ?_) rfl (by kernel_rfl) (by kernel_rfl) (by kernel_rfl) (fun _ _ _ h => h) (Or.inl ⟨by kernel_rfl, ?_⟩) (by assumption) ?_
          rotate_left
          · intro w hSw; (try dsimp only at hSw); go_simp; try with_reducible rfl
          refine wpAnyH_ready (rs := [13]) (by kernel_rfl) (by simp) ?_
          try simp only [Act.put, List.setIfInBounds_toArray, List.set_cons_zero, List.set_cons_succ, List.getElem_toArray, List.getElem_cons_zero, List.getElem_cons_succ]
          refine AllReadyH.cons rfl (fun K hK => ?_) AllReadyH.nil
          obtain ⟨y0, y1, y2⟩ := R7.out.now.treDk
          have f0 := R7.out.now.free 0
          have f1 := R7.out.now.free 1
          have f2 := R7.out.now.free 2
          have TT := turn_s3 V7 (w.heap.size + 1) (.slice pVA l.length rVA) (.slice pVB s.length rVB) (.slice pVC o.length rVC)
          have XX := X7.out.step TT (.inl (Nat.le_refl _))
          have hsz := size_s3 V7 (w.heap.size + 1) (.slice pVA l.length rVA) (.slice pVB s.length rVB) (.slice pVC o.length rVC)
          have BF := B7.out.trans (TT.below B7.out.size (Nat.le_succ _))
          have FVA := VA7.out.step TT (by have q0 := M0.out; have q1 := M1.out; have q2 := M2.out; have q3 := M3.out; have q4 := JVA.out; have q5 := M4.out; have q6 := LVA.out; have q7 := JVB.out; have q8 := M5.out; have q9 := LVB.out; have q10 := M6.out; have q11 := JVC.out; have q12 := M7.out; have q13 := LVC.out; omega)
          have FVB := VB7.out.step TT (by have q0 := M0.out; have q1 := M1.out; have q2 := M2.out; have q3 := M3.out; have q4 := JVA.out; have q5 := M4.out; have q6 := LVA.out; have q7 := JVB.out; have q8 := M5.out; have q9 := LVB.out; have q10 := M6.out; have q11 := JVC.out; have q12 := M7.out; have q13 := LVC.out; omega)
          have FVC := VC7.out.step TT (by have q0 := M0.out; have q1 := M1.out; have q2 := M2.out; have q3 := M3.out; have q4 := JVA.out; have q5 := M4.out; have q6 := LVA.out; have q7 := JVB.out; have q8 := M5.out; have q9 := LVB.out; have q10 := M6.out; have q11 := JVC.out; have q12 := M7.out; have q13 := LVC.out; omega)
          have HF : Hid (Holds w.heap.size (((V7.setCell ⟨w.heap.size + 1, 0, none⟩ (.slice pVA l.length rVA)).setCell ⟨w.heap.size + 1, 1, none⟩ (.slice pVB s.length rVB)).setCell ⟨w.heap.size + 1, 2, none⟩ (.slice pVC o.length rVC)).heap.size (((V7.setCell ⟨w.heap.size + 1, 0, none⟩ (.slice pVA l.length rVA)).setCell ⟨w.heap.size + 1, 1, none⟩ (.slice pVB s.length rVB)).setCell ⟨w.heap.size + 1, 2, none⟩ (.slice pVC o.length rVC)) (OwnDk w.heap.size (((V7.setCell ⟨w.heap.size + 1, 0, none⟩ (.slice pVA l.length rVA)).setCell ⟨w.heap.size + 1, 1, none⟩ (.slice pVB s.length rVB)).setCell ⟨w.heap.size + 1, 2, none⟩ (.slice pVC o.length rVC)).heap.size (.slice pVA l.length rVA) (.slice pVB s.length rVB) (.slice pVC o.length rVC) l s o)) := Lib.hid ⟨ownDk_lives, Nat.le_refl _, ⟨ownP_baseFi FVA.now.1 (by have q0 := M0.out; have q1 := M1.out; have q2 := M2.out; have q3 := M3.out; have q4 := JVA.out; have q5 := M4.out; have q6 := LVA.out; have q7 := JVB.out; have q8 := M5.out; have q9 := LVB.out; have q10 := M6.out; have q11 := JVC.out; have q12 := M7.out; have q13 := LVC.out; omega), fun i hi => by have z1 := FVA.now.2 i hi; have z2 := FVA.le; omega⟩, ⟨ownP_baseFi FVB.now.1 (by have q0 := M0.out; have q1 := M1.out; have q2 := M2.out; have q3 := M3.out; have q4 := JVA.out; have q5 := M4.out; have q6 := LVA.out; have q7 := JVB.out; have q8 := M5.out; have q9 := LVB.out; have q10 := M6.out; have q11 := JVC.out; have q12 := M7.out; have q13 := LVC.out; omega), fun i hi => by have z1 := FVB.now.2 i hi; have z2 := FVB.le; omega⟩, ⟨ownOp_base FVC.now.1 (by have q0 := M0.out; have q1 := M1.out; have q2 := M2.out; have q3 := M3.out; have q4 := JVA.out; have q5 := M4.out; have q6 := LVA.out; have q7 := JVB.out; have q8 := M5.out; have q9 := LVB.out; have q10 := M6.out; have q11 := JVC.out; have q12 := M7.out; have q13 := LVC.out; omega), fun i hi => by have z1 := FVC.now.2 i hi; have z2 := FVC.le; omega⟩, fun i h1 h2 => by have z1 := (World.ownsRow.lt FVA.now.1 i h1).1; have z2 := FVA.now.2 i h1; have z3 := (World.ownsRow.lt FVB.now.1 i h2).1; have z4 := FVB.now.2 i h2; have q0 := M0.out; have q1 := M1.out; have q2 := M2.out; have q3 := M3.out; have q4 := JVA.out; have q5 := M4.out; have q6 := LVA.out; have q7 := JVB.out; have q8 := M5.out; have q9 := LVB.out; have q10 := M6.out; have q11 := JVC.out; have q12 := M7.out; have q13 := LVC.out; omega, fun i h1 h2 => by have z1 := (World.ownsRow.lt FVA.now.1 i h1).1; have z2 := FVA.now.2 i h1; have z3 := (World.ownsRow.lt FVC.now.1 i h2).1; have z4 := FVC.now.2 i h2; have q0 := M0.out; have q1 := M1.out; have q2 := M2.out; have q3 := M3.out; have q4 := JVA.out; have q5 := M4.out; have q6 := LVA.out; have q7 := JVB.out; have q8 := M5.out; have q9 := LVB.out; have q10 := M6.out; have q11 := JVC.out; have q12 := M7.out; have q13 := LVC.out; omega, fun i h1 h2 => by have z1 := (World.ownsRow.lt FVB.now.1 i h1).1; have z2 := FVB.now.2 i h1; have z3 := (World.ownsRow.lt FVC.now.1 i h2).1; have z4 := FVC.now.2 i h2; have q0 := M0.out; have q1 := M1.out; have q2 := M2.out; have q3 := M3.out; have q4 := JVA.out; have q5 := M4.out; have q6 := LVA.out; have q7 := JVB.out; have q8 := M5.out; have q9 := LVB.out; have q10 := M6.out; have q11 := JVC.out; have q12 := M7.out; have q13 := LVC.out; omega⟩
          have HBF := Lib.hid BF
          go_simp
          clear hHeld
          refine hK.out _ _ ?_ (fun hHeld => ?_)
          · exact XX.now.treDk
          clear hK K XX TT BF FVA FVB FVC
          refine wpAnyH_done (by kernel_rfl) ?_ _
          try simp only [Act.put, List.setIfInBounds_toArray, List.set_cons_zero, List.set_cons_succ, List.getElem_toArray, List.getElem_cons_zero, List.getElem_cons_succ]
          go_wp2_with fail
          refine bodyPost_ret (v := .agg #[.slice pVA l.length rVA, .slice pVB s.length rVB, .slice pVC o.length rVC]) (by simp [results, Try.results62, go_sem, *]) rfl ⟨_, _, _, _, _, _, rfl, HF.out, HBF.out⟩
        · go_simp
          have B5 := Lib.hid (B4.out.alloc B4.out.size (.cells #[] 36))
          have X5 := Lib.hid (X4.out.alloc (.cells #[] 36))
          have R5 := Lib.hid (R4.out.alloc (.cells #[] 36))
          have EB5 := Lib.hid (EB4.out.alloc (.cells #[] 36))
          have VA5 := Lib.hid (VA4.out.alloc (.cells #[] 36))
          have EC5 := Lib.hid (cells_new V4 #[] 36)
          have M5 : Hid (V4.heap.size + 1 ≤ (V4.alloc (.cells #[] 36)).heap.size) := Lib.hid (by simp)
          clear hHeld
          refine hK.out _ _ ?_ (fun hHeld => ?_)
          · exact X5.out.now.treDk
          clear hK K B4 X4 R4 EB4 VA4
          generalize V4.alloc (.cells #[] 36) = V5 at B5 M5 X5 R5 EB5 VA5 EC5 hHeld ⊢
          refine wpAnyH_ready (rs := [7]) (by kernel_rfl) (by simp) ?_
          try simp only [Act.put, List.setIfInBounds_toArray, List.set_cons_zero, List.set_cons_succ, List.getElem_toArray, List.getElem_cons_zero, List.getElem_cons_succ]
          refine (AllReadyH.cons rfl (fun K hK => ?_) AllReadyH.nil)
          rw [if_pos (by rfl)]
          refine upon_copyFi _ _ (by rfl) (V1.heap.size) (by rfl) EB5.out.now a1 n1 c1 s (by rfl) (H.out.2.1.nextFi B5.out) hn1 ?_
          intro vVB V6 jVB hj hv ho hT
          have JVB := Lib.hid hj
          have M6 : Hid (V5.heap.size ≤ V6.heap.size) := Lib.hid hT.size
          have LVB : Hid (jVB < V6.heap.size) := Lib.hid (World.ownsRow.lt ho jVB hv).2
          obtain ⟨pVB, rVB, rfl⟩ := fi_form ho
          have B6 := Lib.hid (B5.out.trans (hT.below B5.out.size (by have q0 := M0.out; have q1 := M1.out; have q2 := M2.out; have q3 := M3.out; have q4 := JVA.out; have q5 := M4.out; have q6 := LVA.out; have q7 := M5.out; have q8 := JVB.out; have q9 := M6.out; have q10 := LVB.out; omega)))
          have X6 := Lib.hid (X5.out.step hT (by have q0 := M0.out; have q1 := M1.out; have q2 := M2.out; have q3 := M3.out; have q4 := JVA.out; have q5 := M4.out; have q6 := LVA.out; have q7 := M5.out; have q8 := JVB.out; have q9 := M6.out; have q10 := LVB.out; omega))
          have R6 := Lib.hid (R5.out.step hT (by have q0 := M0.out; have q1 := M1.out; have q2 := M2.out; have q3 := M3.out; have q4 := JVA.out; have q5 := M4.out; have q6 := LVA.out; have q7 := M5.out; have q8 := JVB.out; have q9 := M6.out; have q10 := LVB.out; omega))
          have VA6 := Lib.hid (VA5.out.step hT (by have q0 := M0.out; have q1 := M1.out; have q2 := M2.out; have q3 := M3.out; have q4 := JVA.out; have q5 := M4.out; have q6 := LVA.out; have q7 := M5.out; have q8 := JVB.out; have q9 := M6.out; have q10 := LVB.out; omega))
          have EC6 := Lib.hid (EC5.out.step hT (by have q0 := M0.out; have q1 := M1.out; have q2 := M2.out; have q3 := M3.out; have q4 := JVA.out; have q5 := M4.out; have q6 := LVA.out; have q7 := M5.out; have q8 := JVB.out; have q9 := M6.out; have q10 := LVB.out; omega))
          have VB6 := Lib.hid (held_copyFi ho hv)
          clear hj hv ho hT B5 X5 R5 EB5 VA5 EC5
          clear hHeld
          refine hK.out _ _ ?_ (fun hHeld => ?_)
          · exact X6.out.now.treDk
          clear hK K
          refine wpAnyH_ready (rs := [11]) (by kernel_rfl) (by simp) ?_
          try simp only [Act.put, List.setIfInBounds_toArray, List.set_cons_zero, List.set_cons_succ, List.getElem_toArray, List.getElem_cons_zero, List.getElem_cons_succ]
          refine (AllReadyH.cons rfl (fun K hK => ?_) AllReadyH.nil)
          rw [if_pos (by rfl)]
          refine upon_copyOp _ _ (by rfl) (V4.heap.size) (by rfl) EC6.out.now a2 n2 c2 o (by rfl) (H.out.2.2.next B6.out) hn2 ?_
          intro vVC V7 jVC hj hv ho hT
          have JVC := Lib.hid hj
          have M7 : Hid (V6.heap.size ≤ V7.heap.size) := Lib.hid hT.size
          have LVC : Hid (jVC < V7.heap.size) := Lib.hid (World.ownsRow.lt ho jVC hv).2
          obtain ⟨pVC, rVC, rfl⟩ := op_form ho
          have B7 := Lib.hid (B6.out.trans (hT.below B6.out.size (by have q0 := M0.out; have q1 := M1.out; have q2 := M2.out; have q3 := M3.out; have q4 := JVA.out; have q5 := M4.out; have q6 := LVA.out; have q7 := M5.out; have q8 := JVB.out; have q9 := M6.out; have q10 := LVB.out; have q11 := JVC.out; have q12 := M7.out; have q13 := LVC.out; omega)))
          have X7 := Lib.hid (X6.out.step hT (by have q0 := M0.out; have q1 := M1.out; have q2 := M2.out; have q3 := M3.out; have q4 := JVA.out; have q5 := M4.out; have q6 := LVA.out; have q7 := M5.out; have q8 := JVB.out; have q9 := M6.out; have q10 := LVB.out; have q11 := JVC.out; have q12 := M7.out; have q13 := LVC.out; omega))
          have R7 := Lib.hid (R6.out.step hT (by have q0 := M0.out; have q1 := M1.out; have q2 := M2.out; have q3 := M3.out; have q4 := JVA.out; have q5 := M4.out; have q6 := LVA.out; have q7 := M5.out; have q8 := JVB.out; have q9 := M6.out; have q10 := LVB.out; have q11 := JVC.out; have q12 := M7.out; have q13 := LVC.out; omega))
          have VA7 := Lib.hid (VA6.out.step hT (by have q0 := M0.out; have q1 := M1.out; have q2 := M2.out; have q3 := M3.out; have q4 := JVA.out; have q5 := M4.out; have q6 := LVA.out; have q7 := M5.out; have q8 := JVB.out; have q9 := M6.out; have q10 := LVB.out; have q11 := JVC.out; have q12 := M7.out; have q13 := LVC.out; omega))
          have VB7 := Lib.hid (VB6.out.step hT (by have q0 := M0.out; have q1 := M1.out; have q2 := M2.out; have q3 := M3.out; have q4 := JVA.out; have q5 := M4.out; have q6 := LVA.out; have q7 := M5.out; have q8 := JVB.out; have q9 := M6.out; have q10 := LVB.out; have q11 := JVC.out; have q12 := M7.out; have q13 := LVC.out; omega))
          have VC7 := Lib.hid (held_copyOp ho hv)
          clear hj hv ho hT B6 X6 R6 VA6 EC6 VB6
          clear hHeld
          refine hK.out _ _ ?_ (fun hHeld => ?_)
          · exact X7.out.now.treDk
          clear hK K
          refine wpAnyH_take (i := 12) (v := ?_) rfl (by kernel_rfl) (by kernel_rfl) (by kernel_rfl) (fun _ _ _ h => h) (Or.inl ⟨by kernel_rfl, ?_⟩) (by assumption) ?_
          rotate_left
          · intro w hSw; (try dsimp only at hSw); go_simp; try with_reducible rfl
          refine wpAnyH_ready (rs := [13]) (by kernel_rfl) (by simp) ?_
          try simp only [Act.put, List.setIfInBounds_toArray, List.set_cons_zero, List.set_cons_succ, List.getElem_toArray, List.getElem_cons_zero, List.getElem_cons_succ]
          refine AllReadyH.cons rfl (fun K hK => ?_) AllReadyH.nil
          obtain ⟨y0, y1, y2⟩ := R7.out.now.treDk
          have f0 := R7.out.now.free 0
          have f1 := R7.out.now.free 1
          have f2 := R7.out.now.free 2
          have TT := turn_s3 V7 (w.heap.size + 1) (.slice pVA l.length rVA) (.slice pVB s.length rVB) (.slice pVC o.length rVC)
          have XX := X7.out.step TT (.inl (Nat.le_refl _))
          have hsz := size_s3 V7 (w.heap.size + 1) (.slice pVA l.length rVA) (.slice pVB s.length rVB) (.slice pVC o.length rVC)
          have BF := B7.out.trans (TT.below B7.out.size (Nat.le_succ _))
          have FVA := VA7.out.step TT (by have q0 := M0.out; have q1 := M1.out; have q2 := M2.out; have q3 := M3.out; have q4 := JVA.out; have q5 := M4.out; have q6 := LVA.out; have q7 := M5.out; have q8 := JVB.out; have q9 := M6.out; have q10 := LVB.out; have q11 := JVC.out; have q12 := M7.out; have q13 := LVC.out; omega)
          have FVB := VB7.out.step TT (by have q0 := M0.out; have q1 := M1.out; have q2 := M2.out; have q3 := M3.out; have q4 := JVA.out; have q5 := M4.out; have q6 := LVA.out; have q7 := M5.out; have q8 := JVB.out; have q9 := M6.out; have q10 := LVB.out; have q11 := JVC.out; have q12 := M7.out; have q13 := LVC.out; omega)
          have FVC := VC7.out.step TT (by have q0 := M0.out; have q1 := M1.out; have q2 := M2.out; have q3 := M3.out; have q4 := JVA.out; have q5 := M4.out; have q6 := LVA.out; have q7 := M5.out; have q8 := JVB.out; have q9 := M6.out; have q10 := LVB.out; have q11 := JVC.out; have q12 := M7.out; have q13 := LVC.out; omega)
          have HF : Hid (Holds w.heap.size (((V7.setCell ⟨w.heap.size + 1, 0, none⟩ (.slice pVA l.length rVA)).setCell ⟨w.heap.size + 1, 1, none⟩ (.slice pVB s.length rVB)).setCell ⟨w.heap.size + 1, 2, none⟩ (.slice pVC o.length rVC)).heap.size (((V7.setCell ⟨w.heap.size + 1, 0, none⟩ (.slice pVA l.length rVA)).setCell ⟨w.heap.size + 1, 1, none⟩ (.slice pVB s.length rVB)).setCell ⟨w.heap.size + 1, 2, none⟩ (.slice pVC o.length rVC)) (OwnDk w.heap.size (((V7.setCell ⟨w.heap.size + 1, 0, none⟩ (.slice pVA l.length rVA)).setCell ⟨w.heap.size + 1, 1, none⟩ (.slice pVB s.length rVB)).setCell ⟨w.heap.size + 1, 2, none⟩ (.slice pVC o.length rVC)).heap.size (.slice pVA l.length rVA) (.slice pVB s.length rVB) (.slice pVC o.length rVC) l s o)) := Lib.hid ⟨ownDk_lives, Nat.le_refl _, ⟨ownP_baseFi FVA.now.1 (by have q0 := M0.out; have q1 := M1.out; have q2 := M2.out; have q3 := M3.out; have q4 := JVA.out; have q5 := M4.out; have q6 := LVA.out; have q7 := M5.out; have q8 := JVB.out; have q9 := M6.out; have q10 := LVB.out; have q11 := JVC.out; have q12 := M7.out; have q13 := LVC.out; omega), fun i hi => by have z1 := FVA.now.2 i hi; have z2 := FVA.le; omega⟩, ⟨ownP_baseFi FVB.now.1 (by have q0 := M0.out; have q1 := M1.out; have q2 := M2.out; have q3 := M3.out; have q4 := JVA.out; have q5 := M4.out; have q6 := LVA.out; have q7 := M5.out; have q8 := JVB.out; have q9 := M6.out; have q10 := LVB.out; have q11 := JVC.out; have q12 := M7.out; have q13 := LVC.out; omega), fun i hi => by have z1 := FVB.now.2 i hi; have z2 := FVB.le; omega⟩, ⟨ownOp_base FVC.now.1 (by have q0 := M0.out; have q1 := M1.out; have q2 := M2.out; have q3 := M3.out; have q4 := JVA.out; have q5 := M4.out; have q6 := LVA.out; have q7 := M5.out; have q8 := JVB.out; have q9 := M6.out; have q10 := LVB.out; have q11 := JVC.out; have q12 := M7.out; have q13 := LVC.out; omega), fun i hi => by have z1 := FVC.now.2 i hi; have z2 := FVC.le; omega⟩, fun i h1 h2 => by have z1 := (World.ownsRow.lt FVA.now.1 i h1).1; have z2 := FVA.now.2 i h1; have z3 := (World.ownsRow.lt FVB.now.1 i h2).1; have z4 := FVB.now.2 i h2; have q0 := M0.out; have q1 := M1.out; have q2 := M2.out; have q3 := M3.out; have q4 := JVA.out; have q5 := M4.out; have q6 := LVA.out; have q7 := M5.out; have q8 := JVB.out; have q9 := M6.out; have q10 := LVB.out; have q11 := JVC.out; have q12 := M7.out; have q13 := LVC.out; omega, fun i h1 h2 => by have z1 := (World.ownsRow.lt FVA.now.1 i h1).1; have z2 := FVA.now.2 i h1; have z3 := (World.ownsRow.lt FVC.now.1 i h2).1; have z4 := FVC.now.2 i h2; have q0 := M0.out; have q1 := M1.out; have q2 := M2.out; have q3 := M3.out; have q4 := JVA.out; have q5 := M4.out; have q6 := LVA.out; have q7 := M5.out; have q8 := JVB.out; have q9 := M6.out; have q10 := LVB.out; have q11 := JVC.out; have q12 := M7.out; have q13 := LVC.out; omega, fun i h1 h2 => by have z1 := (World.ownsRow.lt FVB.now.1 i h1).1; have z2 := FVB.now.2 i h1; have z3 := (World.ownsRow.lt FVC.now.1 i h2).1; have z4 := FVC.now.2 i h2; have q0 := M0.out; have q1 := M1.out; have q2 := M2.out; have q3 := M3.out; have q4 := JVA.out; have q5 := M4.out; have q6 := LVA.out; have q7 := M5.out; have q8 := JVB.out; have q9 := M6.out; have q10 := LVB.out; have q11 := JVC.out; have q12 := M7.out; have q13 := LVC.out; omega⟩
          have HBF := Lib.hid BF
          go_simp
          clear hHeld
          refine hK.out _ _ ?_ (fun hHeld => ?_)
          · exact XX.now.treDk
          clear hK K XX TT BF FVA FVB FVC
          refine wpAnyH_done (by kernel_rfl) ?_ _
          try simp only [Act.put, List.setIfInBounds_toArray, List.set_cons_zero, List.set_cons_succ, List.getElem_toArray, List.getElem_cons_zero, List.getElem_cons_succ]
          go_wp2_with fail
          refine bodyPost_ret (v := .agg #[.slice pVA l.length rVA, .slice pVB s.length rVB, .slice pVC o.length rVC]) (by simp [results, Try.results62, go_sem, *]) rfl ⟨_, _, _, _, _, _, rfl, HF.out, HBF.out⟩
      · go_simp
        have B4 := Lib.hid (B3.out.alloc B3.out.size (.cells #[] 36))
        have X4 := Lib.hid (X3.out.alloc (.cells #[] 36))
        have R4 := Lib.hid (R3.out.alloc (.cells #[] 36))
        have EB4 := Lib.hid (EB3.out.alloc (.cells #[] 36))
        have EA4 := Lib.hid (EA3.out.alloc (.cells #[] 36))
        have EC4 := Lib.hid (cells_new V3 #[] 36)
        have M4 : Hid (V3.heap.size + 1 ≤ (V3.alloc (.cells #[] 36)).heap.size) := Lib.hid (by simp)
        clear hHeld
        refine hK.out _ _ ?_ (fun hHeld => ?_)
        · exact X4.out.now.treDk
        clear hK K B3 X3 R3 EB3 EA3
        generalize V3.alloc (.cells #[] 36) = V4 at B4 M4 X4 R4 EB4 EA4 EC4 hHeld ⊢
        refine wpAnyH_ready (rs := [3]) (by kernel_rfl) (by simp) ?_
        try simp only [Act.put, List.setIfInBounds_toArray, List.set_cons_zero, List.set_cons_succ, List.getElem_toArray, List.getElem_cons_zero, List.getElem_cons_succ]
        refine (AllReadyH.cons rfl (fun K hK => ?_) AllReadyH.nil)
        rw [if_pos (by rfl)]
        refine upon_copyFi _ _ (by rfl) (V2.heap.size) (by rfl) EA4.out.now a0 n0 c0 l (by rfl) (H.out.1.nextFi B4.out) hn0 ?_
        intro vVA V5 jVA hj hv ho hT
        have JVA := Lib.hid hj
        have M5 : Hid (V4.heap.size ≤ V5.heap.size) := Lib.hid hT.size
        have LVA : Hid (jVA < V5.heap.size) := Lib.hid (World.ownsRow.lt ho jVA hv).2
        obtain ⟨pVA, rVA, rfl⟩ := fi_form ho
        have B5 := Lib.hid (B4.out.trans (hT.below B4.out.size (by have q0 := M0.out; have q1 := M1.out; have q2 := M2.out; have q3 := M3.out; have q4 := M4.out; have q5 := JVA.out; have q6 := M5.out; have q7 := LVA.out; omega)))
        have X5 := Lib.hid (X4.out.step hT (by have q0 := M0.out; have q1 := M1.out; have q2 := M2.out; have q3 := M3.out; have q4 := M4.out; have q5 := JVA.out; have q6 := M5.out; have q7 := LVA.out; omega))
        have R5 := Lib.hid (R4.out.step hT (by have q0 := M0.out; have q1 := M1.out; have q2 := M2.out; have q3 := M3.out; have q4 := M4.out; have q5 := JVA.out; have q6 := M5.out; have q7 := LVA.out; omega))
        have EB5 := Lib.hid (EB4.out.step hT (by have q0 := M0.out; have q1 := M1.out; have q2 := M2.out; have q3 := M3.out; have q4 := M4.out; have q5 := JVA.out; have q6 := M5.out; have q7 := LVA.out; omega))
        have EC5 := Lib.hid (EC4.out.step hT (by have q0 := M0.out; have q1 := M1.out; have q2 := M2.out; have q3 := M3.out; have q4 := M4.out; have q5 := JVA.out; have q6 := M5.out; have q7 := LVA.out; omega))
        have VA5 := Lib.hid (held_copyFi ho hv)
        clear hj hv ho hT B4 X4 R4 EB4 EA4 EC4
        clear hHeld
        refine hK.out _ _ ?_ (fun hHeld => ?_)
        · exact X5.out.now.treDk
        clear hK K
        refine wpAnyH_ready (rs := [7]) (by kernel_rfl) (by simp) ?_
        try simp only [Act.put, List.setIfInBounds_toArray, List.set_cons_zero, List.set_cons_succ, List.getElem_toArray, List.getElem_cons_zero, List.getElem_cons_succ]
        refine (AllReadyH.cons rfl (fun K hK => ?_) AllReadyH.nil)
        rw [if_pos (by rfl)]
        refine upon_copyFi _ _ (by rfl) (V1.heap.size) (by rfl) EB5.out.now a1 n1 c1 s (by rfl) (H.out.2.1.nextFi B5.out) hn1 ?_
        intro vVB V6 jVB hj hv ho hT
        have JVB := Lib.hid hj
        have M6 : Hid (V5.heap.size ≤ V6.heap.size) := Lib.hid hT.size
        have LVB : Hid (jVB < V6.heap.size) := Lib.hid (World.ownsRow.lt ho jVB hv).2
        obtain ⟨pVB, rVB, rfl⟩ := fi_form ho
        have B6 := Lib.hid (B5.out.trans (hT.below B5.out.size (by have q0 := M0.out; have q1 := M1.out; have q2 := M2.out; have q3 := M3.out; have q4 := M4.out; have q5 := JVA.out; have q6 := M5.out; have q7 := LVA.out; have q8 := JVB.out; have q9 := M6.out; have q10 := LVB.out; omega)))
        have X6 := Lib.hid (X5.out.step hT (by have q0 := M0.out; have q1 := M1.out; have q2 := M2.out; have q3 := M3.out; have q4 := M4.out; have q5 := JVA.out; have q6 := M5.out; have q7 := LVA.out; have q8 := JVB.out; have q9 := M6.out; have q10 := LVB.out; omega))
        have R6 := Lib.hid (R5.out.step hT (by have q0 := M0.out; have q1 := M1.out; have q2 := M2.out; have q3 := M3.out; have q4 := M4.out; have q5 := JVA.out; have q6 := M5.out; have q7 := LVA.out; have q8 := JVB.out; have q9 := M6.out; have q10 := LVB.out; omega))
        have EC6 := Lib.hid (EC5.out.step hT (by have q0 := M0.out; have q1 := M1.out; have q2 := M2.out; have q3 := M3.out; have q4 := M4.out; have q5 := JVA.out; have q6 := M5.out; have q7 := LVA.out; have q8 := JVB.out; have q9 := M6.out; have q10 := LVB.out; omega))
        have VA6 := Lib.hid (VA5.out.step hT (by have q0 := M0.out; have q1 := M1.out; have q2 := M2.out; have q3 := M3.out; have q4 := M4.out; have q5 := JVA.out; have q6 := M5.out; have q7 := LVA.out; have q8 := JVB.out; have q9 := M6.out; have q10 := LVB.out; omega))
        have VB6 := Lib.hid (held_copyFi ho hv)
        clear hj hv ho hT B5 X5 R5 EB5 EC5 VA5
        clear hHeld
        refine hK.out _ _ ?_ (fun hHeld => ?_)
        · exact X6.out.now.treDk
        clear hK K
        refine wpAnyH_ready (rs := [11]) (by kernel_rfl) (by simp) ?_
        try simp only [Act.put, List.setIfInBounds_toArray, List.set_cons_zero, List.set_cons_succ, List.getElem_toArray, List.getElem_cons_zero, List.getElem_cons_succ]
        refine (AllReadyH.cons rfl (fun K hK => ?_) AllReadyH.nil)
        rw [if_pos (by rfl)]
        refine upon_copyOp _ _ (by rfl) (V3.heap.size) (by rfl) EC6.out.now a2 n2 c2 o (by rfl) (H.out.2.2.next B6.out) hn2 ?_
        intro vVC V7 jVC hj hv ho hT
        have JVC := Lib.hid hj
        have M7 : Hid (V6.heap.size ≤ V7.heap.size) := Lib.hid hT.size
        have LVC : Hid (jVC < V7.heap.size) := Lib.hid (World.ownsRow.lt ho jVC hv).2
        obtain ⟨pVC, rVC, rfl⟩ := op_form ho
        have B7 := Lib.hid (B6.out.trans (hT.below B6.out.size (by have q0 := M0.out; have q1 := M1.out; have q2 := M2.out; have q3 := M3.out; have q4 := M4.out; have q5 := JVA.out; have q6 := M5.out; have q7 := LVA.out; have q8 := JVB.out; have q9 := M6.out; have q10 := LVB.out; have q11 := JVC.out; have q12 := M7.out; have q13 := LVC.out; omega)))
        have X7 := Lib.hid (X6.out.step hT (by have q0 := M0.out; have q1 := M1.out; have q2 := M2.out; have q3 := M3.out; have q4 := M4.out; have q5 := JVA.out; have q6 := M5.out; have q7 := LVA.out; have q8 := JVB.out; have q9 := M6.out; have q10 := LVB.out; have q11 := JVC.out; have q12 := M7.out; have q13 := LVC.out; omega))
        have R7 := Lib.hid (R6.out.step hT (by have q0 := M0.out; have q1 := M1.out; have q2 := M2.out; have q3 := M3.out; have q4 := M4.out; have q5 := JVA.out; have q6 := M5.out; have q7 := LVA.out; have q8 := JVB.out; have q9 := M6.out; have q10 := LVB.out; have q11 := JVC.out; have q12 := M7.out; have q13 := LVC.out; omega))
        have VA7 := Lib.hid (VA6.out.step hT (by have q0 := M0.out; have q1 := M1.out; have q2 := M2.out; have q3 := M3.out; have q4 := M4.out; have q5 := JVA.out; have q6 := M5.out; have q7 := LVA.out; have q8 := JVB.out; have q9 := M6.out; have q10 := LVB.out; have q11 := JVC.out; have q12 := M7.out; have q13 := LVC.out; omega))
        have VB7 := Lib.hid (VB6.out.step hT (by have q0 := M0.out; have q1 := M1.out; have q2 := M2.out; have q3 := M3.out; have q4 := M4.out; have q5 := JVA.out; have q6 := M5.out; have q7 := LVA.out; have q8 := JVB.out; have q9 := M6.out; have q10 := LVB.out; have q11 := JVC.out; have q12 := M7.out; have q13 := LVC.out; omega))
        have VC7 := Lib.hid (held_copyOp ho hv)
        clear hj hv ho hT B6 X6 R6 EC6 VA6 VB6
        clear hHeld
        refine hK.out _ _ ?_ (fun hHeld => ?_)
        · exact X7.out.now.treDk
        clear hK K
        refine wpAnyH_take (i := 12) (v := ?_) rfl (by kernel_rfl) (by kernel_rfl) (by kernel_rfl) (fun _ _ _ h => h) (Or.inl ⟨by kernel_rfl, ?_⟩) (by assumption) ?_
        rotate_left
        · intro w hSw; (try dsimp only at hSw); go_simp; try with_reducible rfl
        refine wpAnyH_ready (rs := [13]) (by kernel_rfl) (by simp) ?_
        try simp only [Act.put, List.setIfInBounds_toArray, List.set_cons_zero, List.set_cons_succ, List.getElem_toArray, List.getElem_cons_zero, List.getElem_cons_succ]
        refine AllReadyH.cons rfl (fun K hK => ?_) AllReadyH.nil
        obtain ⟨y0, y1, y2⟩ := R7.out.now.treDk
        have f0 := R7.out.now.free 0
        have f1 := R7.out.now.free 1
        have f2 := R7.out.now.free 2
        have TT := turn_s3 V7 (w.heap.size + 1) (.slice pVA l.length rVA) (.slice pVB s.length rVB) (.slice pVC o.length rVC)
        have XX := X7.out.step TT (.inl (Nat.le_refl _))
        have hsz := size_s3 V7 (w.heap.size + 1) (.slice pVA l.length rVA) (.slice pVB s.length rVB) (.slice pVC o.length rVC)
        have BF := B7.out.trans (TT.below B7.out.size (Nat.le_succ _))
        have FVA := VA7.out.step TT (by have q0 := M0.out; have q1 := M1.out; have q2 := M2.out; have q3 := M3.out; have q4 := M4.out; have q5 := JVA.out; have q6 := M5.out; have q7 := LVA.out; have q8 := JVB.out; have q9 := M6.out; have q10 := LVB.out; have q11 := JVC.out; have q12 := M7.out; have q13 := LVC.out; omega)
        have FVB := VB7.out.step TT (by have q0 := M0.out; have q1 := M1.out; have q2 := M2.out; have q3 := M3.out; have q4 := M4.out; have q5 := JVA.out; have q6 := M5.out; have q7 := LVA.out; have q8 := JVB.out; have q9 := M6.out; have q10 := LVB.out; have q11 := JVC.out; have q12 := M7.out; have q13 := LVC.out; omega)
        have FVC := VC7.out.step TT (by have q0 := M0.out; have q1 := M1.out; have q2 := M2.out; have q3 := M3.out; have q4 := M4.out; have q5 := JVA.out; have q6 := M5.out; have q7 := LVA.out; have q8 := JVB.out; have q9 := M6.out; have q10 := LVB.out; have q11 := JVC.out; have q12 := M7.out; have q13 := LVC.out; omega)
        have HF : Hid (Holds w.heap.size (((V7.setCell ⟨w.heap.size + 1, 0, none⟩ (.slice pVA l.length rVA)).setCell ⟨w.heap.size + 1, 1, none⟩ (.slice pVB s.length rVB)).setCell ⟨w.heap.size + 1, 2, none⟩ (.slice pVC o.length rVC)).heap.size (((V7.setCell ⟨w.heap.size + 1, 0, none⟩ (.slice pVA l.length rVA)).setCell ⟨w.heap.size + 1, 1, none⟩ (.slice pVB s.length rVB)).setCell ⟨w.heap.size + 1, 2, none⟩ (.slice pVC o.length rVC)) (OwnDk w.heap.size (((V7.setCell ⟨w.heap.size + 1, 0, none⟩ (.slice pVA l.length rVA)).setCell ⟨w.heap.size + 1, 1, none⟩ (.slice pVB s.length rVB)).setCell ⟨w.heap.size + 1, 2, none⟩ (.slice pVC o.length rVC)).heap.size (.slice pVA l.length rVA) (.slice pVB s.length rVB) (.slice pVC o.length rVC) l s o)) := Lib.hid ⟨ownDk_lives, Nat.le_refl _, ⟨ownP_baseFi FVA.now.1 (by have q0 := M0.out; have q1 := M1.out; have q2 := M2.out; have q3 := M3.out; have q4 := M4.out; have q5 := JVA.out; have q6 := M5.out; have q7 := LVA.out; have q8 := JVB.out; have q9 := M6.out; have q10 := LVB.out; have q11 := JVC.out; have q12 := M7.out; have q13 := LVC.out; omega), fun i hi => by have z1 := FVA.now.2 i hi; have z2 := FVA.le; omega⟩, ⟨ownP_baseFi FVB.now.1 (by have q0 := M0.out; have q1 := M1.out; have q2 := M2.out; have q3 := M3.out; have q4 := M4.out; have q5 := JVA.out; have q6 := M5.out; have q7 := LVA.out; have q8 := JVB.out; have q9 := M6.out; have q10 := LVB.out; have q11 := JVC.out; have q12 := M7.out; have q13 := LVC.out; omega), fun i hi => by have z1 := FVB.now.2 i hi; have z2 := FVB.le; omega⟩, ⟨ownOp_base FVC.now.1 (by have q0 := M0.out; have q1 := M1.out; have q2 := M2.out; have q3 := M3.out; have q4 := M4.out; have q5 := JVA.out; have q6 := M5.out; have q7 := LVA.out; have q8 := JVB.out; have q9 := M6.out; have q10 := LVB.out; have q11 := JVC.out; have q12 := M7.out; have q13 := LVC.out; omega), fun i hi => by have z1 := FVC.now.2 i hi; have z2 := FVC.le; omega⟩, fun i h1 h2 => by have z1 := (World.ownsRow.lt FVA.now.1 i h1).1; have z2 := FVA.now.2 i h1; have z3 := (World.ownsRow.lt FVB.now.1 i h2).1; have z4 := FVB.now.2 i h2; have q0 := M0.out; have q1 := M1.out; have q2 := M2.out; have q3 := M3.out; have q4 := M4.out; have q5 := JVA.out; have q6 := M5.out; have q7 := LVA.out; have q8 := JVB.out; have q9 := M6.out; have q10 := LVB.out; have q11 := JVC.out; have q12 := M7.out; have q13 := LVC.out; omega, fun i h1 h2 => by have z1 := (World.ownsRow.lt FVA.now.1 i h1).1; have z2 := FVA.now.2 i h1; have z3 := (World.ownsRow.lt FVC.now.1 i h2).1; have z4 := FVC.now.2 i h2; have q0 := M0.out; have q1 := M1.out; have q2 := M2.out; have q3 := M3.out; have q4 := M4.out; have q5 := JVA.out; have q6 := M5.out; have q7 := LVA.out; have q8 := JVB.out; have q9 := M6.out; have q10 := LVB.out; have q11 := JVC.out; have q12 := M7.out; have q13 := LVC.out; omega, fun i h1 h2 => by have z1 := (World.ownsRow.lt FVB.now.1 i h1).1; have z2 := FVB.now.2 i h1; have z3 := (World.ownsRow.lt FVC.now.1 i h2).1; have z4 := FVC.now.2 i h2; have q0 := M0.out; have q1 := M1.out; have q2 := M2.out; have q3 := M3.out; have q4 := M4.out; have q5 := JVA.out; have q6 := M5.out; have q7 := LVA.out; have q8 := JVB.out; have q9 := M6.out; have q10 := LVB.out; have q11 := JVC.out; have q12 := M7.out; have q13 := LVC.out; omega⟩
        have HBF := Lib.hid BF
        go_simp
        clear hHeld
        refine hK.out _ _ ?_ (fun hHeld => ?_)
        · exact XX.now.treDk
        clear hK K XX TT BF FVA FVB FVC
        refine wpAnyH_done (by kernel_rfl) ?_ _
        try simp only [Act.put, List.setIfInBounds_toArray, List.set_cons_zero, List.set_cons_succ, List.getElem_toArray, List.getElem_cons_zero, List.getElem_cons_succ]
        go_wp2_with fail
        refine bodyPost_ret (v := .agg #[.slice pVA l.length rVA, .slice pVB s.length rVB, .slice pVC o.length rVC]) (by simp [results, Try.results62, go_sem, *]) rfl ⟨_, _, _, _, _, _, rfl, HF.out, HBF.out⟩
    · go_simp
      have B3 := Lib.hid (B2.out.alloc B2.out.size (.cells #[] 36))
      have X3 := Lib.hid (X2.out.alloc (.cells #[] 36))
      have R3 := Lib.hid (R2.out.alloc (.cells #[] 36))
      have EB3 := Lib.hid (EB2.out.alloc (.cells #[] 36))
      have EC3 := Lib.hid (cells_new V2 #[] 36)
      have M3 : Hid (V2.heap.size + 1 ≤ (V2.alloc (.cells #[] 36)).heap.size) := Lib.hid (by simp)
      clear hHeld
      refine hK.out _ _ ?_ (fun hHeld => ?_)
      · exact X3.out.now.treDk
      clear hK K B2 X2 R2 EB2
      generalize V2.alloc (.cells #[] 36) = V3 at B3 M3 X3 R3 EB3 EC3 hHeld ⊢
      refine wpAnyH_ready (rs := [0]) (by kernel_rfl) (by simp) ?_
      try simp only [Act.put, List.setIfInBounds_toArray, List.set_cons_zero, List.set_cons_succ, List.getElem_toArray, List.getElem_cons_zero, List.getElem_cons_succ]
      refine (AllReadyH.cons rfl (fun K hK => ?_) AllReadyH.nil)
      go_simp
      have B4 := Lib.hid (B3.out.alloc B3.out.size (.cells #[] 74))
      have X4 := Lib.hid (X3.out.alloc (.cells #[] 74))
      have R4 := Lib.hid (R3.out.alloc (.cells #[] 74))
      have EB4 := Lib.hid (EB3.out.alloc (.cells #[] 74))
      have EC4 := Lib.hid (EC3.out.alloc (.cells #[] 74))
      have EA4 := Lib.hid (cells_new V3 #[] 74)
      have M4 : Hid (V3.heap.size + 1 ≤ (V3.alloc (.cells #[] 74)).heap.size) := Lib.hid (by simp)
      clear hHeld
      refine hK.out _ _ ?_ (fun hHeld => ?_)
      · exact X4.out.now.treDk
      clear hK K B3 X3 R3 EB3 EC3
      generalize V3.alloc (.cells #[] 74) = V4 at B4 M4 X4 R4 EB4 EC4 EA4 hHeld ⊢
      refine wpAnyH_ready (rs := [3]) (by kernel_rfl) (by simp) ?_
      try simp only [Act.put, List.setIfInBounds_toArray, List.set_cons_zero, List.set_cons_succ, List.getElem_toArray, List.getElem_cons_zero, List.getElem_cons_succ]
      refine (AllReadyH.cons rfl (fun K hK => ?_) AllReadyH.nil)
      rw [if_pos (by rfl)]
      refine upon_copyFi _ _ (by rfl) (V3.heap.size) (by rfl) EA4.out.now a0 n0 c0 l (by rfl) (H.out.1.nextFi B4.out) hn0 ?_
      intro vVA V5 jVA hj hv ho hT
      have JVA := Lib.hid hj
      have M5 : Hid (V4.heap.size ≤ V5.heap.size) := Lib.hid hT.size
      have LVA : Hid (jVA < V5.heap.size) := Lib.hid (World.ownsRow.lt ho jVA hv).2
      obtain ⟨pVA, rVA, rfl⟩ := fi_form ho
      have B5 := Lib.hid (B4.out.trans (hT.below B4.out.size (by have q0 := M0.out; have q1 := M1.out; have q2 := M2.out; have q3 := M3.out; have q4 := M4.out; have q5 := JVA.out; have q6 := M5.out; have q7 := LVA.out; omega)))
      have X5 := Lib.hid (X4.out.step hT (by have q0 := M0.out; have q1 := M1.out; have q2 := M2.out; have q3 := M3.out; have q4 := M4.out; have q5 := JVA.out; have q6 := M5.out; have q7 := LVA.out; omega))
      have R5 := Lib.hid (R4.out.step hT (by have q0 := M0.out; have q1 := M1.out; have q2 := M2.out; have q3 := M3.out; have q4 := M4.out; have q5 := JVA.out; have q6 := M5.out; have q7 := LVA.out; omega))
      have EB5 := Lib.hid (EB4.out.step hT (by have q0 := M0.out; have q1 := M1.out; have q2 := M2.out; have q3 := M3.out; have q4 := M4.out; have q5 := JVA.out; have q6 := M5.out; have q7 := LVA.out; omega))
      have EC5 := Lib.hid (EC4.out.step hT (by have q0 := M0.out; have q1 := M1.out; have q2 := M2.out; have q3 := M3.out; have q4 := M4.out; have q5 := JVA.out; have q6 := M5.out; have q7 := LVA.out; omega))
      have VA5 := Lib.hid (held_copyFi ho hv)
      clear hj hv ho hT B4 X4 R4 EB4 EC4 EA4
      clear hHeld
      refine hK.out _ _ ?_ (fun hHeld => ?_)
      · exact X5.out.now.treDk
      clear hK K
      refine wpAnyH_ready (rs := [7]) (by kernel_rfl) (by simp) ?_
      try simp only [Act.put, List.setIfInBounds_toArray, List.set_cons_zero, List.set_cons_succ, List.getElem_toArray, List.getElem_cons_zero, List.getElem_cons_succ]
      refine (AllReadyH.cons rfl (fun K hK => ?_) AllReadyH.nil)
      rw [if_pos (by rfl)]
      refine upon_copyFi _ _ (by rfl) (V1.heap.size) (by rfl) EB5.out.now a1 n1 c1 s (by rfl) (H.out.2.1.nextFi B5.out) hn1 ?_
      intro vVB V6 jVB hj hv ho hT
      have JVB := Lib.hid hj
      have M6 : Hid (V5.heap.size ≤ V6.heap.size) := Lib.hid hT.size
      have LVB : Hid (jVB < V6.heap.size) := Lib.hid (World.ownsRow.lt ho jVB hv).2
      obtain ⟨pVB, rVB, rfl⟩ := fi_form ho
      have B6 := Lib.hid (B5.out.trans (hT.below B5.out.size (by have q0 := M0.out; have q1 := M1.out; have q2 := M2.out; have q3 := M3.out; have q4 := M4.out; have q5 := JVA.out; have q6 := M5.out; have q7 := LVA.out; have q8 := JVB.out; have q9 := M6.out; have q10 := LVB.out; omega)))
      have X6 := Lib.hid (X5.out.step hT (by have q0 := M0.out; have q1 := M1.out; have q2 := M2.out; have q3 := M3.out; have q4 := M4.out; have q5 := JVA.out; have q6 := M5.out; have q7 := LVA.out; have q8 := JVB.out; have q9 := M6.out; have q10 := LVB.out; omega))
      have R6 := Lib.hid (R5.out.step hT (by have q0 := M0.out; have q1 := M1.out; have q2 := M2.out; have q3 := M3.out; have q4 := M4.out; have q5 := JVA.out; have q6 := M5.out; have q7 := LVA.out; have q8 := JVB.out; have q9 := M6.out; have q10 := LVB.out; omega))
      have EC6 := Lib.hid (EC5.out.step hT (by have q0 := M0.out; have q1 := M1.out; have q2 := M2.out; have q3 := M3.out; have q4 := M4.out; have q5 := JVA.out; have q6 := M5.out; have q7 := LVA.out; have q8 := JVB.out; have q9 := M6.out; have q10 := LVB.out; omega))
      have VA6 := Lib.hid (VA5.out.step hT (by have q0 := M0.out; have q1 := M1.out; have q2 := M2.out; have q3 := M3.out; have q4 := M4.out; have q5 := JVA.out; have q6 := M5.out; have q7 := LVA.out; have q8 := JVB.out; have q9 := M6.out; have q10 := LVB.out; omega))
      have VB6 := Lib.hid (held_copyFi ho hv)
      clear hj hv ho hT B5 X5 R5 EB5 EC5 VA5
      clear hHeld
      refine hK.out _ _ ?_ (fun hHeld => ?_)
      · exact X6.out.now.treDk
      clear hK K
      refine wpAnyH_ready (rs := [11]) (by kernel_rfl) (by simp) ?_
      try simp only [Act.put, List.setIfInBounds_toArray, List.set_cons_zero, List.set_cons_succ, List.getElem_toArray, List.getElem_cons_zero, List.getElem_cons_succ]
      refine (AllReadyH.cons rfl (fun K hK => ?_) AllReadyH.nil)
      rw [if_pos (by rfl)]
      refine upon_copyOp _ _ (by rfl) (V2.heap.size) (by rfl) EC6.out.now a2 n2 c2 o (by rfl) (H.out.2.2.next B6.out) hn2 ?_
      intro vVC V7 jVC hj hv ho hT
      have JVC := Lib.hid hj
      have M7 : Hid (V6.heap.size ≤ V7.heap.size) := Lib.hid hT.size
      have LVC : Hid (jVC < V7.heap.size) := Lib.hid (World.ownsRow.lt ho jVC hv).2
      obtain ⟨pVC, rVC, rfl⟩ := op_form ho
      have B7 := Lib.hid (B6.out.trans (hT.below B6.out.size (by have q0 := M0.out; have q1 := M1.out; have q2 := M2.out; have q3 := M3.out; have q4 := M4.out; have q5 := JVA.out; have q6 := M5.out; have q7 := LVA.out; have q8 := JVB.out; have q9 := M6.out; have q10 := LVB.out; have q11 := JVC.out; have q12 := M7.out; have q13 := LVC.out; omega)))
      have X7 := Lib.hid (X6.out.step hT (by have q0 := M0.out; have q1 := M1.out; have q2 := M2.out; have q3 := M3.out; have q4 := M4.out; have q5 := JVA.out; have q6 := M5.out; have q7 := LVA.out; have q8 := JVB.out; have q9 := M6.out; have q10 := LVB.out; have q11 := JVC.out; have q12 := M7.out; have q13 := LVC.out; omega))
      have R7 := Lib.hid (R6.out.step hT (by have q0 := M0.out; have q1 := M1.out; have q2 := M2.out; have q3 := M3.out; have q4 := M4.out; have q5 := JVA.out; have q6 := M5.out; have q7 := LVA.out; have q8 := JVB.out; have q9 := M6.out; have q10 := LVB.out; have q11 := JVC.out; have q12 := M7.out; have q13 := LVC.out; omega))
      have VA7 := Lib.hid (VA6.out.step hT (by have q0 := M0.out; have q1 := M1.out; have q2 := M2.out; have q3 := M3.out; have q4 := M4.out; have q5 := JVA.out; have q6 := M5.out; have q7 := LVA.out; have q8 := JVB.out; have q9 := M6.out; have q10 := LVB.out; have q11 := JVC.out; have q12 := M7.out; have q13 := LVC.out; omega))
      have VB7 := Lib.hid (VB6.out.step hT (by have q0 := M0.out; have q1 := M1.out; have q2 := M2.out; have q3 := M3.out; have q4 := M4.out; have q5 := JVA.out; have q6 := M5.out; have q7 := LVA.out; have q8 := JVB.out; have q9 := M6.out; have q10 := LVB.out; have q11 := JVC.out; have q12 := M7.out; have q13 := LVC.out; omega))
      have VC7 := Lib.hid (held_copyOp ho hv)
      clear hj hv ho hT B6 X6 R6 EC6 VA6 VB6
      clear hHeld
      refine hK.out _ _ ?_ (fun hHeld => ?_)
      · exact X7.out.now.treDk
      clear hK K
      refine wpAnyH_take (i := 12) (v := ?_) rfl (by kernel_rfl) (by kernel_rfl) (by kernel_rfl) (fun _ _ _ h => h) (Or.inl ⟨by kernel_rfl, ?_⟩) (by assumption) ?_
      rotate_left
      · intro w hSw; (try dsimp only at hSw); go_simp; try with_reducible rfl
      refine wpAnyH_ready (rs := [13]) (by kernel_rfl) (by simp) ?_
      try simp only [Act.put, List.setIfInBounds_toArray, List.set_cons_zero, List.set_cons_succ, List.getElem_toArray, List.getElem_cons_zero, List.getElem_cons_succ]
      refine AllReadyH.cons rfl (fun K hK => ?_) AllReadyH.nil
      obtain ⟨y0, y1, y2⟩ := R7.out.now.treDk
      have f0 := R7.out.now.free 0
      have f1 := R7.out.now.free 1
      have f2 := R7.out.now.free 2
      have TT := turn_s3 V7 (w.heap.size + 1) (.slice pVA l.length rVA) (.slice pVB s.length rVB) (.slice pVC o.length rVC)
      have XX := X7.out.step TT (.inl (Nat.le_refl _))
      have hsz := size_s3 V7 (w.heap.size + 1) (.slice pVA l.length rVA) (.slice pVB s.length rVB) (.slice pVC o.length rVC)
      have BF := B7.out.trans (TT.below B7.out.size (Nat.le_succ _))
      have FVA := VA7.out.step TT (by have q0 := M0.out; have q1 := M1.out; have q2 := M2.out; have q3 := M3.out; have q4 := M4.out; have q5 := JVA.out; have q6 := M5.out; have q7 := LVA.out; have q8 := JVB.out; have q9 := M6.out; have q10 := LVB.out; have q11 := JVC.out; have q12 := M7.out; have q13 := LVC.out; omega)
      have FVB := VB7.out.step TT (by have q0 := M0.out; have q1 := M1.out; have q2 := M2.out; have q3 := M3.out; have q4 := M4.out; have q5 := JVA.out; have q6 := M5.out; have q7 := LVA.out; have q8 := JVB.out; have q9 := M6.out; have q10 := LVB.out; have q11 := JVC.out; have q12 := M7.out; have q13 := LVC.out; omega)
      have FVC := VC7.out.step TT (by have q0 := M0.out; have q1 := M1.out; have q2 := M2.out; have q3 := M3.out; have q4 := M4.out; have q5 := JVA.out; have q6 := M5.out; have q7 := LVA.out; have q8 := JVB.out; have q9 := M6.out; have q10 := LVB.out; have q11 := JVC.out; have q12 := M7.out; have q13 := LVC.out; omega)
      have HF : Hid (Holds w.heap.size (((V7.setCell ⟨w.heap.size + 1, 0, none⟩ (.slice pVA l.length rVA)).setCell ⟨w.heap.size + 1, 1, none⟩ (.slice pVB s.length rVB)).setCell ⟨w.heap.size + 1, 2, none⟩ (.slice pVC o.length rVC)).heap.size (((V7.setCell ⟨w.heap.size + 1, 0, none⟩ (.slice pVA l.length rVA)).setCell ⟨w.heap.size + 1, 1, none⟩ (.slice pVB s.length rVB)).setCell ⟨w.heap.size + 1, 2, none⟩ (.slice pVC o.length rVC)) (OwnDk w.heap.size (((V7.setCell ⟨w.heap.size + 1, 0, none⟩ (.slice pVA l.length rVA)).setCell ⟨w.heap.size + 1, 1, none⟩ (.slice pVB s.length rVB)).setCell ⟨w.heap.size + 1, 2, none⟩ (.slice pVC o.length rVC)).heap.size (.slice pVA l.length rVA) (.slice pVB s.length rVB) (.slice pVC o.length rVC) l s o)) := Lib.hid ⟨ownDk_lives, Nat.le_refl _, ⟨ownP_baseFi FVA.now.1 (by have q0 := M0.out; have q1 := M1.out; have q2 := M2.out; have q3 := M3.out; have q4 := M4.out; have q5 := JVA.out; have q6 := M5.out; have q7 := LVA.out; have q8 := JVB.out; have q9 := M6.out; have q10 := LVB.out; have q11 := JVC.out; have q12 := M7.out; have q13 := LVC.out; omega), fun i hi => by have z1 := FVA.now.2 i hi; have z2 := FVA.le; omega⟩, ⟨ownP_baseFi FVB.now.1 (by have q0 := M0.out; have q1 := M1.out; have q2 := M2.out; have q3 := M3.out; have q4 := M4.out; have q5 := JVA.out; have q6 := M5.out; have q7 := LVA.out; have q8 := JVB.out; have q9 := M6.out; have q10 := LVB.out; have q11 := JVC.out; have q12 := M7.out; have q13 := LVC.out; omega), fun i hi => by have z1 := FVB.now.2 i hi; have z2 := FVB.le; omega⟩, ⟨ownOp_base FVC.now.1 (by have q0 := M0.out; have q1 := M1.out; have q2 := M2.out; have q3 := M3.out; have q4 := M4.out; have q5 := JVA.out; have q6 := M5.out; have q7 := LVA.out; have q8 := JVB.out; have q9 := M6.out; have q10 := LVB.out; have q11 := JVC.out; have q12 := M7.out; have q13 := LVC.out; omega), fun i hi => by have z1 := FVC.now.2 i hi; have z2 := FVC.le; omega⟩, fun i h1 h2 => by have z1 := (World.ownsRow.lt FVA.now.1 i h1).1; have z2 := FVA.now.2 i h1; have z3 := (World.ownsRow.lt FVB.now.1 i h2).1; have z4 := FVB.now.2 i h2; have q0 := M0.out; have q1 := M1.out; have q2 := M2.out; have q3 := M3.out; have q4 := M4.out; have q5 := JVA.out; have q6 := M5.out; have q7 := LVA.out; have q8 := JVB.out; have q9 := M6.out; have q10 := LVB.out; have q11 := JVC.out; have q12 := M7.out; have q13 := LVC.out; omega, fun i h1 h2 => by have z1 := (World.ownsRow.lt FVA.now.1 i h1).1; have z2 := FVA.now.2 i h1; have z3 := (World.ownsRow.lt FVC.now.1 i h2).1; have z4 := FVC.now.2 i h2; have q0 := M0.out; have q1 := M1.out; have q2 := M2.out; have q3 := M3.out; have q4 := M4.out; have q5 := JVA.out; have q6 := M5.out; have q7 := LVA.out; have q8 := JVB.out; have q9 := M6.out; have q10 := LVB.out; have q11 := JVC.out; have q12 := M7.out; have q13 := LVC.out; omega, fun i h1 h2 => by have z1 := (World.ownsRow.lt FVB.now.1 i h1).1; have z2 := FVB.now.2 i h1; have z3 := (World.ownsRow.lt FVC.now.1 i h2).1; have z4 := FVC.now.2 i h2; have q0 := M0.out; have q1 := M1.out; have q2 := M2.out; have q3 := M3.out; have q4 := M4.out; have q5 := JVA.out; have q6 := M5.out; have q7 := LVA.out; have q8 := JVB.out; have q9 := M6.out; have q10 := LVB.out; have q11 := JVC.out; have q12 := M7.out; have q13 := LVC.out; omega⟩
      have HBF := Lib.hid BF
      go_simp
      clear hHeld
      refine hK.out _ _ ?_ (fun hHeld => ?_)
      · exact XX.now.treDk
      clear hK K XX TT BF FVA FVB FVC
      refine wpAnyH_done (by kernel_rfl) ?_ _
      try simp only [Act.put, List.setIfInBounds_toArray, List.set_cons_zero, List.set_cons_succ, List.getElem_toArray, List.getElem_cons_zero, List.getElem_cons_succ]
      go_wp2_with fail
      refine bodyPost_ret (v := .agg #[.slice pVA l.length rVA, .slice pVB s.length rVB, .slice pVC o.length rVC]) (by simp [results, Try.results62, go_sem, *]) rfl ⟨_, _, _, _, _, _, rfl, HF.out, HBF.out⟩
  · go_simp
    have B2 := Lib.hid (B1.out.alloc B1.out.size (.cells #[] 36))
    have X2 := Lib.hid (X1.out.alloc (.cells #[] 36))
    have R2 := Lib.hid (R1.out.alloc (.cells #[] 36))
    have EC2 := Lib.hid (cells_new V1 #[] 36)
    have M2 : Hid (V1.heap.size + 1 ≤ (V1.alloc (.cells #[] 36)).heap.size) := Lib.hid (by simp)
    clear hHeld
    refine hK.out _ _ ?_ (fun hHeld => ?_)
    · exact X2.out.now.treDk
    clear hK K B1 X1 R1
    generalize V1.alloc (.cells #[] 36) = V2 at B2 M2 X2 R2 EC2 hHeld ⊢
    refine wpAnyH_ready (rs := [0, 4]) (by kernel_rfl) (by simp) ?_
    try simp only [Act.put, List.setIfInBounds_toArray, List.set_cons_zero, List.set_cons_succ, List.getElem_toArray, List.getElem_cons_zero, List.getElem_cons_succ]
    refine (AllReadyH.cons rfl (fun K hK => ?_) (AllReadyH.cons rfl (fun K hK => ?_) AllReadyH.nil))
    · go_simp
      have B3 := Lib.hid (B2.out.alloc B2.out.size (.cells #[] 74))
      have X3 := Lib.hid (X2.out.alloc (.cells #[] 74))
      have R3 := Lib.hid (R2.out.alloc (.cells #[] 74))
      have EC3 := Lib.hid (EC2.out.alloc (.cells #[] 74))
      have EA3 := Lib.hid (cells_new V2 #[] 74)
      have M3 : Hid (V2.heap.size + 1 ≤ (V2.alloc (.cells #[] 74)).heap.size) := Lib.hid (by simp)
      clear hHeld
      refine hK.out _ _ ?_ (fun hHeld => ?_)
      · exact X3.out.now.treDk
      clear hK K B2 X2 R2 EC2
      generalize V2.alloc (.cells #[] 74) = V3 at B3 M3 X3 R3 EC3 EA3 hHeld ⊢
      refine wpAnyH_ready (rs := [3, 4]) (by kernel_rfl) (by simp) ?_
      try simp only [Act.put, List.setIfInBounds_toArray, List.set_cons_zero, List.set_cons_succ, List.getElem_toArray, List.getElem_cons_zero, List.getElem_cons_succ]
      refine (AllReadyH.cons rfl (fun K hK => ?_) (AllReadyH.cons rfl (fun K hK => ?_) AllReadyH.nil))
      · rw [if_pos (by rfl)]
        refine upon_copyFi _ _ (by rfl) (V2.heap.size) (by rfl) EA3.out.now a0 n0 c0 l (by rfl) (H.out.1.nextFi B3.out) hn0 ?_
        intro vVA V4 jVA hj hv ho hT
        have JVA := Lib.hid hj
        have M4 : Hid (V3.heap.size ≤ V4.heap.size) := Lib.hid hT.size
        have LVA : Hid (jVA < V4.heap.size) := Lib.hid (World.ownsRow.lt ho jVA hv).2
        obtain ⟨pVA, rVA, rfl⟩ := fi_form ho
        have B4 := Lib.hid (B3.out.trans (hT.below B3.out.size (by have q0 := M0.out; have q1 := M1.out; have q2 := M2.out; have q3 := M3.out; have q4 := JVA.out; have q5 := M4.out; have q6 := LVA.out; omega)))
        have X4 := Lib.hid (X3.out.step hT (by have q0 := M0.out; have q1 := M1.out; have q2 := M2.out; have q3 := M3.out; have q4 := JVA.out; have q5 := M4.out; have q6 := LVA.out; omega))
        have R4 := Lib.hid (R3.out.step hT (by have q0 := M0.out; have q1 := M1.out; have q2 := M2.out; have q3 := M3.out; have q4 := JVA.out; have q5 := M4.out; have q6 := LVA.out; omega))
        have EC4 := Lib.hid (EC3.out.step hT (by have q0 := M0.out; have q1 := M1.out; have q2 := M2.out; have q3 := M3.out; have q4 := JVA.out; have q5 := M4.out; have q6 := LVA.out; omega))
        have VA4 := Lib.hid (held_copyFi ho hv)
        clear hj hv ho hT B3 X3 R3 EC3 EA3
        clear hHeld
        refine hK.out _ _ ?_ (fun hHeld => ?_)
        · exact X4.out.now.treDk
        clear hK K
        refine wpAnyH_ready (rs := [4]) (by kernel_rfl) (by simp) ?_
        try simp only [Act.put, List.setIfInBounds_toArray, List.set_cons_zero, List.set_cons_succ, List.getElem_toArray, List.getElem_cons_zero, List.getElem_cons_succ]
        refine (AllReadyH.cons rfl (fun K hK => ?_) AllReadyH.nil)
        go_simp
        have B5 := Lib.hid (B4.out.alloc B4.out.size (.cells #[] 74))
        have X5 := Lib.hid (X4.out.alloc (.cells #[] 74))
        have R5 := Lib.hid (R4.out.alloc (.cells #[] 74))
        have EC5 := Lib.hid (EC4.out.alloc (.cells #[] 74))
        have VA5 := Lib.hid (VA4.out.alloc (.cells #[] 74))
        have EB5 := Lib.hid (cells_new V4 #[] 74)
        have M5 : Hid (V4.heap.size + 1 ≤ (V4.alloc (.cells #[] 74)).heap.size) := Lib.hid (by simp)
        clear hHeld
        refine hK.out _ _ ?_ (fun hHeld => ?_)
        · exact X5.out.now.treDk
        clear hK K B4 X4 R4 EC4 VA4
        generalize V4.alloc (.cells #[] 74) = V5 at B5 M5 X5 R5 EC5 VA5 EB5 hHeld ⊢
        refine wpAnyH_ready (rs := [7]) (by kernel_rfl) (by simp) ?_
        try simp only [Act.put, List.setIfInBounds_toArray, List.set_cons_zero, List.set_cons_succ, List.getElem_toArray, List.getElem_cons_zero, List.getElem_cons_succ]
        refine (AllReadyH.cons rfl (fun K hK => ?_) AllReadyH.nil)
        rw [if_pos (by rfl)]
        refine upon_copyFi _ _ (by rfl) (V4.heap.size) (by rfl) EB5.out.now a1 n1 c1 s (by rfl) (H.out.2.1.nextFi B5.out) hn1 ?_
        intro vVB V6 jVB hj hv ho hT
        have JVB := Lib.hid hj
        have M6 : Hid (V5.heap.size ≤ V6.heap.size) := Lib.hid hT.size
        have LVB : Hid (jVB < V6.heap.size) := Lib.hid (World.ownsRow.lt ho jVB hv).2
        obtain ⟨pVB, rVB, rfl⟩ := fi_form ho
        have B6 := Lib.hid (B5.out.trans (hT.below B5.out.size (by have q0 := M0.out; have q1 := M1.out; have q2 := M2.out; have q3 := M3.out; have q4 := JVA.out; have q5 := M4.out; have q6 := LVA.out; have q7 := M5.out; have q8 := JVB.out; have q9 := M6.out; have q10 := LVB.out; omega)))
        have X6 := Lib.hid (X5.out.step hT (by have q0 := M0.out; have q1 := M1.out; have q2 := M2.out; have q3 := M3.out; have q4 := JVA.out; have q5 := M4.out; have q6 := LVA.out; have q7 := M5.out; have q8 := JVB.out; have q9 := M6.out; have q10 := LVB.out; omega))
        have R6 := Lib.hid (R5.out.step hT (by have q0 := M0.out; have q1 := M1.out; have q2 := M2.out; have q3 := M3.out; have q4 := JVA.out; have q5 := M4.out; have q6 := LVA.out; have q7 := M5.out; have q8 := JVB.out; have q9 := M6.out; have q10 := LVB.out; omega))
        have EC6 := Lib.hid (EC5.out.step hT (by have q0 := M0.out; have q1 := M1.out; have q2 := M2.out; have q3 := M3.out; have q4 := JVA.out; have q5 := M4.out; have q6 := LVA.out; have q7 := M5.out; have q8 := JVB.out; have q9 := M6.out; have q10 := LVB.out; omega))
        have VA6 := Lib.hid (VA5.out.step hT (by have q0 := M0.out; have q1 := M1.out; have q2 := M2.out; have q3 := M3.out; have q4 := JVA.out; have q5 := M4.out; have q6 := LVA.out; have q7 := M5.out; have q8 := JVB.out; have q9 := M6.out; have q10 := LVB.out; omega))
        have VB6 := Lib.hid (held_copyFi ho hv)
        clear hj hv ho hT B5 X5 R5 EC5 VA5 EB5
        clear hHeld
        refine hK.out _ _ ?_ (fun hHeld => ?_)
        · exact X6.out.now.treDk
        clear hK K
        refine wpAnyH_ready (rs := [11]) (by kernel_rfl) (by simp) ?_
        try simp only [Act.put, List.setIfInBounds_toArray, List.set_cons_zero, List.set_cons_succ, List.getElem_toArray, List.getElem_cons_zero, List.getElem_cons_succ]
        refine (AllReadyH.cons rfl (fun K hK => ?_) AllReadyH.nil)
        rw [if_pos (by rfl)]
        refine upon_copyOp _ _ (by rfl) (V1.heap.size) (by rfl) EC6.out.now a2 n2 c2 o (by rfl) (H.out.2.2.next B6.out) hn2 ?_
        intro vVC V7 jVC hj hv ho hT
        have JVC := Lib.hid hj
        have M7 : Hid (V6.heap.size ≤ V7.heap.size) := Lib.hid hT.size
        have LVC : Hid (jVC < V7.heap.size) := Lib.hid (World.ownsRow.lt ho jVC hv).2
        obtain ⟨pVC, rVC, rfl⟩ := op_form ho
        have B7 := Lib.hid (B6.out.trans (hT.below B6.out.size (by have q0 := M0.out; have q1 := M1.out; have q2 := M2.out; have q3 := M3.out; have q4 := JVA.out; have q5 := M4.out; have q6 := LVA.out; have q7 := M5.out; have q8 := JVB.out; have q9 := M6.out; have q10 := LVB.out; have q11 := JVC.out; have q12 := M7.out; have q13 := LVC.out; omega)))
        have X7 := Lib.hid (X6.out.step hT (by have q0 := M0.out; have q1 := M1.out; have q2 := M2.out; have q3 := M3.out; have q4 := JVA.out; have q5 := M4.out; have q6 := LVA.out; have q7 := M5.out; have q8 := JVB.out; have q9 := M6.out; have q10 := LVB.out; have q11 := JVC.out; have q12 := M7.out; have q13 := LVC.out; omega))
        have R7 := Lib.hid (R6.out.step hT (by have q0 := M0.out; have q1 := M1.out; have q2 := M2.out; have q3 := M3.out; have q4 := JVA.out; have q5 := M4.out; have q6 := LVA.out; have q7 := M5.out; have q8 := JVB.out; have q9 := M6.out; have q10 := LVB.out; have q11 := JVC.out; have q12 := M7.out; have q13 := LVC.out; omega))
        have VA7 := Lib.hid (VA6.out.step hT (by have q0 := M0.out; have q1 := M1.out; have q2 := M2.out; have q3 := M3.out; have q4 := JVA.out; have q5 := M4.out; have q6 := LVA.out; have q7 := M5.out; have q8 := JVB.out; have q9 := M6.out; have q10 := LVB.out; have q11 := JVC.out; have q12 := M7.out; have q13 := LVC.out; omega))
        have VB7 := Lib.hid (VB6.out.step hT (by have q0 := M0.out; have q1 := M1.out; have q2 := M2.out; have q3 := M3.out; have q4 := JVA.out; have q5 := M4.out; have q6 := LVA.out; have q7 := M5.out; have q8 := JVB.out; have q9 := M6.out; have q10 := LVB.out; have q11 := JVC.out; have q12 := M7.out; have q13 := LVC.out; omega))
        have VC7 := Lib.hid (held_copyOp ho hv)
        clear hj hv ho hT B6 X6 R6 EC6 VA6 VB6
        clear hHeld
        refine hK.out _ _ ?_ (fun hHeld => ?_)
        · exact X7.out.now.treDk
        clear hK K
        refine wpAnyH_take (i := 12) (v := ?_) rfl (by kernel_rfl) (by kernel_rfl) (by kernel_rfl) (fun _ _ _ h => h) (Or.inl ⟨by kernel_rfl, ?_⟩) (by assumption) ?_
        rotate_left
        · intro w hSw; (try dsimp only at hSw); go_simp; try with_reducible rfl
        refine wpAnyH_ready (rs := [13]) (by kernel_rfl) (by simp) ?_
        try simp only [Act.put, List.setIfInBounds_toArray, List.set_cons_zero, List.set_cons_succ, List.getElem_toArray, List.getElem_cons_zero, List.getElem_cons_succ]
        refine AllReadyH.cons rfl (fun K hK => ?_) AllReadyH.nil
        obtain ⟨y0, y1, y2⟩ := R7.out.now.treDk
        have f0 := R7.out.now.free 0
        have f1 := R7.out.now.free 1
        have f2 := R7.out.now.free 2
        have TT := turn_s3 V7 (w.heap.size + 1) (.slice pVA l.length rVA) (.slice pVB s.length rVB) (.slice pVC o.length rVC)
        have XX := X7.out.step TT (.inl (Nat.le_refl _))
        have hsz := size_s3 V7 (w.heap.size + 1) (.slice pVA l.length rVA) (.slice pVB s.length rVB) (.slice pVC o.length rVC)
        have BF := B7.out.trans (TT.below B7.out.size (Nat.le_succ _))
        have FVA := VA7.out.step TT (by have q0 := M0.out; have q1 := M1.out; have q2 := M2.out; have q3 := M3.out; have q4 := JVA.out; have q5 := M4.out; have q6 := LVA.out; have q7 := M5.out; have q8 := JVB.out; have q9 := M6.out; have q10 := LVB.out; have q11 := JVC.out; have q12 := M7.out; have q13 := LVC.out; omega)
        have FVB := VB7.out.step TT (by have q0 := M0.out; have q1 := M1.out; have q2 := M2.out; have q3 := M3.out; have q4 := JVA.out; have q5 := M4.out; have q6 := LVA.out; have q7 := M5.out; have q8 := JVB.out; have q9 := M6.out; have q10 := LVB.out; have q11 := JVC.out; have q12 := M7.out; have q13 := LVC.out; omega)
        have FVC := VC7.out.step TT (by have q0 := M0.out; have q1 := M1.out; have q2 := M2.out; have q3 := M3.out; have q4 := JVA.out; have q5 := M4.out; have q6 := LVA.out; have q7 := M5.out; have q8 := JVB.out; have q9 := M6.out; have q10 := LVB.out; have q11 := JVC.out; have q12 := M7.out; have q13 := LVC.out; omega)
        have HF : Hid (Holds w.heap.size (((V7.setCell ⟨w.heap.size + 1, 0, none⟩ (.slice pVA l.length rVA)).setCell ⟨w.heap.size + 1, 1, none⟩ (.slice pVB s.length rVB)).setCell ⟨w.heap.size + 1, 2, none⟩ (.slice pVC o.length rVC)).heap.size (((V7.setCell ⟨w.heap.size + 1, 0, none⟩ (.slice pVA l.length rVA)).setCell ⟨w.heap.size + 1, 1, none⟩ (.slice pVB s.length rVB)).setCell ⟨w.heap.size + 1, 2, none⟩ (.slice pVC o.length rVC)) (OwnDk w.heap.size (((V7.setCell ⟨w.heap.size + 1, 0, none⟩ (.slice pVA l.length rVA)).setCell ⟨w.heap.size + 1, 1, none⟩ (.slice pVB s.length rVB)).setCell ⟨w.heap.size + 1, 2, none⟩ (.slice pVC o.length rVC)).heap.size (.slice pVA l.length rVA) (.slice pVB s.length rVB) (.slice pVC o.length rVC) l s o)) := Lib.hid ⟨ownDk_lives, Nat.le_refl _, ⟨ownP_baseFi FVA.now.1 (by have q0 := M0.out; have q1 := M1.out; have q2 := M2.out; have q3 := M3.out; have q4 := JVA.out; have q5 := M4.out; have q6 := LVA.out; have q7 := M5.out; have q8 := JVB.out; have q9 := M6.out; have q10 := LVB.out; have q11 := JVC.out; have q12 := M7.out; have q13 := LVC.out; omega), fun i hi => by have z1 := FVA.now.2 i hi; have z2 := FVA.le; omega⟩, ⟨ownP_baseFi FVB.now.1 (by have q0 := M0.out; have q1 := M1.out; have q2 := M2.out; have q3 := M3.out; have q4 := JVA.out; have q5 := M4.out; have q6 := LVA.out; have q7 := M5.out; have q8 := JVB.out; have q9 := M6.out; have q10 := LVB.out; have q11 := JVC.out; have q12 := M7.out; have q13 := LVC.out; omega), fun i hi => by have z1 := FVB.now.2 i hi; have z2 := FVB.le; omega⟩, ⟨ownOp_base FVC.now.1 (by have q0 := M0.out; have q1 := M1.out; have q2 := M2.out; have q3 := M3.out; have q4 := JVA.out; have q5 := M4.out; have q6 := LVA.out; have q7 := M5.out; have q8 := JVB.out; have q9 := M6.out; have q10 := LVB.out; have q11 := JVC.out; have q12 := M7.out; have q13 := LVC.out; omega), fun i hi => by have z1 := FVC.now.2 i hi; have z2 := FVC.le; omega⟩, fun i h1 h2 => by have z1 := (World.ownsRow.lt FVA.now.1 i h1).1; have z2 := FVA.now.2 i h1; have z3 := (World.ownsRow.lt FVB.now.1 i h2).1; have z4 := FVB.now.2 i h2; have q0 := M0.out; have q1 := M1.out; have q2 := M2.out; have q3 := M3.out; have q4 := JVA.out; have q5 := M4.out; have q6 := LVA.out; have q7 := M5.out; have q8 := JVB.out; have q9 := M6.out; have q10 := LVB.out; have q11 := JVC.out; have q12 := M7.out; have q13 := LVC.out; omega, fun i h1 h2 => by have z1 := (World.ownsRow.lt FVA.now.1 i h1).1; have z2 := FVA.now.2 i h1; have z3 := (World.ownsRow.lt FVC.now.1 i h2).1; have z4 := FVC.now.2 i h2; have q0 := M0.out; have q1 := M1.out; have q2 := M2.out; have q3 := M3.out; have q4 := JVA.out; have q5 := M4.out; have q6 := LVA.out; have q7 := M5.out; have q8 := JVB.out; have q9 := M6.out; have q10 := LVB.out; have q11 := JVC.out; have q12 := M7.out; have q13 := LVC.out; omega, fun i h1 h2 => by have z1 := (World.ownsRow.lt FVB.now.1 i h1).1; have z2 := FVB.now.2 i h1; have z3 := (World.ownsRow.lt FVC.now.1 i h2).1; have z4 := FVC.now.2 i h2; have q0 := M0.out; have q1 := M1.out; have q2 := M2.out; have q3 := M3.out; have q4 := JVA.out; have q5 := M4.out; have q6 := LVA.out; have q7 := M5.out; have q8 := JVB.out; have q9 := M6.out; have q10 := LVB.out; have q11 := JVC.out; have q12 := M7.out; have q13 := LVC.out; omega⟩
        have HBF := Lib.hid BF
        go_simp
        clear hHeld
        refine hK.out _ _ ?_ (fun hHeld => ?_)
        · exact XX.now.treDk
        clear hK K XX TT BF FVA FVB FVC
        refine wpAnyH_done (by kernel_rfl) ?_ _
        try simp only [Act.put, List.setIfInBounds_toArray, List.set_cons_zero, List.set_cons_succ, List.getElem_toArray, List.getElem_cons_zero, List.getElem_cons_succ]
        go_wp2_with fail
        refine bodyPost_ret (v := .agg #[.slice pVA l.length rVA, .slice pVB s.length rVB, .slice pVC o.length rVC]) (by simp [results, Try.results62, go_sem, *]) rfl ⟨_, _, _, _, _, _, rfl, HF.out, HBF.out⟩
      · go_simp
        have B4 := Lib.hid (B3.out.alloc B3.out.size (.cells #[] 74))
        have X4 := Lib.hid (X3.out.alloc (.cells #[] 74))
        have R4 := Lib.hid (R3.out.alloc (.cells #[] 74))
        have EC4 := Lib.hid (EC3.out.alloc (.cells #[] 74))
        have EA4 := Lib.hid (EA3.out.alloc (.cells #[] 74))
        have EB4 := Lib.hid (cells_new V3 #[] 74)
        have M4 : Hid (V3.heap.size + 1 ≤ (V3.alloc (.cells #[] 74)).heap.size) := Lib.hid (by simp)
        clear hHeld
        refine hK.out _ _ ?_ (fun hHeld => ?_)
        · exact X4.out.now.treDk
        clear hK K B3 X3 R3 EC3 EA3
        generalize V3.alloc (.cells #[] 74) = V4 at B4 M4 X4 R4 EC4 EA4 EB4 hHeld ⊢
        refine wpAnyH_ready (rs := [3]) (by kernel_rfl) (by simp) ?_
        try simp only [Act.put, List.setIfInBounds_toArray, List.set_cons_zero, List.set_cons_succ, List.getElem_toArray, List.getElem_cons_zero, List.getElem_cons_succ]
        refine (AllReadyH.cons rfl (fun K hK => ?_) AllReadyH.nil)
        rw [if_pos (by rfl)]
        refine upon_copyFi _ _ (by rfl) (V2.heap.size) (by rfl) EA4.out.now a0 n0 c0 l (by rfl) (H.out.1.nextFi B4.out) hn0 ?_
        intro vVA V5 jVA hj hv ho hT
        have JVA := Lib.hid hj
        have M5 : Hid (V4.heap.size ≤ V5.heap.size) := Lib.hid hT.size
        have LVA : Hid (jVA < V5.heap.size) := Lib.hid (World.ownsRow.lt ho jVA hv).2
        obtain ⟨pVA, rVA, rfl⟩ := fi_form ho
        have B5 := Lib.hid (B4.out.trans (hT.below B4.out.size (by have q0 := M0.out; have q1 := M1.out; have q2 := M2.out; have q3 := M3.out; have q4 := M4.out; have q5 := JVA.out; have q6 := M5.out; have q7 := LVA.out; omega)))
        have X5 := Lib.hid (X4.out.step hT (by have q0 := M0.out; have q1 := M1.out; have q2 := M2.out; have q3 := M3.out; have q4 := M4.out; have q5 := JVA.out; have q6 := M5.out; have q7 := LVA.out; omega))
        have R5 := Lib.hid (R4.out.step hT (by have q0 := M0.out; have q1 := M1.out; have q2 := M2.out; have q3 := M3.out; have q4 := M4.out; have q5 := JVA.out; have q6 := M5.out; have q7 := LVA.out; omega))
        have EC5 := Lib.hid (EC4.out.step hT (by have q0 := M0.out; have q1 := M1.out; have q2 := M2.out; have q3 := M3.out; have q4 := M4.out; have q5 := JVA.out; have q6 := M5.out; have q7 := LVA.out; omega))
        have EB5 := Lib.hid (EB4.out.step hT (by have q0 := M0.out; have q1 := M1.out; have q2 := M2.out; have q3 := M3.out; have q4 := M4.out; have q5 := JVA.out; have q6 := M5.out; have q7 := LVA.out; omega))
        have VA5 := Lib.hid (held_copyFi ho hv)
        clear hj hv ho hT B4 X4 R4 EC4 EA4 EB4
        clear hHeld
        refine hK.out _ _ ?_ (fun hHeld => ?_)
        · exact X5.out.now.treDk
        clear hK K
        refine wpAnyH_ready (rs := [7]) (by kernel_rfl) (by simp) ?_
        try simp only [Act.put, List.setIfInBounds_toArray, List.set_cons_zero, List.set_cons_succ, List.getElem_toArray, List.getElem_cons_zero, List.getElem_cons_succ]
        refine (AllReadyH.cons rfl (fun K hK => ?_) AllReadyH.nil)
        rw [if_pos (by rfl)]
        refine upon_copyFi _ _ (by rfl) (V3.heap.size) (by rfl) EB5.out.now a1 n1 c1 s (by rfl) (H.out.2.1.nextFi B5.out) hn1 ?_
        intro vVB V6 jVB hj hv ho hT
        have JVB := Lib.hid hj
        have M6 : Hid (V5.heap.size ≤ V6.heap.size) := Lib.hid hT.size
        have LVB : Hid (jVB < V6.heap.size) := Lib.hid (World.ownsRow.lt ho jVB hv).2
        obtain ⟨pVB, rVB, rfl⟩ := fi_form ho
        have B6 := Lib.hid (B5.out.trans (hT.below B5.out.size (by have q0 := M0.out; have q1 := M1.out; have q2 := M2.out; have q3 := M3.out; have q4 := M4.out; have q5 := JVA.out; have q6 := M5.out; have q7 := LVA.out; have q8 := JVB.out; have q9 := M6.out; have q10 := LVB.out; omega)))
        have X6 := Lib.hid (X5.out.step hT (by have q0 := M0.out; have q1 := M1.out; have q2 := M2.out; have q3 := M3.out; have q4 := M4.out; have q5 := JVA.out; have q6 := M5.out; have q7 := LVA.out; have q8 := JVB.out; have q9 := M6.out; have q10 := LVB.out; omega))
        have R6 := Lib.hid (R5.out.step hT (by have q0 := M0.out; have q1 := M1.out; have q2 := M2.out; have q3 := M3.out; have q4 := M4.out; have q5 := JVA.out; have q6 := M5.out; have q7 := LVA.out; have q8 := JVB.out; have q9 := M6.out; have q10 := LVB.out; omega))
        have EC6 := Lib.hid (EC5.out.step hT (by have q0 := M0.out; have q1 := M1.out; have q2 := M2.out; have q3 := M3.out; have q4 := M4.out; have q5 := JVA.out; have q6 := M5.out; have q7 := LVA.out; have q8 := JVB.out; have q9 := M6.out; have q10 := LVB.out; omega))
        have VA6 := Lib.hid (VA5.out.step hT (by have q0 := M0.out; have q1 := M1.out; have q2 := M2.out; have q3 := M3.out; have q4 := M4.out; have q5 := JVA.out; have q6 := M5.out; have q7 := LVA.out; have q8 := JVB.out; have q9 := M6.out; have q10 := LVB.out; omega))
        have VB6 := Lib.hid (held_copyFi ho hv)
        clear hj hv ho hT B5 X5 R5 EC5 EB5 VA5
        clear hHeld
        refine hK.out _ _ ?_ (fun hHeld => ?_)
        · exact X6.out.now.treDk
        clear hK K
        refine wpAnyH_ready (rs := [11]) (by kernel_rfl) (by simp) ?_
        try simp only [Act.put, List.setIfInBounds_toArray, List.set_cons_zero, List.set_cons_succ, List.getElem_toArray, List.getElem_cons_zero, List.getElem_cons_succ]
        refine (AllReadyH.cons rfl (fun K hK => ?_) AllReadyH.nil)
        rw [if_pos (by rfl)]
        refine upon_copyOp _ _ (by rfl) (V1.heap.size) (by rfl) EC6.out.now a2 n2 c2 o (by rfl) (H.out.2.2.next B6.out) hn2 ?_
        intro vVC V7 jVC hj hv ho hT
        have JVC := Lib.hid hj
        have M7 : Hid (V6.heap.size ≤ V7.heap.size) := Lib.hid hT.size
        have LVC : Hid (jVC < V7.heap.size) := Lib.hid (World.ownsRow.lt ho jVC hv).2
        obtain ⟨pVC, rVC, rfl⟩ := op_form ho
        have B7 := Lib.hid (B6.out.trans (hT.below B6.out.size (by have q0 := M0.out; have q1 := M1.out; have q2 := M2.out; have q3 := M3.out; have q4 := M4.out; have q5 := JVA.out; have q6 := M5.out; have q7 := LVA.out; have q8 := JVB.out; have q9 := M6.out; have q10 := LVB.out; have q11 := JVC.out; have q12 := M7.out; have q13 := LVC.out; omega)))
        have X7 := Lib.hid (X6.out.step hT (by have q0 := M0.out; have q1 := M1.out; have q2 := M2.out; have q3 := M3.out; have q4 := M4.out; have q5 := JVA.out; have q6 := M5.out; have q7 := LVA.out; have q8 := JVB.out; have q9 := M6.out; have q10 := LVB.out; have q11 := JVC.out; have q12 := M7.out; have q13 := LVC.out; omega))
        have R7 := Lib.hid (R6.out.step hT (by have q0 := M0.out; have q1 := M1.out; have q2 := M2.out; have q3 := M3.out; have q4 := M4.out; have q5 := JVA.out; have q6 := M5.out; have q7 := LVA.out; have q8 := JVB.out; have q9 := M6.out; have q10 := LVB.out; have q11 := JVC.out; have q12 := M7.out; have q13 := LVC.out; omega))
        have VA7 := Lib.hid (VA6.out.step hT (by have q0 := M0.out; have q1 := M1.out; have q2 := M2.out; have q3 := M3.out; have q4 := M4.out; have q5 := JVA.out; have q6 := M5.out; have q7 := LVA.out; have q8 := JVB.out; have q9 := M6.out; have q10 := LVB.out; have q11 := JVC.out; have q12 := M7.out; have q13 := LVC.out; omega))
        have VB7 := Lib.hid (VB6.out.step hT (by have q0 := M0.out; have q1 := M1.out; have q2 := M2.out; have q3 := M3.out; have q4 := M4.out; have q5 := JVA.out; have q6 := M5.out; have q7 := LVA.out; have q8 := JVB.out; have q9 := M6.out; have q10 := LVB.out; have q11 := JVC.out; have q12 := M7.out; have q13 := LVC.out; omega))
        have VC7 := Lib.hid (held_copyOp ho hv)
        clear hj hv ho hT B6 X6 R6 EC6 VA6 VB6
        clear hHeld
        refine hK.out _ _ ?_ (fun hHeld => ?_)
        · exact X7.out.now.treDk
        clear hK K
        refine wpAnyH_take (i := 12) (v := ?_) rfl (by kernel_rfl) (by kernel_rfl) (by kernel_rfl) (fun _ _ _ h => h) (Or.inl ⟨by kernel_rfl, ?_⟩) (by assumption) ?_
        rotate_left
        · intro w hSw; (try dsimp only at hSw); go_simp; try with_reducible rfl
        refine wpAnyH_ready (rs := [13]) (by kernel_rfl) (by simp) ?_
        try simp only [Act.put, List.setIfInBounds_toArray, List.set_cons_zero, List.set_cons_succ, List.getElem_toArray, List.getElem_cons_zero, List.getElem_cons_succ]
        refine AllReadyH.cons rfl (fun K hK => ?_) AllReadyH.nil
        obtain ⟨y0, y1, y2⟩ := R7.out.now.treDk
        have f0 := R7.out.now.free 0
        have f1 := R7.out.now.free 1
        have f2 := R7.out.now.free 2
        have TT := turn_s3 V7 (w.heap.size + 1) (.slice pVA l.length rVA) (.slice pVB s.length rVB) (.slice pVC o.length rVC)
        have XX := X7.out.step TT (.inl (Nat.le_refl _))
        have hsz := size_s3 V7 (w.heap.size + 1) (.slice pVA l.length rVA) (.slice pVB s.length rVB) (.slice pVC o.length rVC)
        have BF := B7.out.trans (TT.below B7.out.size (Nat.le_succ _))
        have FVA := VA7.out.step TT (by have q0 := M0.out; have q1 := M1.out; have q2 := M2.out; have q3 := M3.out; have q4 := M4.out; have q5 := JVA.out; have q6 := M5.out; have q7 := LVA.out; have q8 := JVB.out; have q9 := M6.out; have q10 := LVB.out; have q11 := JVC.out; have q12 := M7.out; have q13 := LVC.out; omega)
        have FVB := VB7.out.step TT (by have q0 := M0.out; have q1 := M1.out; have q2 := M2.out; have q3 := M3.out; have q4 := M4.out; have q5 := JVA.out; have q6 := M5.out; have q7 := LVA.out; have q8 := JVB.out; have q9 := M6.out; have q10 := LVB.out; have q11 := JVC.out; have q12 := M7.out; have q13 := LVC.out; omega)
        have FVC := VC7.out.step TT (by have q0 := M0.out; have q1 := M1.out; have q2 := M2.out; have q3 := M3.out; have q4 := M4.out; have q5 := JVA.out; have q6 := M5.out; have q7 := LVA.out; have q8 := JVB.out; have q9 := M6.out; have q10 := LVB.out; have q11 := JVC.out; have q12 := M7.out; have q13 := LVC.out; omega)
        have HF : Hid (Holds w.heap.size (((V7.setCell ⟨w.heap.size + 1, 0, none⟩ (.slice pVA l.length rVA)).setCell ⟨w.heap.size + 1, 1, none⟩ (.slice pVB s.length rVB)).setCell ⟨w.heap.size + 1, 2, none⟩ (.slice pVC o.length rVC)).heap.size (((V7.setCell ⟨w.heap.size + 1, 0, none⟩ (.slice pVA l.length rVA)).setCell ⟨w.heap.size + 1, 1, none⟩ (.slice pVB s.length rVB)).setCell ⟨w.heap.size + 1, 2, none⟩ (.slice pVC o.length rVC)) (OwnDk w.heap.size (((V7.setCell ⟨w.heap.size + 1, 0, none⟩ (.slice pVA l.length rVA)).setCell ⟨w.heap.size + 1, 1, none⟩ (.slice pVB s.length rVB)).setCell ⟨w.heap.size + 1, 2, none⟩ (.slice pVC o.length rVC)).heap.size (.slice pVA l.length rVA) (.slice pVB s.length rVB) (.slice pVC o.length rVC) l s o)) := Lib.hid ⟨ownDk_lives, Nat.le_refl _, ⟨ownP_baseFi FVA.now.1 (by have q0 := M0.out; have q1 := M1.out; have q2 := M2.out; have q3 := M3.out; have q4 := M4.out; have q5 := JVA.out; have q6 := M5.out; have q7 := LVA.out; have q8 := JVB.out; have q9 := M6.out; have q10 := LVB.out; have q11 := JVC.out; have q12 := M7.out; have q13 := LVC.out; omega), fun i hi => by have z1 := FVA.now.2 i hi; have z2 := FVA.le; omega⟩, ⟨ownP_baseFi FVB.now.1 (by have q0 := M0.out; have q1 := M1.out; have q2 := M2.out; have q3 := M3.out; have q4 := M4.out; have q5 := JVA.out; have q6 := M5.out; have q7 := LVA.out; have q8 := JVB.out; have q9 := M6.out; have q10 := LVB.out; have q11 := JVC.out; have q12 := M7.out; have q13 := LVC.out; omega), fun i hi => by have z1 := FVB.now.2 i hi; have z2 := FVB.le; omega⟩, ⟨ownOp_base FVC.now.1 (by have q0 := M0.out; have q1 := M1.out; have q2 := M2.out; have q3 := M3.out; have q4 := M4.out; have q5 := JVA.out; have q6 := M5.out; have q7 := LVA.out; have q8 := JVB.out; have q9 := M6.out; have q10 := LVB.out; have q11 := JVC.out; have q12 := M7.out; have q13 := LVC.out; omega), fun i hi => by have z1 := FVC.now.2 i hi; have z2 := FVC.le; omega⟩, fun i h1 h2 => by have z1 := (World.ownsRow.lt FVA.now.1 i h1).1; have z2 := FVA.now.2 i h1; have z3 := (World.ownsRow.lt FVB.now.1 i h2).1; have z4 := FVB.now.2 i h2; have q0 := M0.out; have q1 := M1.out; have q2 := M2.out; have q3 := M3.out; have q4 := M4.out; have q5 := JVA.out; have q6 := M5.out; have q7 := LVA.out; have q8 := JVB.out; have q9 := M6.out; have q10 := LVB.out; have q11 := JVC.out; have q12 := M7.out; have q13 := LVC.out; omega, fun i h1 h2 => by have z1 := (World.ownsRow.lt FVA.now.1 i h1).1; have z2 := FVA.now.2 i h1; have z3 := (World.ownsRow.lt FVC.now.1 i h2).1; have z4 := FVC.now.2 i h2; have q0 := M0.out; have q1 := M1.out; have q2 := M2.out; have q3 := M3.out; have q4 := M4.out; have q5 := JVA.out; have q6 := M5.out; have q7 := LVA.out; have q8 := JVB.out; have q9 := M6.out; have q10 := LVB.out; have q11 := JVC.out; have q12 := M7.out; have q13 := LVC.out; omega, fun i h1 h2 => by have z1 := (World.ownsRow.lt FVB.now.1 i h1).1; have z2 := FVB.now.2 i h1; have z3 := (World.ownsRow.lt FVC.now.1 i h2).1; have z4 := FVC.now.2 i h2; have q0 := M0.out; have q1 := M1.out; have q2 := M2.out; have q3 := M3.out; have q4 := M4.out; have q5 := JVA.out; have q6 := M5.out; have q7 := LVA.out; have q8 := JVB.out; have q9 := M6.out; have q10 := LVB.out; have q11 := JVC.out; have q12 := M7.out; have q13 := LVC.out; omega⟩
        have HBF := Lib.hid BF
        go_simp
        clear hHeld
        refine hK.out _ _ ?_ (fun hHeld => ?_)
        · exact XX.now.treDk
        clear hK K XX TT BF FVA FVB FVC
        refine wpAnyH_done (by kernel_rfl) ?_ _
        try simp only [Act.put, List.setIfInBounds_toArray, List.set_cons_zero, List.set_cons_succ, List.getElem_toArray, List.getElem_cons_zero, List.getElem_cons_succ]
        go_wp2_with fail
        refine bodyPost_ret (v := .agg #[.slice pVA l.length rVA, .slice pVB s.length rVB, .slice pVC o.length rVC]) (by simp [results, Try.results62, go_sem, *]) rfl ⟨_, _, _, _, _, _, rfl, HF.out, HBF.out⟩
    · go_simp
      have B3 := Lib.hid (B2.out.alloc B2.out.size (.cells #[] 74))
      have X3 := Lib.hid (X2.out.alloc (.cells #[] 74))
      have R3 := Lib.hid (R2.out.alloc (.cells #[] 74))
      have EC3 := Lib.hid (EC2.out.alloc (.cells #[] 74))
      have EB3 := Lib.hid (cells_new V2 #[] 74)
      have M3 : Hid (V2.heap.size + 1 ≤ (V2.alloc (.cells #[] 74)).heap.size) := Lib.hid (by simp)
      clear hHeld
      refine hK.out _ _ ?_ (fun hHeld => ?_)
      · exact X3.out.now.treDk
      clear hK K B2 X2 R2 EC2
      generalize V2.alloc (.cells #[] 74) = V3 at B3 M3 X3 R3 EC3 EB3 hHeld ⊢
      refine wpAnyH_ready (rs := [0]) (by kernel_rfl) (by simp) ?_
      try simp only [Act.put, List.setIfInBounds_toArray, List.set_cons_zero, List.set_cons_succ, List.getElem_toArray, List.getElem_cons_zero, List.getElem_cons_succ]
      refine (AllReadyH.cons rfl (fun K hK => ?_) AllReadyH.nil)
      go_simp
      have B4 := Lib.hid (B3.out.alloc B3.out.size (.cells #[] 74))
      have X4 := Lib.hid (X3.out.alloc (.cells #[] 74))
      have R4 := Lib.hid (R3.out.alloc (.cells #[] 74))
      have EC4 := Lib.hid (EC3.out.alloc (.cells #[] 74))
      have EB4 := Lib.hid (EB3.out.alloc (.cells #[] 74))
      have EA4 := Lib.hid (cells_new V3 #[] 74)
      have M4 : Hid (V3.heap.size + 1 ≤ (V3.alloc (.cells #[] 74)).heap.size) := Lib.hid (by simp)
      clear hHeld
      refine hK.out _ _ ?_ (fun hHeld => ?_)
      · exact X4.out.now.treDk
      clear hK K B3 X3 R3 EC3 EB3
      generalize V3.alloc (.cells #[] 74) = V4 at B4 M4 X4 R4 EC4 EB4 EA4 hHeld ⊢
      refine wpAnyH_ready (rs := [3]) (by kernel_rfl) (by simp) ?_
      try simp only [Act.put, List.setIfInBounds_toArray, List.set_cons_zero, List.set_cons_succ, List.getElem_toArray, List.getElem_cons_zero, List.getElem_cons_succ]
      refine (AllReadyH.cons rfl (fun K hK => ?_) AllReadyH.nil)
      rw [if_pos (by rfl)]
      refine upon_copyFi _ _ (by rfl) (V3.heap.size) (by rfl) EA4.out.now a0 n0 c0 l (by rfl) (H.out.1.nextFi B4.out) hn0 ?_
      intro vVA V5 jVA hj hv ho hT
      have JVA := Lib.hid hj
      have M5 : Hid (V4.heap.size ≤ V5.heap.size) := Lib.hid hT.size
      have LVA : Hid (jVA < V5.heap.size) := Lib.hid (World.ownsRow.lt ho jVA hv).2
      obtain ⟨pVA, rVA, rfl⟩ := fi_form ho
      have B5 := Lib.hid (B4.out.trans (hT.below B4.out.size (by have q0 := M0.out; have q1 := M1.out; have q2 := M2.out; have q3 := M3.out; have q4 := M4.out; have q5 := JVA.out; have q6 := M5.out; have q7 := LVA.out; omega)))
      have X5 := Lib.hid (X4.out.step hT (by have q0 := M0.out; have q1 := M1.out; have q2 := M2.out; have q3 := M3.out; have q4 := M4.out; have q5 := JVA.out; have q6 := M5.out; have q7 := LVA.out; omega))
      have R5 := Lib.hid (R4.out.step hT (by have q0 := M0.out; have q1 := M1.out; have q2 := M2.out; have q3 := M3.out; have q4 := M4.out; have q5 := JVA.out; have q6 := M5.out; have q7 := LVA.out; omega))
      have EC5 := Lib.hid (EC4.out.step hT (by have q0 := M0.out; have q1 := M1.out; have q2 := M2.out; have q3 := M3.out; have q4 := M4.out; have q5 := JVA.out; have q6 := M5.out; have q7 := LVA.out; omega))
      have EB5 := Lib.hid (EB4.out.step hT (by have q0 := M0.out; have q1 := M1.out; have q2 := M2.out; have q3 := M3.out; have q4 := M4.out; have q5 := JVA.out; have q6 := M5.out; have q7 := LVA.out; omega))
      have VA5 := Lib.hid (held_copyFi ho hv)
      clear hj hv ho hT B4 X4 R4 EC4 EB4 EA4
      clear hHeld
      refine hK.out _ _ ?_ (fun hHeld => ?_)
      · exact X5.out.now.treDk
      clear hK K
      refine wpAnyH_ready (rs := [7]) (by kernel_rfl) (by simp) ?_
      try simp only [Act.put, List.setIfInBounds_toArray, List.set_cons_zero, List.set_cons_succ, List.getElem_toArray, List.getElem_cons_zero, List.getElem_cons_succ]
      refine (AllReadyH.cons rfl (fun K hK => ?_) AllReadyH.nil)
      rw [if_pos (by rfl)]
      refine upon_copyFi _ _ (by rfl) (V2.heap.size) (by rfl) EB5.out.now a1 n1 c1 s (by rfl) (H.out.2.1.nextFi B5.out) hn1 ?_
      intro vVB V6 jVB hj hv ho hT
      have JVB := Lib.hid hj
      have M6 : Hid (V5.heap.size ≤ V6.heap.size) := Lib.hid hT.size
      have LVB : Hid (jVB < V6.heap.size) := Lib.hid (World.ownsRow.lt ho jVB hv).2
      obtain ⟨pVB, rVB, rfl⟩ := fi_form ho
      have B6 := Lib.hid (B5.out.trans (hT.below B5.out.size (by have q0 := M0.out; have q1 := M1.out; have q2 := M2.out; have q3 := M3.out; have q4 := M4.out; have q5 := JVA.out; have q6 := M5.out; have q7 := LVA.out; have q8 := JVB.out; have q9 := M6.out; have q10 := LVB.out; omega)))
      have X6 := Lib.hid (X5.out.step hT (by have q0 := M0.out; have q1 := M1.out; have q2 := M2.out; have q3 := M3.out; have q4 := M4.out; have q5 := JVA.out; have q6 := M5.out; have q7 := LVA.out; have q8 := JVB.out; have q9 := M6.out; have q10 := LVB.out; omega))
      have R6 := Lib.hid (R5.out.step hT (by have q0 := M0.out; have q1 := M1.out; have q2 := M2.out; have q3 := M3.out; have q4 := M4.out; have q5 := JVA.out; have q6 := M5.out; have q7 := LVA.out; have q8 := JVB.out; have q9 := M6.out; have q10 := LVB.out; omega))
      have EC6 := Lib.hid (EC5.out.step hT (by have q0 := M0.out; have q1 := M1.out; have q2 := M2.out; have q3 := M3.out; have q4 := M4.out; have q5 := JVA.out; have q6 := M5.out; have q7 := LVA.out; have q8 := JVB.out; have q9 := M6.out; have q10 := LVB.out; omega))
      have VA6 := Lib.hid (VA5.out.step hT (by have q0 := M0.out; have q1 := M1.out; have q2 := M2.out; have q3 := M3.out; have q4 := M4.out; have q5 := JVA.out; have q6 := M5.out; have q7 := LVA.out; have q8 := JVB.out; have q9 := M6.out; have q10 := LVB.out; omega))
      have VB6 := Lib.hid (held_copyFi ho hv)
      clear hj hv ho hT B5 X5 R5 EC5 EB5 VA5
      clear hHeld
      refine hK.out _ _ ?_ (fun hHeld => ?_)
      · exact X6.out.now.treDk
      clear hK K
      refine wpAnyH_ready (rs := [11]) (by kernel_rfl) (by simp) ?_
      try simp only [Act.put, List.setIfInBounds_toArray, List.set_cons_zero, List.set_cons_succ, List.getElem_toArray, List.getElem_cons_zero, List.getElem_cons_succ]
      refine (AllReadyH.cons rfl (fun K hK => ?_) AllReadyH.nil)
      rw [if_pos (by rfl)]
      refine upon_copyOp _ _ (by rfl) (V1.heap.size) (by rfl) EC6.out.now a2 n2 c2 o (by rfl) (H.out.2.2.next B6.out) hn2 ?_
      intro vVC V7 jVC hj hv ho hT
      have JVC := Lib.hid hj
      have M7 : Hid (V6.heap.size ≤ V7.heap.size) := Lib.hid hT.size
      have LVC : Hid (jVC < V7.heap.size) := Lib.hid (World.ownsRow.lt ho jVC hv).2
      obtain ⟨pVC, rVC, rfl⟩ := op_form ho
      have B7 := Lib.hid (B6.out.trans (hT.below B6.out.size (by have q0 := M0.out; have q1 := M1.out; have q2 := M2.out; have q3 := M3.out; have q4 := M4.out; have q5 := JVA.out; have q6 := M5.out; have q7 := LVA.out; have q8 := JVB.out; have q9 := M6.out; have q10 := LVB.out; have q11 := JVC.out; have q12 := M7.out; have q13 := LVC.out; omega)))
      have X7 := Lib.hid (X6.out.step hT (by have q0 := M0.out; have q1 := M1.out; have q2 := M2.out; have q3 := M3.out; have q4 := M4.out; have q5 := JVA.out; have q6 := M5.out; have q7 := LVA.out; have q8 := JVB.out; have q9 := M6.out; have q10 := LVB.out; have q11 := JVC.out; have q12 := M7.out; have q13 := LVC.out; omega))
      have R7 := Lib.hid (R6.out.step hT (by have q0 := M0.out; have q1 := M1.out; have q2 := M2.out; have q3 := M3.out; have q4 := M4.out; have q5 := JVA.out; have q6 := M5.out; have q7 := LVA.out; have q8 := JVB.out; have q9 := M6.out; have q10 := LVB.out; have q11 := JVC.out; have q12 := M7.out; have q13 := LVC.out; omega))
      have VA7 := Lib.hid (VA6.out.step hT (by have q0 := M0.out; have q1 := M1.out; have q2 := M2.out; have q3 := M3.out; have q4 := M4.out; have q5 := JVA.out; have q6 := M5.out; have q7 := LVA.out; have q8 := JVB.out; have q9 := M6.out; have q10 := LVB.out; have q11 := JVC.out; have q12 := M7.out; have q13 := LVC.out; omega))
      have VB7 := Lib.hid (VB6.out.step hT (by have q0 := M0.out; have q1 := M1.out; have q2 := M2.out; have q3 := M3.out; have q4 := M4.out; have q5 := JVA.out; have q6 := M5.out; have q7 := LVA.out; have q8 := JVB.out; have q9 := M6.out; have q10 := LVB.out; have q11 := JVC.out; have q12 := M7.out; have q13 := LVC.out; omega))
      have VC7 := Lib.hid (held_copyOp ho hv)
      clear hj hv ho hT B6 X6 R6 EC6 VA6 VB6
      clear hHeld
      refine hK.out _ _ ?_ (fun hHeld => ?_)
      · exact X7.out.now.treDk
      clear hK K
      refine wpAnyH_take (i := 12) (v := ?_) rfl (by kernel_rfl) (by kernel_rfl) (by kernel_rfl) (fun _ _ _ h => h) (Or.inl ⟨by kernel_rfl, ?_⟩) (by assumption) ?_
      rotate_left
      · intro w hSw; (try dsimp only at hSw); go_simp; try with_reducible rfl
      refine wpAnyH_ready (rs := [13]) (by kernel_rfl) (by simp) ?_
      try simp only [Act.put, List.setIfInBounds_toArray, List.set_cons_zero, List.set_cons_succ, List.getElem_toArray, List.getElem_cons_zero, List.getElem_cons_succ]
      refine AllReadyH.cons rfl (fun K hK => ?_) AllReadyH.nil
      obtain ⟨y0, y1, y2⟩ := R7.out.now.treDk
      have f0 := R7.out.now.free 0
      have f1 := R7.out.now.free 1
      have f2 := R7.out.now.free 2
      have TT := turn_s3 V7 (w.heap.size + 1) (.slice pVA l.length rVA) (.slice pVB s.length rVB) (.slice pVC o.length rVC)
      have XX := X7.out.step TT (.inl (Nat.le_refl _))
      have hsz := size_s3 V7 (w.heap.size + 1) (.slice pVA l.length rVA) (.slice pVB s.length rVB) (.slice pVC o.length rVC)
      have BF := B7.out.trans (TT.below B7.out.size (Nat.le_succ _))
      have FVA := VA7.out.step TT (by have q0 := M0.out; have q1 := M1.out; have q2 := M2.out; have q3 := M3.out; have q4 := M4.out; have q5 := JVA.out; have q6 := M5.out; have q7 := LVA.out; have q8 := JVB.out; have q9 := M6.out; have q10 := LVB.out; have q11 := JVC.out; have q12 := M7.out; have q13 := LVC.out; omega)
      have FVB := VB7.out.step TT (by have q0 := M0.out; have q1 := M1.out; have q2 := M2.out; have q3 := M3.out; have q4 := M4.out; have q5 := JVA.out; have q6 := M5.out; have q7 := LVA.out; have q8 := JVB.out; have q9 := M6.out; have q10 := LVB.out; have q11 := JVC.out; have q12 := M7.out; have q13 := LVC.out; omega)
      have FVC := VC7.out.step TT (by have q0 := M0.out; have q1 := M1.out; have q2 := M2.out; have q3 := M3.out; have q4 := M4.out; have q5 := JVA.out; have q6 := M5.out; have q7 := LVA.out; have q8 := JVB.out; have q9 := M6.out; have q10 := LVB.out; have q11 := JVC.out; have q12 := M7.out; have q13 := LVC.out; omega)
      have HF : Hid (Holds w.heap.size (((V7.setCell ⟨w.heap.size + 1, 0, none⟩ (.slice pVA l.length rVA)).setCell ⟨w.heap.size + 1, 1, none⟩ (.slice pVB s.length rVB)).setCell ⟨w.heap.size + 1, 2, none⟩ (.slice pVC o.length rVC)).heap.size (((V7.setCell ⟨w.heap.size + 1, 0, none⟩ (.slice pVA l.length rVA)).setCell ⟨w.heap.size + 1, 1, none⟩ (.slice pVB s.length rVB)).setCell ⟨w.heap.size + 1, 2, none⟩ (.slice pVC o.length rVC)) (OwnDk w.heap.size (((V7.setCell ⟨w.heap.size + 1, 0, none⟩ (.slice pVA l.length rVA)).setCell ⟨w.heap.size + 1, 1, none⟩ (.slice pVB s.length rVB)).setCell ⟨w.heap.size + 1, 2, none⟩ (.slice pVC o.length rVC)).heap.size (.slice pVA l.length rVA) (.slice pVB s.length rVB) (.slice pVC o.length rVC) l s o)) := Lib.hid ⟨ownDk_lives, Nat.le_refl _, ⟨ownP_baseFi FVA.now.1 (by have q0 := M0.out; have q1 := M1.out; have q2 := M2.out; have q3 := M3.out; have q4 := M4.out; have q5 := JVA.out; have q6 := M5.out; have q7 := LVA.out; have q8 := JVB.out; have q9 := M6.out; have q10 := LVB.out; have q11 := JVC.out; have q12 := M7.out; have q13 := LVC.out; omega), fun i hi => by have z1 := FVA.now.2 i hi; have z2 := FVA.le; omega⟩, ⟨ownP_baseFi FVB.now.1 (by have q0 := M0.out; have q1 := M1.out; have q2 := M2.out; have q3 := M3.out; have q4 := M4.out; have q5 := JVA.out; have q6 := M5.out; have q7 := LVA.out; have q8 := JVB.out; have q9 := M6.out; have q10 := LVB.out; have q11 := JVC.out; have q12 := M7.out; have q13 := LVC.out; omega), fun i hi => by have z1 := FVB.now.2 i hi; have z2 := FVB.le; omega⟩, ⟨ownOp_base FVC.now.1 (by have q0 := M0.out; have q1 := M1.out; have q2 := M2.out; have q3 := M3.out; have q4 := M4.out; have q5 := JVA.out; have q6 := M5.out; have q7 := LVA.out; have q8 := JVB.out; have q9 := M6.out; have q10 := LVB.out; have q11 := JVC.out; have q12 := M7.out; have q13 := LVC.out; omega), fun i hi => by have z1 := FVC.now.2 i hi; have z2 := FVC.le; omega⟩, fun i h1 h2 => by have z1 := (World.ownsRow.lt FVA.now.1 i h1).1; have z2 := FVA.now.2 i h1; have z3 := (World.ownsRow.lt FVB.now.1 i h2).1; have z4 := FVB.now.2 i h2; have q0 := M0.out; have q1 := M1.out; have q2 := M2.out; have q3 := M3.out; have q4 := M4.out; have q5 := JVA.out; have q6 := M5.out; have q7 := LVA.out; have q8 := JVB.out; have q9 := M6.out; have q10 := LVB.out; have q11 := JVC.out; have q12 := M7.out; have q13 := LVC.out; omega, fun i h1 h2 => by have z1 := (World.ownsRow.lt FVA.now.1 i h1).1; have z2 := FVA.now.2 i h1; have z3 := (World.ownsRow.lt FVC.now.1 i h2).1; have z4 := FVC.now.2 i h2; have q0 := M0.out; have q1 := M1.out; have q2 := M2.out; have q3 := M3.out; have q4 := M4.out; have q5 := JVA.out; have q6 := M5.out; have q7 := LVA.out; have q8 := JVB.out; have q9 := M6.out; have q10 := LVB.out; have q11 := JVC.out; have q12 := M7.out; have q13 := LVC.out; omega, fun i h1 h2 => by have z1 := (World.ownsRow.lt FVB.now.1 i h1).1; have z2 := FVB.now.2 i h1; have z3 := (World.ownsRow.lt FVC.now.1 i h2).1; have z4 := FVC.now.2 i h2; have q0 := M0.out; have q1 := M1.out; have q2 := M2.out; have q3 := M3.out; have q4 := M4.out; have q5 := JVA.out; have q6 := M5.out; have q7 := LVA.out; have q8 := JVB.out; have q9 := M6.out; have q10 := LVB.out; have q11 := JVC.out; have q12 := M7.out; have q13 := LVC.out; omega⟩
      have HBF := Lib.hid BF
      go_simp
      clear hHeld
      refine hK.out _ _ ?_ (fun hHeld => ?_)
      · exact XX.now.treDk
      clear hK K XX TT BF FVA FVB FVC
      refine wpAnyH_done (by kernel_rfl) ?_ _
      try simp only [Act.put, List.setIfInBounds_toArray, List.set_cons_zero, List.set_cons_succ, List.getElem_toArray, List.getElem_cons_zero, List.getElem_cons_succ]
      go_wp2_with fail
      refine bodyPost_ret (v := .agg #[.slice pVA l.length rVA, .slice pVB s.length rVB, .slice pVC o.length rVC]) (by simp [results, Try.results62, go_sem, *]) rfl ⟨_, _, _, _, _, _, rfl, HF.out, HBF.out⟩
set_option maxRecDepth 100000 in
set_option maxHeartbeats 6400000 in
theorem implCopyDk (a0 a1 a2 : Option Addr) (n0 n1 n2 c0 c1 c2 : Nat) (l s : List Pre2) (o : List OpV) (w : World) (h : IsDk w a0 a1 a2 n0 n1 n2 c0 c1 c2 l s o) (hn : n0 ≤ 1048576 ∧ n1 ≤ 1048576 ∧ n2 ≤ 1048576) :
    Calls Try.prog 60 #[.agg #[.slice a0 n0 c0, .slice a1 n1 c1, .slice a2 n2 c2]] w (DkPost l s o w) := by
  obtain ⟨W1, hW1⟩ : ∃ W, w.alloc (.cells #[.slice a0 n0 c0, .slice a1 n1 c1, .slice a2 n2 c2] 27) = W := ⟨_, rfl⟩
  obtain ⟨W2, hW2⟩ : ∃ W, W1.alloc (.cells #[.slice none 0 0, .slice none 0 0, .slice none 0 0] 27) = W := ⟨_, rfl⟩
  have z1 : W1.heap.size = w.heap.size + 1 := by rw [← hW1]; simp
  have z2 : W2.heap.size = w.heap.size + 2 := by rw [← hW2]; simp [z1]
  have B0 : Hid (Below w.heap.size w W2) := Lib.hid (by rw [← hW2, ← hW1]; exact ((Below.refl w.heap.size w).alloc (Nat.le_refl _) _).alloc (by simp) _)
  have X0 : Hid (Holds w.heap.size (w.heap.size + 1) W2 (Cells w.heap.size #[.slice a0 n0 c0, .slice a1 n1 c1, .slice a2 n2 c2] 27)) := Lib.hid (by rw [← hW2, ← hW1]; exact (cells_new w _ _).alloc _)
  have R0 : Hid (Holds (w.heap.size + 1) (w.heap.size + 2) W2 (Cells (w.heap.size + 1) #[.slice none 0 0, .slice none 0 0, .slice none 0 0] 27)) := Lib.hid (by
    have := cells_new W1 #[.slice none 0 0, .slice none 0 0, .slice none 0 0] 27
    rw [hW2, z1] at this; exact this)
  have HW := Lib.hid (And.intro hW1 hW2)
  have M0 : Hid (w.heap.size + 2 ≤ W2.heap.size) := Lib.hid (by omega)
  have H := Lib.hid h
  obtain ⟨hn0, hn1, hn2⟩ := hn
  clear h hW1 hW2 z1 z2
  go_enter Try.func60, Try.ntmps60
  go_wp2_with fail
  rw [HW.out.1, HW.out.2]
  have B1 := Lib.hid B0.out.drew
  have X1 := Lib.hid X0.out.drew
  have R1 := Lib.hid R0.out.drew
  clear B0 X0 R0
  refine wp_region_held_drew (S := (fun w' => w'.cell? ⟨w.heap.size, 0, none⟩ = some (.slice a0 n0 c0) ∧ w'.cell? ⟨w.heap.size, 1, none⟩ = some (.slice a1 n1 c1) ∧ w'.cell? ⟨w.heap.size, 2, none⟩ = some (.slice a2 n2 c2))) (by kernel_rfl) ?_ (fun hHeld => ?_)
  · exact X1.out.now.treDk
  have M1 : Hid (W2.heap.size ≤ W2.drew.heap.size) := Lib.hid (Nat.le_refl _)
  generalize hV1 : W2.drew = V1 at B1 X1 R1 M1 hHeld ⊢
  clear hV1
  refine wpAnyH_take (i := 0) (v := ?_) rfl (by kernel_rfl) (by kernel_rfl) (by kernel_rfl) (fun _ _ _ h => h) (Or.inl ⟨by kernel_rfl, ?_⟩) (by assumption) ?_
  rotate_left
  · intro w hSw; (try dsimp only at hSw); go_simp; try with_reducible rfl
  refine wpAnyH_take (i := 1) (v := ?_) rfl (by kernel_rfl) (by kernel_rfl) (by kernel_rfl) (fun _ _ _ h => h) (Or.inl ⟨by kernel_rfl, ?_⟩) (by assumption) ?_
  rotate_left
  · intro w hSw; (try dsimp only at hSw); go_simp; try with_reducible rfl
  refine wpAnyH_take (i := 3) (v := ?_) rfl (by kernel_rfl) (by kernel_rfl) (by kernel_rfl) (fun _ _ _ h => h) (Or.inl ⟨by kernel_rfl, ?_⟩) (by assumption) ?_
  rotate_left
  · intro w hSw; (try dsimp only at hSw); go_simp; try with_reducible rfl
  refine wpAnyH_take (i := 4) (v := ?_) rfl (by kernel_rfl) (by kernel_rfl) (by kernel_rfl) (fun _ _ _ h => h) (Or.inl ⟨by kernel_rfl, ?_⟩) (by assumption) ?_
  rotate_left
  · intro w hSw; (try dsimp only at hSw); go_simp; try with_reducible rfl
  refine wpAnyH_take (i := 6) (v := ?_) rfl (by kernel_rfl) (by kernel_rfl) (by kernel_rfl) (fun _ _ _ h => h) (Or.inl ⟨by kernel_rfl, ?_⟩) (by assumption) ?_
  rotate_left
  · intro w hSw; (try dsimp only at hSw); go_simp; try with_reducible rfl
  refine wpAnyH_take (i := 7) (v := ?_) rfl (by kernel_rfl) (by kernel_rfl) (by kernel_rfl) (fun _ _ _ h => h) (Or.inl ⟨by kernel_rfl, ?_⟩) (by assumption) ?_
  rotate_left
  · intro w hSw; (try dsimp only at hSw); go_simp; try with_reducible rfl
  refine wpAnyH_ready (rs := [2]) (by kernel_rfl) (by simp) ?_
  try simp only [Act.put, List.setIfInBounds_toArray, List.set_cons_zero, List.set_cons_succ, List.getElem_toArray, List.getElem_cons_zero, List.getElem_cons_succ]
  refine (AllReadyH.cons rfl (fun K hK => ?_) AllReadyH.nil)
  go_simp
  refine (cloneFi a0 n0 c0 l _ (H.out.1.nextFi B1.out) hn0).mono ?_
  rintro e V2 ⟨vVA, rfl, ho, hb⟩
  obtain ⟨pVA, rVA, rfl⟩ := fi_form ho
  have M2 : Hid (V1.heap.size ≤ V2.heap.size) := Lib.hid hb.size
  have B2 := Lib.hid (B1.out.trans (hb.mono B1.out.size))
  have X2 := Lib.hid (X1.out.next hb)
  have R2 := Lib.hid (R1.out.next hb)
  have hh : Holds V1.heap.size V2.heap.size V2 (OwnPCFi V1.heap.size V2.heap.size (.slice pVA l.length rVA) l) := ⟨ownPC_livesFi, Nat.le_refl _, ho, fun j hj => (World.ownsRow.lt ho j hj).2⟩
  have VA2 := Lib.hid hh
  clear ho hb hh B1 X1 R1
  go_wp2_with fail
  clear hHeld
  refine hK.out _ _ ?_ (fun hHeld => ?_)
  · exact X2.out.now.treDk
  clear hK K
  refine wpAnyH_ready (rs := [5]) (by kernel_rfl) (by simp) ?_
  try simp only [Act.put, List.setIfInBounds_toArray, List.set_cons_zero, List.set_cons_succ, List.getElem_toArray, List.getElem_cons_zero, List.getElem_cons_succ]
  refine (AllReadyH.cons rfl (fun K hK => ?_) AllReadyH.nil)
  go_simp
  refine (cloneFi a1 n1 c1 s _ (H.out.2.1.nextFi B2.out) hn1).mono ?_
  rintro e V3 ⟨vVB, rfl, ho, hb⟩
  obtain ⟨pVB, rVB, rfl⟩ := fi_form ho
  have M3 : Hid (V2.heap.size ≤ V3.heap.size) := Lib.hid hb.size
  have B3 := Lib.hid (B2.out.trans (hb.mono B2.out.size))
  have X3 := Lib.hid (X2.out.next hb)
  have R3 := Lib.hid (R2.out.next hb)
  have VA3 := Lib.hid (VA2.out.next hb)
  have hh : Holds V2.heap.size V3.heap.size V3 (OwnPCFi V2.heap.size V3.heap.size (.slice pVB s.length rVB) s) := ⟨ownPC_livesFi, Nat.le_refl _, ho, fun j hj => (World.ownsRow.lt ho j hj).2⟩
  have VB3 := Lib.hid hh
  clear ho hb hh B2 X2 R2 VA2
  go_wp2_with fail
  clear hHeld
  refine hK.out _ _ ?_ (fun hHeld => ?_)
  · exact X3.out.now.treDk
  clear hK K
  refine wpAnyH_ready (rs := [8]) (by kernel_rfl) (by simp) ?_
  try simp only [Act.put, List.setIfInBounds_toArray, List.set_cons_zero, List.set_cons_succ, List.getElem_toArray, List.getElem_cons_zero, List.getElem_cons_succ]
  refine (AllReadyH.cons rfl (fun K hK => ?_) AllReadyH.nil)
  go_simp
  refine (cloneOp a2 n2 c2 o _ (H.out.2.2.next B3.out) hn2).mono ?_
  rintro e V4 ⟨vVC, rfl, ho, hb⟩
  obtain ⟨pVC, rVC, rfl⟩ := op_form ho
  have M4 : Hid (V3.heap.size ≤ V4.heap.size) := Lib.hid hb.size
  have B4 := Lib.hid (B3.out.trans (hb.mono B3.out.size))
  have X4 := Lib.hid (X3.out.next hb)
  have R4 := Lib.hid (R3.out.next hb)
  have VA4 := Lib.hid (VA3.out.next hb)
  have VB4 := Lib.hid (VB3.out.next hb)
  have hh : Holds V3.heap.size V4.heap.size V4 (OwnOpC V3.heap.size V4.heap.size (.slice pVC o.length rVC) o) := ⟨ownOpC_lives, Nat.le_refl _, ho, fun j hj => (World.ownsRow.lt ho j hj).2⟩
  have VC4 := Lib.hid hh
  clear ho hb hh B3 X3 R3 VA3 VB3
  go_wp2_with fail
  clear hHeld
  refine hK.out _ _ ?_ (fun hHeld => ?_)
  · exact X4.out.now.treDk
  clear hK K
  refine wpAnyH_take (i := 9) (v := ?_) rfl (by kernel_rfl) (by kernel_rfl) (by kernel_rfl) (fun _ _ _ h => h) (Or.inl ⟨by kernel_rfl, ?_⟩) (by assumption) ?_
  rotate_left
  · intro w hSw; (try dsimp only at hSw); go_simp; try with_reducible rfl
  refine wpAnyH_ready (rs := [10]) (by kernel_rfl) (by simp) ?_
  try simp only [Act.put, List.setIfInBounds_toArray, List.set_cons_zero, List.set_cons_succ, List.getElem_toArray, List.getElem_cons_zero, List.getElem_cons_succ]
  refine AllReadyH.cons rfl (fun K hK => ?_) AllReadyH.nil
  obtain ⟨y0, y1, y2⟩ := R4.out.now.treDk
  have f0 := R4.out.now.free 0
  have f1 := R4.out.now.free 1
  have f2 := R4.out.now.free 2
  have TT := turn_s3 V4 (w.heap.size + 1) (.slice pVA l.length rVA) (.slice pVB s.length rVB) (.slice pVC o.length rVC)
  have XX := X4.out.step TT (.inl (Nat.le_refl _))
  have hsz := size_s3 V4 (w.heap.size + 1) (.slice pVA l.length rVA) (.slice pVB s.length rVB) (.slice pVC o.length rVC)
  have BF := B4.out.trans (TT.below B4.out.size (Nat.le_succ _))
  have FVA := VA4.out.step TT (by have q0 := M0.out; have q1 := M1.out; have q2 := M2.out; have q3 := M3.out; have q4 := M4.out; omega)
  have FVB := VB4.out.step TT (by have q0 := M0.out; have q1 := M1.out; have q2 := M2.out; have q3 := M3.out; have q4 := M4.out; omega)
  have FVC := VC4.out.step TT (by have q0 := M0.out; have q1 := M1.out; have q2 := M2.out; have q3 := M3.out; have q4 := M4.out; omega)
  have HF : Hid (Holds w.heap.size (((V4.setCell ⟨w.heap.size + 1, 0, none⟩ (.slice pVA l.length rVA)).setCell ⟨w.heap.size + 1, 1, none⟩ (.slice pVB s.length rVB)).setCell ⟨w.heap.size + 1, 2, none⟩ (.slice pVC o.length rVC)).heap.size (((V4.setCell ⟨w.heap.size + 1, 0, none⟩ (.slice pVA l.length rVA)).setCell ⟨w.heap.size + 1, 1, none⟩ (.slice pVB s.length rVB)).setCell ⟨w.heap.size + 1, 2, none⟩ (.slice pVC o.length rVC)) (OwnDk w.heap.size (((V4.setCell ⟨w.heap.size + 1, 0, none⟩ (.slice pVA l.length rVA)).setCell ⟨w.heap.size + 1, 1, none⟩ (.slice pVB s.length rVB)).setCell ⟨w.heap.size + 1, 2, none⟩ (.slice pVC o.length rVC)).heap.size (.slice pVA l.length rVA) (.slice pVB s.length rVB) (.slice pVC o.length rVC) l s o)) := Lib.hid ⟨ownDk_lives, Nat.le_refl _, ⟨ownP_baseFi FVA.now.1 (by have q0 := M0.out; have q1 := M1.out; have q2 := M2.out; have q3 := M3.out; have q4 := M4.out; omega), fun i hi => by have z1 := FVA.now.2 i hi; have z2 := FVA.le; omega⟩, ⟨ownP_baseFi FVB.now.1 (by have q0 := M0.out; have q1 := M1.out; have q2 := M2.out; have q3 := M3.out; have q4 := M4.out; omega), fun i hi => by have z1 := FVB.now.2 i hi; have z2 := FVB.le; omega⟩, ⟨ownOp_base FVC.now.1 (by have q0 := M0.out; have q1 := M1.out; have q2 := M2.out; have q3 := M3.out; have q4 := M4.out; omega), fun i hi => by have z1 := FVC.now.2 i hi; have z2 := FVC.le; omega⟩, fun i h1 h2 => by have z1 := (World.ownsRow.lt FVA.now.1 i h1).1; have z2 := FVA.now.2 i h1; have z3 := (World.ownsRow.lt FVB.now.1 i h2).1; have z4 := FVB.now.2 i h2; have q0 := M0.out; have q1 := M1.out; have q2 := M2.out; have q3 := M3.out; have q4 := M4.out; omega, fun i h1 h2 => by have z1 := (World.ownsRow.lt FVA.now.1 i h1).1; have z2 := FVA.now.2 i h1; have z3 := (World.ownsRow.lt FVC.now.1 i h2).1; have z4 := FVC.now.2 i h2; have q0 := M0.out; have q1 := M1.out; have q2 := M2.out; have q3 := M3.out; have q4 := M4.out; omega, fun i h1 h2 => by have z1 := (World.ownsRow.lt FVB.now.1 i h1).1; have z2 := FVB.now.2 i h1; have z3 := (World.ownsRow.lt FVC.now.1 i h2).1; have z4 := FVC.now.2 i h2; have q0 := M0.out; have q1 := M1.out; have q2 := M2.out; have q3 := M3.out; have q4 := M4.out; omega⟩
  have HBF := Lib.hid BF
  go_simp
  clear hHeld
  refine hK.out _ _ ?_ (fun hHeld => ?_)
  · exact XX.now.treDk
  clear hK K XX TT BF FVA FVB FVC
  refine wpAnyH_done (by kernel_rfl) ?_ _
  try simp only [Act.put, List.setIfInBounds_toArray, List.set_cons_zero, List.set_cons_succ, List.getElem_toArray, List.getElem_cons_zero, List.getElem_cons_succ]
  go_wp2_with fail
  refine bodyPost_ret (v := .agg #[.slice pVA l.length rVA, .slice pVB s.length rVB, .slice pVC o.length rVC]) (by simp [results, Try.results60, go_sem, *]) rfl ⟨_, _, _, _, _, _, rfl, HF.out, HBF.out⟩
set_option maxRecDepth 100000 in
set_option maxHeartbeats 6400000 in
theorem implSynced (a0 a1 a2 : Option Addr) (n0 n1 n2 c0 c1 c2 : Nat) (l s : List Pre2) (o : List OpV) (w : World) (h : IsDk w a0 a1 a2 n0 n1 n2 c0 c1 c2 l s o) (hn : n0 ≤ 1048576 ∧ n1 ≤ 1048576 ∧ n2 ≤ 1048576) :
    Calls Try.prog 50 #[.agg #[.slice a0 n0 c0, .slice a1 n1 c1, .slice a2 n2 c2]] w (DkPost l l [] w) := by
  obtain ⟨W1, hW1⟩ : ∃ W, w.alloc (.cells #[.slice a0 n0 c0, .slice a1 n1 c1, .slice a2 n2 c2] 27) = W := ⟨_, rfl⟩
  obtain ⟨W2, hW2⟩ : ∃ W, W1.alloc (.cells #[.slice none 0 0, .slice none 0 0, .slice none 0 0] 27) = W := ⟨_, rfl⟩
  have z1 : W1.heap.size = w.heap.size + 1 := by rw [← hW1]; simp
  have z2 : W2.heap.size = w.heap.size + 2 := by rw [← hW2]; simp [z1]
  have B0 : Hid (Below w.heap.size w W2) := Lib.hid (by rw [← hW2, ← hW1]; exact ((Below.refl w.heap.size w).alloc (Nat.le_refl _) _).alloc (by simp) _)
  have X0 : Hid (Holds w.heap.size (w.heap.size + 1) W2 (Cells w.heap.size #[.slice a0 n0 c0, .slice a1 n1 c1, .slice a2 n2 c2] 27)) := Lib.hid (by rw [← hW2, ← hW1]; exact (cells_new w _ _).alloc _)
  have R0 : Hid (Holds (w.heap.size + 1) (w.heap.size + 2) W2 (Cells (w.heap.size + 1) #[.slice none 0 0, .slice none 0 0, .slice none 0 0] 27)) := Lib.hid (by
    have := cells_new W1 #[.slice none 0 0, .slice none 0 0, .slice none 0 0] 27
    rw [hW2, z1] at this; exact this)
  have HW := Lib.hid (And.intro hW1 hW2)
  have M0 : Hid (w.heap.size + 2 ≤ W2.heap.size) := Lib.hid (by omega)
  have H := Lib.hid h
  obtain ⟨hn0, hn1, hn2⟩ := hn
  clear h hW1 hW2 z1 z2
  go_enter Try.func50, Try.ntmps50
  go_wp2_with fail
  rw [HW.out.1, HW.out.2]
  have B1 := Lib.hid B0.out.drew
  have X1 := Lib.hid X0.out.drew
  have R1 := Lib.hid R0.out.drew
  clear B0 X0 R0
  refine wp_region_held_drew (S := (fun w' => w'.cell? ⟨w.heap.size, 0, none⟩ = some (.slice a0 n0 c0) ∧ w'.cell? ⟨w.heap.size, 1, none⟩ = some (.slice a1 n1 c1) ∧ w'.cell? ⟨w.heap.size, 2, none⟩ = some (.slice a2 n2 c2))) (by kernel_rfl) ?_ (fun hHeld => ?_)
  · exact X1.out.now.treDk
  have M1 : Hid (W2.heap.size ≤ W2.drew.heap.size) := Lib.hid (Nat.le_refl _)
  generalize hV1 : W2.drew = V1 at B1 X1 R1 M1 hHeld ⊢
  clear hV1
  refine wpAnyH_take (i := 0) (v := ?_) rfl (by kernel_rfl) (by kernel_rfl) (by kernel_rfl) (fun _ _ _ h => h) (Or.inl ⟨by kernel_rfl, ?_⟩) (by assumption) ?_
  rotate_left
  · intro w hSw; (try dsimp only at hSw); go_simp; try with_reducible rfl
  refine wpAnyH_take (i := 1) (v := ?_) rfl (by kernel_rfl) (by kernel_rfl) (by kernel_rfl) (fun _ _ _ h => h) (Or.inl ⟨by kernel_rfl, ?_⟩) (by assumption) ?_
  rotate_left
  · intro w hSw; (try dsimp only at hSw); go_simp; try with_reducible rfl
  refine wpAnyH_take (i := 3) (v := ?_) rfl (by kernel_rfl) (by kernel_rfl) (by kernel_rfl) (fun _ _ _ h => h) (Or.inl ⟨by kernel_rfl, ?_⟩) (by assumption) ?_
  rotate_left
  · intro w hSw; (try dsimp only at hSw); go_simp; try with_reducible rfl
  refine wpAnyH_take (i := 4) (v := ?_) rfl (by kernel_rfl) (by kernel_rfl) (by kernel_rfl) (fun _ _ _ h => h) (Or.inl ⟨by kernel_rfl, ?_⟩) (by assumption) ?_
  rotate_left
  · intro w hSw; (try dsimp only at hSw); go_simp; try with_reducible rfl
  refine wpAnyH_ready (rs := [2]) (by kernel_rfl) (by simp) ?_
  try simp only [Act.put, List.setIfInBounds_toArray, List.set_cons_zero, List.set_cons_succ, List.getElem_toArray, List.getElem_cons_zero, List.getElem_cons_succ]
  refine (AllReadyH.cons rfl (fun K hK => ?_) AllReadyH.nil)
  go_simp
  refine (cloneFi a0 n0 c0 l _ (H.out.1.nextFi B1.out) hn0).mono ?_
  rintro e V2 ⟨vVA, rfl, ho, hb⟩
  obtain ⟨pVA, rVA, rfl⟩ := fi_form ho
  have M2 : Hid (V1.heap.size ≤ V2.heap.size) := Lib.hid hb.size
  have B2 := Lib.hid (B1.out.trans (hb.mono B1.out.size))
  have X2 := Lib.hid (X1.out.next hb)
  have R2 := Lib.hid (R1.out.next hb)
  have hh : Holds V1.heap.size V2.heap.size V2 (OwnPCFi V1.heap.size V2.heap.size (.slice pVA l.length rVA) l) := ⟨ownPC_livesFi, Nat.le_refl _, ho, fun j hj => (World.ownsRow.lt ho j hj).2⟩
  have VA2 := Lib.hid hh
  clear ho hb hh B1 X1 R1
  go_wp2_with fail
  clear hHeld
  refine hK.out _ _ ?_ (fun hHeld => ?_)
  · exact X2.out.now.treDk
  clear hK K
  refine wpAnyH_ready (rs := [5]) (by kernel_rfl) (by simp) ?_
  try simp only [Act.put, List.setIfInBounds_toArray, List.set_cons_zero, List.set_cons_succ, List.getElem_toArray, List.getElem_cons_zero, List.getElem_cons_succ]
  refine (AllReadyH.cons rfl (fun K hK => ?_) AllReadyH.nil)
  go_simp
  refine (cloneFi a0 n0 c0 l _ (H.out.1.nextFi B2.out) hn0).mono ?_
  rintro e V3 ⟨vVB, rfl, ho, hb⟩
  obtain ⟨pVB, rVB, rfl⟩ := fi_form ho
  have M3 : Hid (V2.heap.size ≤ V3.heap.size) := Lib.hid hb.size
  have B3 := Lib.hid (B2.out.trans (hb.mono B2.out.size))
  have X3 := Lib.hid (X2.out.next hb)
  have R3 := Lib.hid (R2.out.next hb)
  have VA3 := Lib.hid (VA2.out.next hb)
  have hh : Holds V2.heap.size V3.heap.size V3 (OwnPCFi V2.heap.size V3.heap.size (.slice pVB l.length rVB) l) := ⟨ownPC_livesFi, Nat.le_refl _, ho, fun j hj => (World.ownsRow.lt ho j hj).2⟩
  have VB3 := Lib.hid hh
  clear ho hb hh B2 X2 R2 VA2
  go_wp2_with fail
  clear hHeld
  refine hK.out _ _ ?_ (fun hHeld => ?_)
  · exact X3.out.now.treDk
  clear hK K
  refine wpAnyH_take (i := 6) (v := ?_) rfl (by kernel_rfl) (by kernel_rfl) (by kernel_rfl) (fun _ _ _ h => h) (Or.inl ⟨by kernel_rfl, ?_⟩) (by assumption) ?_
  rotate_left
  · intro w hSw; (try dsimp only at hSw); go_simp; try with_reducible rfl
  refine wpAnyH_ready (rs := [7]) (by kernel_rfl) (by simp) ?_
  try simp only [Act.put, List.setIfInBounds_toArray, List.set_cons_zero, List.set_cons_succ, List.getElem_toArray, List.getElem_cons_zero, List.getElem_cons_succ]
  refine AllReadyH.cons rfl (fun K hK => ?_) AllReadyH.nil
  obtain ⟨y0, y1, y2⟩ := R3.out.now.treDk
  have f0 := R3.out.now.free 0
  have f1 := R3.out.now.free 1
  have f2 := R3.out.now.free 2
  have TT := turn_s3 V3 (w.heap.size + 1) (.slice pVA l.length rVA) (.slice pVB l.length rVB) (.slice none 0 0)
  have XX := X3.out.step TT (.inl (Nat.le_refl _))
  have hsz := size_s3 V3 (w.heap.size + 1) (.slice pVA l.length rVA) (.slice pVB l.length rVB) (.slice none 0 0)
  have BF := B3.out.trans (TT.below B3.out.size (Nat.le_succ _))
  have FVA := VA3.out.step TT (by have q0 := M0.out; have q1 := M1.out; have q2 := M2.out; have q3 := M3.out; omega)
  have FVB := VB3.out.step TT (by have q0 := M0.out; have q1 := M1.out; have q2 := M2.out; have q3 := M3.out; omega)
  have HF : Hid (Holds w.heap.size (((V3.setCell ⟨w.heap.size + 1, 0, none⟩ (.slice pVA l.length rVA)).setCell ⟨w.heap.size + 1, 1, none⟩ (.slice pVB l.length rVB)).setCell ⟨w.heap.size + 1, 2, none⟩ (.slice none 0 0)).heap.size (((V3.setCell ⟨w.heap.size + 1, 0, none⟩ (.slice pVA l.length rVA)).setCell ⟨w.heap.size + 1, 1, none⟩ (.slice pVB l.length rVB)).setCell ⟨w.heap.size + 1, 2, none⟩ (.slice none 0 0)) (OwnDk w.heap.size (((V3.setCell ⟨w.heap.size + 1, 0, none⟩ (.slice pVA l.length rVA)).setCell ⟨w.heap.size + 1, 1, none⟩ (.slice pVB l.length rVB)).setCell ⟨w.heap.size + 1, 2, none⟩ (.slice none 0 0)).heap.size (.slice pVA l.length rVA) (.slice pVB l.length rVB) (.slice none 0 0) l l [])) := Lib.hid ⟨ownDk_lives, Nat.le_refl _, ⟨ownP_baseFi FVA.now.1 (by have q0 := M0.out; have q1 := M1.out; have q2 := M2.out; have q3 := M3.out; omega), fun i hi => by have z1 := FVA.now.2 i hi; have z2 := FVA.le; omega⟩, ⟨ownP_baseFi FVB.now.1 (by have q0 := M0.out; have q1 := M1.out; have q2 := M2.out; have q3 := M3.out; omega), fun i hi => by have z1 := FVB.now.2 i hi; have z2 := FVB.le; omega⟩, ⟨World.ownsRow_nil .., fun i hi => by simp [Value.ownBlock] at hi⟩, fun i h1 h2 => by have z1 := (World.ownsRow.lt FVA.now.1 i h1).1; have z2 := FVA.now.2 i h1; have z3 := (World.ownsRow.lt FVB.now.1 i h2).1; have z4 := FVB.now.2 i h2; have q0 := M0.out; have q1 := M1.out; have q2 := M2.out; have q3 := M3.out; omega, fun i _ h2 => by simp [Value.ownBlock] at h2, fun i _ h2 => by simp [Value.ownBlock] at h2⟩
  have HBF := Lib.hid BF
  go_simp
  clear hHeld
  refine hK.out _ _ ?_ (fun hHeld => ?_)
  · exact XX.now.treDk
  clear hK K XX TT BF FVA FVB
  refine wpAnyH_done (by kernel_rfl) ?_ _
  try simp only [Act.put, List.setIfInBounds_toArray, List.set_cons_zero, List.set_cons_succ, List.getElem_toArray, List.getElem_cons_zero, List.getElem_cons_succ]
  go_wp2_with fail
  refine bodyPost_ret (v := .agg #[.slice pVA l.length rVA, .slice pVB l.length rVB, .slice none 0 0]) (by simp [results, Try.results50, go_sem, *]) rfl ⟨_, _, _, _, _, _, rfl, HF.out, HBF.out⟩
end Go.Proofs.Ytamnlifdfhmbnaa
/- A disk synced: both sides. -/
namespace Go.Proofs.Ytamnlifdfhmbnaa
open Go.RowKit Go.WideShapes
theorem ownDk_widen {B C B' C' : Nat} {w : World} {a0 a1 a2 : Option Addr} {n0 n1 n2 c0 c1 c2 : Nat} {l s : List Pre2} {o : List OpV} (h : OwnDk B C (.slice a0 n0 c0) (.slice a1 n1 c1) (.slice a2 n2 c2) l s o w) (hB : B' ≤ B) (hC : C ≤ C') : OwnDk B' C' (.slice a0 n0 c0) (.slice a1 n1 c1) (.slice a2 n2 c2) l s o w :=
  ⟨⟨ownP_baseFi h.1.1 hB, fun j hj => Nat.lt_of_lt_of_le (h.1.2 j hj) hC⟩, ⟨ownP_baseFi h.2.1.1 hB, fun j hj => Nat.lt_of_lt_of_le (h.2.1.2 j hj) hC⟩, ⟨ownOp_base h.2.2.1.1 hB, fun j hj => Nat.lt_of_lt_of_le (h.2.2.1.2 j hj) hC⟩, h.2.2.2⟩
theorem holdsDk_widen {B C B' C' : Nat} {w : World} {a0 a1 a2 : Option Addr} {n0 n1 n2 c0 c1 c2 : Nat} {l s : List Pre2} {o : List OpV} (h : Holds B C w (OwnDk B C (.slice a0 n0 c0) (.slice a1 n1 c1) (.slice a2 n2 c2) l s o)) (hB : B' ≤ B) (hC : C ≤ C') (hl : C' ≤ w.heap.size) : Holds B' C' w (OwnDk B' C' (.slice a0 n0 c0) (.slice a1 n1 c1) (.slice a2 n2 c2) l s o) :=
  ⟨ownDk_lives, hl, ownDk_widen h.now hB hC⟩
/-- An empty disk. -/
theorem ownDk_nil (B C : Nat) (w : World) : OwnDk B C (.slice none 0 0) (.slice none 0 0) (.slice none 0 0) [] [] [] w :=
  ⟨⟨World.ownsRow_nil .., fun j h => by simp [Value.ownBlock] at h⟩, ⟨World.ownsRow_nil .., fun j h => by simp [Value.ownBlock] at h⟩, ⟨World.ownsRow_nil .., fun j h => by simp [Value.ownBlock] at h⟩, fun j h => by simp [Value.ownBlock] at h, fun j h => by simp [Value.ownBlock] at h, fun j h => by simp [Value.ownBlock] at h⟩
set_option maxRecDepth 100000 in
set_option maxHeartbeats 6400000 in
theorem implSync (a0 a1 a2 : Option Addr) (n0 n1 n2 c0 c1 c2 : Nat) (l s : List Pre2) (o : List OpV) (w : World) (h : IsDk w a0 a1 a2 n0 n1 n2 c0 c1 c2 l s o) (hz : SmDk l s o) (hn : n0 ≤ 1048576 ∧ n1 ≤ 1048576 ∧ n2 ≤ 1048576) :
    Calls Try.prog 16 #[.agg #[.slice a0 n0 c0, .slice a1 n1 c1, .slice a2 n2 c2]] w (DkPost (syncF l s o) (syncF l s o) [] w) := by
  obtain ⟨W1, hW1⟩ : ∃ W, w.alloc (.cells #[.slice a0 n0 c0, .slice a1 n1 c1, .slice a2 n2 c2] 27) = W := ⟨_, rfl⟩
  obtain ⟨W2, hW2⟩ : ∃ W, W1.alloc (.cells #[.slice none 0 0, .slice none 0 0, .slice none 0 0] 27) = W := ⟨_, rfl⟩
  have z1 : W1.heap.size = w.heap.size + 1 := by rw [← hW1]; simp
  have z2 : W2.heap.size = w.heap.size + 2 := by rw [← hW2]; simp [z1]
  have B0 : Hid (Below w.heap.size w W2) := Lib.hid (by rw [← hW2, ← hW1]; exact ((Below.refl w.heap.size w).alloc (Nat.le_refl _) _).alloc (by simp) _)
  have X0 : Hid (Holds w.heap.size (w.heap.size + 1) W2 (Cells w.heap.size #[.slice a0 n0 c0, .slice a1 n1 c1, .slice a2 n2 c2] 27)) := Lib.hid (by rw [← hW2, ← hW1]; exact (cells_new w _ _).alloc _)
  have R0 : Hid (Holds (w.heap.size + 1) (w.heap.size + 2) W2 (Cells (w.heap.size + 1) #[.slice none 0 0, .slice none 0 0, .slice none 0 0] 27)) := Lib.hid (by
    have := cells_new W1 #[.slice none 0 0, .slice none 0 0, .slice none 0 0] 27
    rw [hW2, z1] at this; exact this)
  have HW := Lib.hid (And.intro hW1 hW2)
  have M0 : Hid (w.heap.size + 2 ≤ W2.heap.size) := Lib.hid (by omega)
  have H := Lib.hid h
  have HZ := Lib.hid hz
  have HN := Lib.hid hn
  obtain ⟨hn0, hn1, hn2⟩ := hn
  have DO := implDiskOk a0 a1 a2 n0 n1 n2 c0 c1 c2 l s o _ (h.next B0.out) hz HN.out
  have x0 := X0.out.now.at 0
  have x1 := X0.out.now.at 1
  have x2 := X0.out.now.at 2
  clear h hz hW1 hW2 z1 z2
  cases q : diskOk l s o
  · rw [q] at DO
    have D := Lib.hid DO
    have HR : Hid (syncF l s o = []) := Lib.hid (by unfold syncF; rw [q, if_neg (by decide)])
    rw [HR.out]
    clear q DO
    go_enter Try.func16, Try.ntmps16
    go_wp2_with fail
    rw [HW.out.1, HW.out.2]
    refine D.out.mono ?_
    rintro e w1 ⟨rfl, hb1⟩
    have B1 := Lib.hid (B0.out.trans (hb1.mono B0.out.size))
    have R1 := Lib.hid (R0.out.next hb1)
    have lz := hb1.size
    have lM := M0.out
    obtain ⟨y0, y1, y2⟩ := R1.out.now.treDk
    have f0 := R1.out.now.free 0
    have f1 := R1.out.now.free 1
    have f2 := R1.out.now.free 2
    have TT := turn_s3 w1 (w.heap.size + 1) (.slice none 0 0) (.slice none 0 0) (.slice none 0 0)
    have BF := Lib.hid (B1.out.trans (TT.below B1.out.size (Nat.le_succ _)))
    clear TT hb1 B0 R0 X0 x0 x1 x2 B1 R1
    go_wp2_with fail
    refine bodyPost_ret (v := .agg #[.slice none 0 0, .slice none 0 0, .slice none 0 0]) (by simp [results, Try.results16, go_sem, *]) rfl ⟨none, 0, none, 0, none, 0, rfl, ⟨ownDk_lives, Nat.le_refl _, ownDk_nil _ _ _⟩, BF.out⟩
  rw [q] at DO
  have D := Lib.hid DO
  have HR : Hid (syncF l s o = l) := Lib.hid (by unfold syncF; rw [q, if_pos rfl])
  rw [HR.out]
  clear q DO
  go_enter Try.func16, Try.ntmps16
  go_wp2_with fail
  rw [HW.out.1, HW.out.2]
  refine D.out.mono ?_
  rintro e w1 ⟨rfl, hb1⟩
  have B1 := Lib.hid (B0.out.trans (hb1.mono B0.out.size))
  have R1 := Lib.hid (R0.out.next hb1)
  have X1 := Lib.hid (X0.out.next hb1)
  have MW : Hid (w.heap.size + 2 ≤ w1.heap.size) := Lib.hid (by have := M0.out; have := hb1.size; omega)
  clear hb1 B0 R0 X0 x0 x1 x2
  have x0 := X1.out.now.at 0
  have x1 := X1.out.now.at 1
  have x2 := X1.out.now.at 2
  go_wp2_with fail
  refine (implSynced a0 a1 a2 n0 n1 n2 c0 c1 c2 l s o w1 (H.out.next B1.out) HN.out).mono ?_
  rintro e w2 ⟨p0, r0, p1, r1, p2, r2, rfl, hh, hb2⟩
  have B2 := Lib.hid (B1.out.trans (hb2.mono B1.out.size))
  have R2 := Lib.hid (R1.out.next hb2)
  have hle := MW.out
  have hle2 := hb2.size
  obtain ⟨y0, y1, y2⟩ := R2.out.now.treDk
  have f0 := R2.out.now.free 0
  have f1 := R2.out.now.free 1
  have f2 := R2.out.now.free 2
  have TT := turn_s3 w2 (w.heap.size + 1) (.slice p0 l.length r0) (.slice p1 l.length r1) (.slice p2 0 r2)
  have hsz := size_s3 w2 (w.heap.size + 1) (.slice p0 l.length r0) (.slice p1 l.length r1) (.slice p2 0 r2)
  have BF := Lib.hid (B2.out.trans (TT.below B2.out.size (Nat.le_succ _)))
  have HF := Lib.hid (hh.step TT (.inr (by omega)))
  have HS := Lib.hid hsz
  clear TT hb2 hh B1 R1 X1 x0 x1 x2 B2 R2 hsz
  go_wp2_with fail
  refine bodyPost_ret (v := .agg #[.slice p0 l.length r0, .slice p1 l.length r1, .slice p2 0 r2]) (by simp [results, Try.results16, go_sem, *]) rfl ⟨p0, r0, p1, r1, p2, r2, rfl, holdsDk_widen HF.out (by omega) (by rw [HS.out]; exact Nat.le_refl _) (Nat.le_refl _), BF.out⟩
set_option maxRecDepth 100000 in
set_option maxHeartbeats 6400000 in
theorem specSync (a0 a1 a2 : Option Addr) (n0 n1 n2 c0 c1 c2 : Nat) (l s : List Pre2) (o : List OpV) (w : World) (h : IsDk w a0 a1 a2 n0 n1 n2 c0 c1 c2 l s o) (hz : SmDk l s o) (hn : n0 ≤ 1048576 ∧ n1 ≤ 1048576 ∧ n2 ≤ 1048576) :
    Calls Try.prog 32 #[.agg #[.slice a0 n0 c0, .slice a1 n1 c1, .slice a2 n2 c2]] w (DkPost (syncF l s o) (syncF l s o) [] w) := by
  obtain ⟨W1, hW1⟩ : ∃ W, w.alloc (.cells #[.slice a0 n0 c0, .slice a1 n1 c1, .slice a2 n2 c2] 27) = W := ⟨_, rfl⟩
  obtain ⟨W2, hW2⟩ : ∃ W, W1.alloc (.cells #[.slice none 0 0, .slice none 0 0, .slice none 0 0] 27) = W := ⟨_, rfl⟩
  have z1 : W1.heap.size = w.heap.size + 1 := by rw [← hW1]; simp
  have z2 : W2.heap.size = w.heap.size + 2 := by rw [← hW2]; simp [z1]
  have B0 : Hid (Below w.heap.size w W2) := Lib.hid (by rw [← hW2, ← hW1]; exact ((Below.refl w.heap.size w).alloc (Nat.le_refl _) _).alloc (by simp) _)
  have X0 : Hid (Holds w.heap.size (w.heap.size + 1) W2 (Cells w.heap.size #[.slice a0 n0 c0, .slice a1 n1 c1, .slice a2 n2 c2] 27)) := Lib.hid (by rw [← hW2, ← hW1]; exact (cells_new w _ _).alloc _)
  have R0 : Hid (Holds (w.heap.size + 1) (w.heap.size + 2) W2 (Cells (w.heap.size + 1) #[.slice none 0 0, .slice none 0 0, .slice none 0 0] 27)) := Lib.hid (by
    have := cells_new W1 #[.slice none 0 0, .slice none 0 0, .slice none 0 0] 27
    rw [hW2, z1] at this; exact this)
  have HW := Lib.hid (And.intro hW1 hW2)
  have M0 : Hid (w.heap.size + 2 ≤ W2.heap.size) := Lib.hid (by omega)
  have H := Lib.hid h
  have HZ := Lib.hid hz
  have HN := Lib.hid hn
  obtain ⟨hn0, hn1, hn2⟩ := hn
  have DO := specDiskOk a0 a1 a2 n0 n1 n2 c0 c1 c2 l s o _ (h.next B0.out) hz HN.out
  have x0 := X0.out.now.at 0
  have x1 := X0.out.now.at 1
  have x2 := X0.out.now.at 2
  clear h hz hW1 hW2 z1 z2
  cases q : diskOk l s o
  · rw [q] at DO
    have D := Lib.hid DO
    have HR : Hid (syncF l s o = []) := Lib.hid (by unfold syncF; rw [q, if_neg (by decide)])
    rw [HR.out]
    clear q DO
    go_enter Try.func32, Try.ntmps32
    go_wp2_with fail
    rw [HW.out.1, HW.out.2]
    refine D.out.mono ?_
    rintro e w1 ⟨rfl, hb1⟩
    have B1 := Lib.hid (B0.out.trans (hb1.mono B0.out.size))
    have R1 := Lib.hid (R0.out.next hb1)
    have lz := hb1.size
    have lM := M0.out
    obtain ⟨y0, y1, y2⟩ := R1.out.now.treDk
    have f0 := R1.out.now.free 0
    have f1 := R1.out.now.free 1
    have f2 := R1.out.now.free 2
    have TT := turn_s3 w1 (w.heap.size + 1) (.slice none 0 0) (.slice none 0 0) (.slice none 0 0)
    have BF := Lib.hid (B1.out.trans (TT.below B1.out.size (Nat.le_succ _)))
    clear TT hb1 B0 R0 X0 x0 x1 x2 B1 R1
    go_wp2_with fail
    refine bodyPost_ret (v := .agg #[.slice none 0 0, .slice none 0 0, .slice none 0 0]) (by simp [results, Try.results32, go_sem, *]) rfl ⟨none, 0, none, 0, none, 0, rfl, ⟨ownDk_lives, Nat.le_refl _, ownDk_nil _ _ _⟩, BF.out⟩
  rw [q] at DO
  have D := Lib.hid DO
  have HR : Hid (syncF l s o = l) := Lib.hid (by unfold syncF; rw [q, if_pos rfl])
  rw [HR.out]
  clear q DO
  go_enter Try.func32, Try.ntmps32
  go_wp2_with fail
  rw [HW.out.1, HW.out.2]
  refine D.out.mono ?_
  rintro e w1 ⟨rfl, hb1⟩
  have B1 := Lib.hid (B0.out.trans (hb1.mono B0.out.size))
  have R1 := Lib.hid (R0.out.next hb1)
  have X1 := Lib.hid (X0.out.next hb1)
  have MW : Hid (w.heap.size + 2 ≤ w1.heap.size) := Lib.hid (by have := M0.out; have := hb1.size; omega)
  clear hb1 B0 R0 X0 x0 x1 x2
  obtain ⟨v0, u0, q0⟩ := X1.out.now.treDk
  go_wp2_with fail
  clear v0 u0 q0
  have B0 := B1
  have X0 := X1
  have R0 := R1
  clear B1 X1 R1
  have B1 := Lib.hid B0.out.drew
  have X1 := Lib.hid X0.out.drew
  have R1 := Lib.hid R0.out.drew
  clear B0 X0 R0
  refine wp_region_held_drew (S := (fun w' => w'.cell? ⟨w.heap.size, 0, none⟩ = some (.slice a0 n0 c0) ∧ w'.cell? ⟨w.heap.size, 1, none⟩ = some (.slice a1 n1 c1) ∧ w'.cell? ⟨w.heap.size, 2, none⟩ = some (.slice a2 n2 c2))) (by kernel_rfl) ?_ (fun hHeld => ?_)
  · exact X1.out.now.treDk
  have M1 : Hid (w1.heap.size ≤ w1.drew.heap.size) := Lib.hid (Nat.le_refl _)
  generalize hV1 : w1.drew = V1 at B1 X1 R1 M1 hHeld ⊢
  clear hV1
  refine wpAnyH_take (i := 1) (v := ?_) rfl (by kernel_rfl) (by kernel_rfl) (by kernel_rfl) (fun _ _ _ h => h) (Or.inl ⟨by kernel_rfl, ?_⟩) (by assumption) ?_
  rotate_left
  · intro w hSw; (try dsimp only at hSw); go_simp; try with_reducible rfl
  refine wpAnyH_take (i := 2) (v := ?_) rfl (by kernel_rfl) (by kernel_rfl) (by kernel_rfl) (fun _ _ _ h => h) (Or.inl ⟨by kernel_rfl, ?_⟩) (by assumption) ?_
  rotate_left
  · intro w hSw; (try dsimp only at hSw); go_simp; try with_reducible rfl
  refine wpAnyH_take (i := 5) (v := ?_) rfl (by kernel_rfl) (by kernel_rfl) (by kernel_rfl) (fun _ _ _ h => h) (Or.inl ⟨by kernel_rfl, ?_⟩) (by assumption) ?_
  rotate_left
  · intro w hSw; (try dsimp only at hSw); go_simp; try with_reducible rfl
  refine wpAnyH_take (i := 6) (v := ?_) rfl (by kernel_rfl) (by kernel_rfl) (by kernel_rfl) (fun _ _ _ h => h) (Or.inl ⟨by kernel_rfl, ?_⟩) (by assumption) ?_
  rotate_left
  · intro w hSw; (try dsimp only at hSw); go_simp; try with_reducible rfl
  refine wpAnyH_ready (rs := [0, 4]) (by kernel_rfl) (by simp) ?_
  try simp only [Act.put, List.setIfInBounds_toArray, List.set_cons_zero, List.set_cons_succ, List.getElem_toArray, List.getElem_cons_zero, List.getElem_cons_succ]
  refine (AllReadyH.cons rfl (fun K hK => ?_) (AllReadyH.cons rfl (fun K hK => ?_) AllReadyH.nil))
  · go_simp
    have B2 := Lib.hid (B1.out.alloc B1.out.size (.cells #[] 74))
    have X2 := Lib.hid (X1.out.alloc (.cells #[] 74))
    have R2 := Lib.hid (R1.out.alloc (.cells #[] 74))
    have EA2 := Lib.hid (cells_new V1 #[] 74)
    have M2 : Hid (V1.heap.size + 1 ≤ (V1.alloc (.cells #[] 74)).heap.size) := Lib.hid (by simp)
    clear hHeld
    refine hK.out _ _ ?_ (fun hHeld => ?_)
    · exact X2.out.now.treDk
    clear hK K B1 X1 R1
    generalize V1.alloc (.cells #[] 74) = V2 at B2 M2 X2 R2 EA2 hHeld ⊢
    refine wpAnyH_ready (rs := [3, 4]) (by kernel_rfl) (by simp) ?_
    try simp only [Act.put, List.setIfInBounds_toArray, List.set_cons_zero, List.set_cons_succ, List.getElem_toArray, List.getElem_cons_zero, List.getElem_cons_succ]
    refine (AllReadyH.cons rfl (fun K hK => ?_) (AllReadyH.cons rfl (fun K hK => ?_) AllReadyH.nil))
    · rw [if_pos (by rfl)]
      refine upon_copyFi _ _ (by rfl) (V1.heap.size) (by rfl) EA2.out.now a0 n0 c0 l (by rfl) (H.out.1.nextFi B2.out) hn0 ?_
      intro vVA V3 jVA hj hv ho hT
      have JVA := Lib.hid hj
      have M3 : Hid (V2.heap.size ≤ V3.heap.size) := Lib.hid hT.size
      have LVA : Hid (jVA < V3.heap.size) := Lib.hid (World.ownsRow.lt ho jVA hv).2
      obtain ⟨pVA, rVA, rfl⟩ := fi_form ho
      have B3 := Lib.hid (B2.out.trans (hT.below B2.out.size (by have q0 := MW.out; have q1 := M1.out; have q2 := M2.out; have q3 := JVA.out; have q4 := M3.out; have q5 := LVA.out; omega)))
      have X3 := Lib.hid (X2.out.step hT (by have q0 := MW.out; have q1 := M1.out; have q2 := M2.out; have q3 := JVA.out; have q4 := M3.out; have q5 := LVA.out; omega))
      have R3 := Lib.hid (R2.out.step hT (by have q0 := MW.out; have q1 := M1.out; have q2 := M2.out; have q3 := JVA.out; have q4 := M3.out; have q5 := LVA.out; omega))
      have VA3 := Lib.hid (held_copyFi ho hv)
      clear hj hv ho hT B2 X2 R2 EA2
      clear hHeld
      refine hK.out _ _ ?_ (fun hHeld => ?_)
      · exact X3.out.now.treDk
      clear hK K
      refine wpAnyH_ready (rs := [4]) (by kernel_rfl) (by simp) ?_
      try simp only [Act.put, List.setIfInBounds_toArray, List.set_cons_zero, List.set_cons_succ, List.getElem_toArray, List.getElem_cons_zero, List.getElem_cons_succ]
      refine (AllReadyH.cons rfl (fun K hK => ?_) AllReadyH.nil)
      go_simp
      have B4 := Lib.hid (B3.out.alloc B3.out.size (.cells #[] 74))
      have X4 := Lib.hid (X3.out.alloc (.cells #[] 74))
      have R4 := Lib.hid (R3.out.alloc (.cells #[] 74))
      have VA4 := Lib.hid (VA3.out.alloc (.cells #[] 74))
      have EB4 := Lib.hid (cells_new V3 #[] 74)
      have M4 : Hid (V3.heap.size + 1 ≤ (V3.alloc (.cells #[] 74)).heap.size) := Lib.hid (by simp)
      clear hHeld
      refine hK.out _ _ ?_ (fun hHeld => ?_)
      · exact X4.out.now.treDk
      clear hK K B3 X3 R3 VA3
      generalize V3.alloc (.cells #[] 74) = V4 at B4 M4 X4 R4 VA4 EB4 hHeld ⊢
      refine wpAnyH_ready (rs := [7]) (by kernel_rfl) (by simp) ?_
      try simp only [Act.put, List.setIfInBounds_toArray, List.set_cons_zero, List.set_cons_succ, List.getElem_toArray, List.getElem_cons_zero, List.getElem_cons_succ]
      refine (AllReadyH.cons rfl (fun K hK => ?_) AllReadyH.nil)
      rw [if_pos (by rfl)]
      refine upon_copyFi _ _ (by rfl) (V3.heap.size) (by rfl) EB4.out.now a0 n0 c0 l (by rfl) (H.out.1.nextFi B4.out) hn0 ?_
      intro vVB V5 jVB hj hv ho hT
      have JVB := Lib.hid hj
      have M5 : Hid (V4.heap.size ≤ V5.heap.size) := Lib.hid hT.size
      have LVB : Hid (jVB < V5.heap.size) := Lib.hid (World.ownsRow.lt ho jVB hv).2
      obtain ⟨pVB, rVB, rfl⟩ := fi_form ho
      have B5 := Lib.hid (B4.out.trans (hT.below B4.out.size (by have q0 := MW.out; have q1 := M1.out; have q2 := M2.out; have q3 := JVA.out; have q4 := M3.out; have q5 := LVA.out; have q6 := M4.out; have q7 := JVB.out; have q8 := M5.out; have q9 := LVB.out; omega)))
      have X5 := Lib.hid (X4.out.step hT (by have q0 := MW.out; have q1 := M1.out; have q2 := M2.out; have q3 := JVA.out; have q4 := M3.out; have q5 := LVA.out; have q6 := M4.out; have q7 := JVB.out; have q8 := M5.out; have q9 := LVB.out; omega))
      have R5 := Lib.hid (R4.out.step hT (by have q0 := MW.out; have q1 := M1.out; have q2 := M2.out; have q3 := JVA.out; have q4 := M3.out; have q5 := LVA.out; have q6 := M4.out; have q7 := JVB.out; have q8 := M5.out; have q9 := LVB.out; omega))
      have VA5 := Lib.hid (VA4.out.step hT (by have q0 := MW.out; have q1 := M1.out; have q2 := M2.out; have q3 := JVA.out; have q4 := M3.out; have q5 := LVA.out; have q6 := M4.out; have q7 := JVB.out; have q8 := M5.out; have q9 := LVB.out; omega))
      have VB5 := Lib.hid (held_copyFi ho hv)
      clear hj hv ho hT B4 X4 R4 VA4 EB4
      clear hHeld
      refine hK.out _ _ ?_ (fun hHeld => ?_)
      · exact X5.out.now.treDk
      clear hK K
      refine wpAnyH_take (i := 8) (v := ?_) rfl (by kernel_rfl) (by kernel_rfl) (by kernel_rfl) (fun _ _ _ h => h) (Or.inl ⟨by kernel_rfl, ?_⟩) (by assumption) ?_
      rotate_left
      · intro w hSw; (try dsimp only at hSw); go_simp; try with_reducible rfl
      refine wpAnyH_ready (rs := [9]) (by kernel_rfl) (by simp) ?_
      try simp only [Act.put, List.setIfInBounds_toArray, List.set_cons_zero, List.set_cons_succ, List.getElem_toArray, List.getElem_cons_zero, List.getElem_cons_succ]
      refine AllReadyH.cons rfl (fun K hK => ?_) AllReadyH.nil
      obtain ⟨y0, y1, y2⟩ := R5.out.now.treDk
      have f0 := R5.out.now.free 0
      have f1 := R5.out.now.free 1
      have f2 := R5.out.now.free 2
      have TT := turn_s3 V5 (w.heap.size + 1) (.slice pVA l.length rVA) (.slice pVB l.length rVB) (.slice none 0 0)
      have XX := X5.out.step TT (.inl (Nat.le_refl _))
      have hsz := size_s3 V5 (w.heap.size + 1) (.slice pVA l.length rVA) (.slice pVB l.length rVB) (.slice none 0 0)
      have BF := B5.out.trans (TT.below B5.out.size (Nat.le_succ _))
      have FVA := VA5.out.step TT (by have q0 := MW.out; have q1 := M1.out; have q2 := M2.out; have q3 := JVA.out; have q4 := M3.out; have q5 := LVA.out; have q6 := M4.out; have q7 := JVB.out; have q8 := M5.out; have q9 := LVB.out; omega)
      have FVB := VB5.out.step TT (by have q0 := MW.out; have q1 := M1.out; have q2 := M2.out; have q3 := JVA.out; have q4 := M3.out; have q5 := LVA.out; have q6 := M4.out; have q7 := JVB.out; have q8 := M5.out; have q9 := LVB.out; omega)
      have HF : Hid (Holds w.heap.size (((V5.setCell ⟨w.heap.size + 1, 0, none⟩ (.slice pVA l.length rVA)).setCell ⟨w.heap.size + 1, 1, none⟩ (.slice pVB l.length rVB)).setCell ⟨w.heap.size + 1, 2, none⟩ (.slice none 0 0)).heap.size (((V5.setCell ⟨w.heap.size + 1, 0, none⟩ (.slice pVA l.length rVA)).setCell ⟨w.heap.size + 1, 1, none⟩ (.slice pVB l.length rVB)).setCell ⟨w.heap.size + 1, 2, none⟩ (.slice none 0 0)) (OwnDk w.heap.size (((V5.setCell ⟨w.heap.size + 1, 0, none⟩ (.slice pVA l.length rVA)).setCell ⟨w.heap.size + 1, 1, none⟩ (.slice pVB l.length rVB)).setCell ⟨w.heap.size + 1, 2, none⟩ (.slice none 0 0)).heap.size (.slice pVA l.length rVA) (.slice pVB l.length rVB) (.slice none 0 0) l l [])) := Lib.hid ⟨ownDk_lives, Nat.le_refl _, ⟨ownP_baseFi FVA.now.1 (by have q0 := MW.out; have q1 := M1.out; have q2 := M2.out; have q3 := JVA.out; have q4 := M3.out; have q5 := LVA.out; have q6 := M4.out; have q7 := JVB.out; have q8 := M5.out; have q9 := LVB.out; omega), fun i hi => by have z1 := FVA.now.2 i hi; have z2 := FVA.le; omega⟩, ⟨ownP_baseFi FVB.now.1 (by have q0 := MW.out; have q1 := M1.out; have q2 := M2.out; have q3 := JVA.out; have q4 := M3.out; have q5 := LVA.out; have q6 := M4.out; have q7 := JVB.out; have q8 := M5.out; have q9 := LVB.out; omega), fun i hi => by have z1 := FVB.now.2 i hi; have z2 := FVB.le; omega⟩, ⟨World.ownsRow_nil .., fun i hi => by simp [Value.ownBlock] at hi⟩, fun i h1 h2 => by have z1 := (World.ownsRow.lt FVA.now.1 i h1).1; have z2 := FVA.now.2 i h1; have z3 := (World.ownsRow.lt FVB.now.1 i h2).1; have z4 := FVB.now.2 i h2; have q0 := MW.out; have q1 := M1.out; have q2 := M2.out; have q3 := JVA.out; have q4 := M3.out; have q5 := LVA.out; have q6 := M4.out; have q7 := JVB.out; have q8 := M5.out; have q9 := LVB.out; omega, fun i _ h2 => by simp [Value.ownBlock] at h2, fun i _ h2 => by simp [Value.ownBlock] at h2⟩
      have HBF := Lib.hid BF
      go_simp
      clear hHeld
      refine hK.out _ _ ?_ (fun hHeld => ?_)
      · exact XX.now.treDk
      clear hK K XX TT BF FVA FVB
      refine wpAnyH_done (by kernel_rfl) ?_ _
      try simp only [Act.put, List.setIfInBounds_toArray, List.set_cons_zero, List.set_cons_succ, List.getElem_toArray, List.getElem_cons_zero, List.getElem_cons_succ]
      go_wp2_with fail
      refine bodyPost_ret (v := .agg #[.slice pVA l.length rVA, .slice pVB l.length rVB, .slice none 0 0]) (by simp [results, Try.results32, go_sem, *]) rfl ⟨_, _, _, _, _, _, rfl, HF.out, HBF.out⟩
    · go_simp
      have B3 := Lib.hid (B2.out.alloc B2.out.size (.cells #[] 74))
      have X3 := Lib.hid (X2.out.alloc (.cells #[] 74))
      have R3 := Lib.hid (R2.out.alloc (.cells #[] 74))
      have EA3 := Lib.hid (EA2.out.alloc (.cells #[] 74))
      have EB3 := Lib.hid (cells_new V2 #[] 74)
      have M3 : Hid (V2.heap.size + 1 ≤ (V2.alloc (.cells #[] 74)).heap.size) := Lib.hid (by simp)
      clear hHeld
      refine hK.out _ _ ?_ (fun hHeld => ?_)
      · exact X3.out.now.treDk
      clear hK K B2 X2 R2 EA2
      generalize V2.alloc (.cells #[] 74) = V3 at B3 M3 X3 R3 EA3 EB3 hHeld ⊢
      refine wpAnyH_ready (rs := [3]) (by kernel_rfl) (by simp) ?_
      try simp only [Act.put, List.setIfInBounds_toArray, List.set_cons_zero, List.set_cons_succ, List.getElem_toArray, List.getElem_cons_zero, List.getElem_cons_succ]
      refine (AllReadyH.cons rfl (fun K hK => ?_) AllReadyH.nil)
      rw [if_pos (by rfl)]
      refine upon_copyFi _ _ (by rfl) (V1.heap.size) (by rfl) EA3.out.now a0 n0 c0 l (by rfl) (H.out.1.nextFi B3.out) hn0 ?_
      intro vVA V4 jVA hj hv ho hT
      have JVA := Lib.hid hj
      have M4 : Hid (V3.heap.size ≤ V4.heap.size) := Lib.hid hT.size
      have LVA : Hid (jVA < V4.heap.size) := Lib.hid (World.ownsRow.lt ho jVA hv).2
      obtain ⟨pVA, rVA, rfl⟩ := fi_form ho
      have B4 := Lib.hid (B3.out.trans (hT.below B3.out.size (by have q0 := MW.out; have q1 := M1.out; have q2 := M2.out; have q3 := M3.out; have q4 := JVA.out; have q5 := M4.out; have q6 := LVA.out; omega)))
      have X4 := Lib.hid (X3.out.step hT (by have q0 := MW.out; have q1 := M1.out; have q2 := M2.out; have q3 := M3.out; have q4 := JVA.out; have q5 := M4.out; have q6 := LVA.out; omega))
      have R4 := Lib.hid (R3.out.step hT (by have q0 := MW.out; have q1 := M1.out; have q2 := M2.out; have q3 := M3.out; have q4 := JVA.out; have q5 := M4.out; have q6 := LVA.out; omega))
      have EB4 := Lib.hid (EB3.out.step hT (by have q0 := MW.out; have q1 := M1.out; have q2 := M2.out; have q3 := M3.out; have q4 := JVA.out; have q5 := M4.out; have q6 := LVA.out; omega))
      have VA4 := Lib.hid (held_copyFi ho hv)
      clear hj hv ho hT B3 X3 R3 EA3 EB3
      clear hHeld
      refine hK.out _ _ ?_ (fun hHeld => ?_)
      · exact X4.out.now.treDk
      clear hK K
      refine wpAnyH_ready (rs := [7]) (by kernel_rfl) (by simp) ?_
      try simp only [Act.put, List.setIfInBounds_toArray, List.set_cons_zero, List.set_cons_succ, List.getElem_toArray, List.getElem_cons_zero, List.getElem_cons_succ]
      refine (AllReadyH.cons rfl (fun K hK => ?_) AllReadyH.nil)
      rw [if_pos (by rfl)]
      refine upon_copyFi _ _ (by rfl) (V2.heap.size) (by rfl) EB4.out.now a0 n0 c0 l (by rfl) (H.out.1.nextFi B4.out) hn0 ?_
      intro vVB V5 jVB hj hv ho hT
      have JVB := Lib.hid hj
      have M5 : Hid (V4.heap.size ≤ V5.heap.size) := Lib.hid hT.size
      have LVB : Hid (jVB < V5.heap.size) := Lib.hid (World.ownsRow.lt ho jVB hv).2
      obtain ⟨pVB, rVB, rfl⟩ := fi_form ho
      have B5 := Lib.hid (B4.out.trans (hT.below B4.out.size (by have q0 := MW.out; have q1 := M1.out; have q2 := M2.out; have q3 := M3.out; have q4 := JVA.out; have q5 := M4.out; have q6 := LVA.out; have q7 := JVB.out; have q8 := M5.out; have q9 := LVB.out; omega)))
      have X5 := Lib.hid (X4.out.step hT (by have q0 := MW.out; have q1 := M1.out; have q2 := M2.out; have q3 := M3.out; have q4 := JVA.out; have q5 := M4.out; have q6 := LVA.out; have q7 := JVB.out; have q8 := M5.out; have q9 := LVB.out; omega))
      have R5 := Lib.hid (R4.out.step hT (by have q0 := MW.out; have q1 := M1.out; have q2 := M2.out; have q3 := M3.out; have q4 := JVA.out; have q5 := M4.out; have q6 := LVA.out; have q7 := JVB.out; have q8 := M5.out; have q9 := LVB.out; omega))
      have VA5 := Lib.hid (VA4.out.step hT (by have q0 := MW.out; have q1 := M1.out; have q2 := M2.out; have q3 := M3.out; have q4 := JVA.out; have q5 := M4.out; have q6 := LVA.out; have q7 := JVB.out; have q8 := M5.out; have q9 := LVB.out; omega))
      have VB5 := Lib.hid (held_copyFi ho hv)
      clear hj hv ho hT B4 X4 R4 EB4 VA4
      clear hHeld
      refine hK.out _ _ ?_ (fun hHeld => ?_)
      · exact X5.out.now.treDk
      clear hK K
      refine wpAnyH_take (i := 8) (v := ?_) rfl (by kernel_rfl) (by kernel_rfl) (by kernel_rfl) (fun _ _ _ h => h) (Or.inl ⟨by kernel_rfl, ?_⟩) (by assumption) ?_
      rotate_left
      · intro w hSw; (try dsimp only at hSw); go_simp; try with_reducible rfl
      refine wpAnyH_ready (rs := [9]) (by kernel_rfl) (by simp) ?_
      try simp only [Act.put, List.setIfInBounds_toArray, List.set_cons_zero, List.set_cons_succ, List.getElem_toArray, List.getElem_cons_zero, List.getElem_cons_succ]
      refine AllReadyH.cons rfl (fun K hK => ?_) AllReadyH.nil
      obtain ⟨y0, y1, y2⟩ := R5.out.now.treDk
      have f0 := R5.out.now.free 0
      have f1 := R5.out.now.free 1
      have f2 := R5.out.now.free 2
      have TT := turn_s3 V5 (w.heap.size + 1) (.slice pVA l.length rVA) (.slice pVB l.length rVB) (.slice none 0 0)
      have XX := X5.out.step TT (.inl (Nat.le_refl _))
      have hsz := size_s3 V5 (w.heap.size + 1) (.slice pVA l.length rVA) (.slice pVB l.length rVB) (.slice none 0 0)
      have BF := B5.out.trans (TT.below B5.out.size (Nat.le_succ _))
      have FVA := VA5.out.step TT (by have q0 := MW.out; have q1 := M1.out; have q2 := M2.out; have q3 := M3.out; have q4 := JVA.out; have q5 := M4.out; have q6 := LVA.out; have q7 := JVB.out; have q8 := M5.out; have q9 := LVB.out; omega)
      have FVB := VB5.out.step TT (by have q0 := MW.out; have q1 := M1.out; have q2 := M2.out; have q3 := M3.out; have q4 := JVA.out; have q5 := M4.out; have q6 := LVA.out; have q7 := JVB.out; have q8 := M5.out; have q9 := LVB.out; omega)
      have HF : Hid (Holds w.heap.size (((V5.setCell ⟨w.heap.size + 1, 0, none⟩ (.slice pVA l.length rVA)).setCell ⟨w.heap.size + 1, 1, none⟩ (.slice pVB l.length rVB)).setCell ⟨w.heap.size + 1, 2, none⟩ (.slice none 0 0)).heap.size (((V5.setCell ⟨w.heap.size + 1, 0, none⟩ (.slice pVA l.length rVA)).setCell ⟨w.heap.size + 1, 1, none⟩ (.slice pVB l.length rVB)).setCell ⟨w.heap.size + 1, 2, none⟩ (.slice none 0 0)) (OwnDk w.heap.size (((V5.setCell ⟨w.heap.size + 1, 0, none⟩ (.slice pVA l.length rVA)).setCell ⟨w.heap.size + 1, 1, none⟩ (.slice pVB l.length rVB)).setCell ⟨w.heap.size + 1, 2, none⟩ (.slice none 0 0)).heap.size (.slice pVA l.length rVA) (.slice pVB l.length rVB) (.slice none 0 0) l l [])) := Lib.hid ⟨ownDk_lives, Nat.le_refl _, ⟨ownP_baseFi FVA.now.1 (by have q0 := MW.out; have q1 := M1.out; have q2 := M2.out; have q3 := M3.out; have q4 := JVA.out; have q5 := M4.out; have q6 := LVA.out; have q7 := JVB.out; have q8 := M5.out; have q9 := LVB.out; omega), fun i hi => by have z1 := FVA.now.2 i hi; have z2 := FVA.le; omega⟩, ⟨ownP_baseFi FVB.now.1 (by have q0 := MW.out; have q1 := M1.out; have q2 := M2.out; have q3 := M3.out; have q4 := JVA.out; have q5 := M4.out; have q6 := LVA.out; have q7 := JVB.out; have q8 := M5.out; have q9 := LVB.out; omega), fun i hi => by have z1 := FVB.now.2 i hi; have z2 := FVB.le; omega⟩, ⟨World.ownsRow_nil .., fun i hi => by simp [Value.ownBlock] at hi⟩, fun i h1 h2 => by have z1 := (World.ownsRow.lt FVA.now.1 i h1).1; have z2 := FVA.now.2 i h1; have z3 := (World.ownsRow.lt FVB.now.1 i h2).1; have z4 := FVB.now.2 i h2; have q0 := MW.out; have q1 := M1.out; have q2 := M2.out; have q3 := M3.out; have q4 := JVA.out; have q5 := M4.out; have q6 := LVA.out; have q7 := JVB.out; have q8 := M5.out; have q9 := LVB.out; omega, fun i _ h2 => by simp [Value.ownBlock] at h2, fun i _ h2 => by simp [Value.ownBlock] at h2⟩
      have HBF := Lib.hid BF
      go_simp
      clear hHeld
      refine hK.out _ _ ?_ (fun hHeld => ?_)
      · exact XX.now.treDk
      clear hK K XX TT BF FVA FVB
      refine wpAnyH_done (by kernel_rfl) ?_ _
      try simp only [Act.put, List.setIfInBounds_toArray, List.set_cons_zero, List.set_cons_succ, List.getElem_toArray, List.getElem_cons_zero, List.getElem_cons_succ]
      go_wp2_with fail
      refine bodyPost_ret (v := .agg #[.slice pVA l.length rVA, .slice pVB l.length rVB, .slice none 0 0]) (by simp [results, Try.results32, go_sem, *]) rfl ⟨_, _, _, _, _, _, rfl, HF.out, HBF.out⟩
  · go_simp
    have B2 := Lib.hid (B1.out.alloc B1.out.size (.cells #[] 74))
    have X2 := Lib.hid (X1.out.alloc (.cells #[] 74))
    have R2 := Lib.hid (R1.out.alloc (.cells #[] 74))
    have EB2 := Lib.hid (cells_new V1 #[] 74)
    have M2 : Hid (V1.heap.size + 1 ≤ (V1.alloc (.cells #[] 74)).heap.size) := Lib.hid (by simp)
    clear hHeld
    refine hK.out _ _ ?_ (fun hHeld => ?_)
    · exact X2.out.now.treDk
    clear hK K B1 X1 R1
    generalize V1.alloc (.cells #[] 74) = V2 at B2 M2 X2 R2 EB2 hHeld ⊢
    refine wpAnyH_ready (rs := [0]) (by kernel_rfl) (by simp) ?_
    try simp only [Act.put, List.setIfInBounds_toArray, List.set_cons_zero, List.set_cons_succ, List.getElem_toArray, List.getElem_cons_zero, List.getElem_cons_succ]
    refine (AllReadyH.cons rfl (fun K hK => ?_) AllReadyH.nil)
    go_simp
    have B3 := Lib.hid (B2.out.alloc B2.out.size (.cells #[] 74))
    have X3 := Lib.hid (X2.out.alloc (.cells #[] 74))
    have R3 := Lib.hid (R2.out.alloc (.cells #[] 74))
    have EB3 := Lib.hid (EB2.out.alloc (.cells #[] 74))
    have EA3 := Lib.hid (cells_new V2 #[] 74)
    have M3 : Hid (V2.heap.size + 1 ≤ (V2.alloc (.cells #[] 74)).heap.size) := Lib.hid (by simp)
    clear hHeld
    refine hK.out _ _ ?_ (fun hHeld => ?_)
    · exact X3.out.now.treDk
    clear hK K B2 X2 R2 EB2
    generalize V2.alloc (.cells #[] 74) = V3 at B3 M3 X3 R3 EB3 EA3 hHeld ⊢
    refine wpAnyH_ready (rs := [3]) (by kernel_rfl) (by simp) ?_
    try simp only [Act.put, List.setIfInBounds_toArray, List.set_cons_zero, List.set_cons_succ, List.getElem_toArray, List.getElem_cons_zero, List.getElem_cons_succ]
    refine (AllReadyH.cons rfl (fun K hK => ?_) AllReadyH.nil)
    rw [if_pos (by rfl)]
    refine upon_copyFi _ _ (by rfl) (V2.heap.size) (by rfl) EA3.out.now a0 n0 c0 l (by rfl) (H.out.1.nextFi B3.out) hn0 ?_
    intro vVA V4 jVA hj hv ho hT
    have JVA := Lib.hid hj
    have M4 : Hid (V3.heap.size ≤ V4.heap.size) := Lib.hid hT.size
    have LVA : Hid (jVA < V4.heap.size) := Lib.hid (World.ownsRow.lt ho jVA hv).2
    obtain ⟨pVA, rVA, rfl⟩ := fi_form ho
    have B4 := Lib.hid (B3.out.trans (hT.below B3.out.size (by have q0 := MW.out; have q1 := M1.out; have q2 := M2.out; have q3 := M3.out; have q4 := JVA.out; have q5 := M4.out; have q6 := LVA.out; omega)))
    have X4 := Lib.hid (X3.out.step hT (by have q0 := MW.out; have q1 := M1.out; have q2 := M2.out; have q3 := M3.out; have q4 := JVA.out; have q5 := M4.out; have q6 := LVA.out; omega))
    have R4 := Lib.hid (R3.out.step hT (by have q0 := MW.out; have q1 := M1.out; have q2 := M2.out; have q3 := M3.out; have q4 := JVA.out; have q5 := M4.out; have q6 := LVA.out; omega))
    have EB4 := Lib.hid (EB3.out.step hT (by have q0 := MW.out; have q1 := M1.out; have q2 := M2.out; have q3 := M3.out; have q4 := JVA.out; have q5 := M4.out; have q6 := LVA.out; omega))
    have VA4 := Lib.hid (held_copyFi ho hv)
    clear hj hv ho hT B3 X3 R3 EB3 EA3
    clear hHeld
    refine hK.out _ _ ?_ (fun hHeld => ?_)
    · exact X4.out.now.treDk
    clear hK K
    refine wpAnyH_ready (rs := [7]) (by kernel_rfl) (by simp) ?_
    try simp only [Act.put, List.setIfInBounds_toArray, List.set_cons_zero, List.set_cons_succ, List.getElem_toArray, List.getElem_cons_zero, List.getElem_cons_succ]
    refine (AllReadyH.cons rfl (fun K hK => ?_) AllReadyH.nil)
    rw [if_pos (by rfl)]
    refine upon_copyFi _ _ (by rfl) (V1.heap.size) (by rfl) EB4.out.now a0 n0 c0 l (by rfl) (H.out.1.nextFi B4.out) hn0 ?_
    intro vVB V5 jVB hj hv ho hT
    have JVB := Lib.hid hj
    have M5 : Hid (V4.heap.size ≤ V5.heap.size) := Lib.hid hT.size
    have LVB : Hid (jVB < V5.heap.size) := Lib.hid (World.ownsRow.lt ho jVB hv).2
    obtain ⟨pVB, rVB, rfl⟩ := fi_form ho
    have B5 := Lib.hid (B4.out.trans (hT.below B4.out.size (by have q0 := MW.out; have q1 := M1.out; have q2 := M2.out; have q3 := M3.out; have q4 := JVA.out; have q5 := M4.out; have q6 := LVA.out; have q7 := JVB.out; have q8 := M5.out; have q9 := LVB.out; omega)))
    have X5 := Lib.hid (X4.out.step hT (by have q0 := MW.out; have q1 := M1.out; have q2 := M2.out; have q3 := M3.out; have q4 := JVA.out; have q5 := M4.out; have q6 := LVA.out; have q7 := JVB.out; have q8 := M5.out; have q9 := LVB.out; omega))
    have R5 := Lib.hid (R4.out.step hT (by have q0 := MW.out; have q1 := M1.out; have q2 := M2.out; have q3 := M3.out; have q4 := JVA.out; have q5 := M4.out; have q6 := LVA.out; have q7 := JVB.out; have q8 := M5.out; have q9 := LVB.out; omega))
    have VA5 := Lib.hid (VA4.out.step hT (by have q0 := MW.out; have q1 := M1.out; have q2 := M2.out; have q3 := M3.out; have q4 := JVA.out; have q5 := M4.out; have q6 := LVA.out; have q7 := JVB.out; have q8 := M5.out; have q9 := LVB.out; omega))
    have VB5 := Lib.hid (held_copyFi ho hv)
    clear hj hv ho hT B4 X4 R4 EB4 VA4
    clear hHeld
    refine hK.out _ _ ?_ (fun hHeld => ?_)
    · exact X5.out.now.treDk
    clear hK K
    refine wpAnyH_take (i := 8) (v := ?_) rfl (by kernel_rfl) (by kernel_rfl) (by kernel_rfl) (fun _ _ _ h => h) (Or.inl ⟨by kernel_rfl, ?_⟩) (by assumption) ?_
    rotate_left
    · intro w hSw; (try dsimp only at hSw); go_simp; try with_reducible rfl
    refine wpAnyH_ready (rs := [9]) (by kernel_rfl) (by simp) ?_
    try simp only [Act.put, List.setIfInBounds_toArray, List.set_cons_zero, List.set_cons_succ, List.getElem_toArray, List.getElem_cons_zero, List.getElem_cons_succ]
    refine AllReadyH.cons rfl (fun K hK => ?_) AllReadyH.nil
    obtain ⟨y0, y1, y2⟩ := R5.out.now.treDk
    have f0 := R5.out.now.free 0
    have f1 := R5.out.now.free 1
    have f2 := R5.out.now.free 2
    have TT := turn_s3 V5 (w.heap.size + 1) (.slice pVA l.length rVA) (.slice pVB l.length rVB) (.slice none 0 0)
    have XX := X5.out.step TT (.inl (Nat.le_refl _))
    have hsz := size_s3 V5 (w.heap.size + 1) (.slice pVA l.length rVA) (.slice pVB l.length rVB) (.slice none 0 0)
    have BF := B5.out.trans (TT.below B5.out.size (Nat.le_succ _))
    have FVA := VA5.out.step TT (by have q0 := MW.out; have q1 := M1.out; have q2 := M2.out; have q3 := M3.out; have q4 := JVA.out; have q5 := M4.out; have q6 := LVA.out; have q7 := JVB.out; have q8 := M5.out; have q9 := LVB.out; omega)
    have FVB := VB5.out.step TT (by have q0 := MW.out; have q1 := M1.out; have q2 := M2.out; have q3 := M3.out; have q4 := JVA.out; have q5 := M4.out; have q6 := LVA.out; have q7 := JVB.out; have q8 := M5.out; have q9 := LVB.out; omega)
    have HF : Hid (Holds w.heap.size (((V5.setCell ⟨w.heap.size + 1, 0, none⟩ (.slice pVA l.length rVA)).setCell ⟨w.heap.size + 1, 1, none⟩ (.slice pVB l.length rVB)).setCell ⟨w.heap.size + 1, 2, none⟩ (.slice none 0 0)).heap.size (((V5.setCell ⟨w.heap.size + 1, 0, none⟩ (.slice pVA l.length rVA)).setCell ⟨w.heap.size + 1, 1, none⟩ (.slice pVB l.length rVB)).setCell ⟨w.heap.size + 1, 2, none⟩ (.slice none 0 0)) (OwnDk w.heap.size (((V5.setCell ⟨w.heap.size + 1, 0, none⟩ (.slice pVA l.length rVA)).setCell ⟨w.heap.size + 1, 1, none⟩ (.slice pVB l.length rVB)).setCell ⟨w.heap.size + 1, 2, none⟩ (.slice none 0 0)).heap.size (.slice pVA l.length rVA) (.slice pVB l.length rVB) (.slice none 0 0) l l [])) := Lib.hid ⟨ownDk_lives, Nat.le_refl _, ⟨ownP_baseFi FVA.now.1 (by have q0 := MW.out; have q1 := M1.out; have q2 := M2.out; have q3 := M3.out; have q4 := JVA.out; have q5 := M4.out; have q6 := LVA.out; have q7 := JVB.out; have q8 := M5.out; have q9 := LVB.out; omega), fun i hi => by have z1 := FVA.now.2 i hi; have z2 := FVA.le; omega⟩, ⟨ownP_baseFi FVB.now.1 (by have q0 := MW.out; have q1 := M1.out; have q2 := M2.out; have q3 := M3.out; have q4 := JVA.out; have q5 := M4.out; have q6 := LVA.out; have q7 := JVB.out; have q8 := M5.out; have q9 := LVB.out; omega), fun i hi => by have z1 := FVB.now.2 i hi; have z2 := FVB.le; omega⟩, ⟨World.ownsRow_nil .., fun i hi => by simp [Value.ownBlock] at hi⟩, fun i h1 h2 => by have z1 := (World.ownsRow.lt FVA.now.1 i h1).1; have z2 := FVA.now.2 i h1; have z3 := (World.ownsRow.lt FVB.now.1 i h2).1; have z4 := FVB.now.2 i h2; have q0 := MW.out; have q1 := M1.out; have q2 := M2.out; have q3 := M3.out; have q4 := JVA.out; have q5 := M4.out; have q6 := LVA.out; have q7 := JVB.out; have q8 := M5.out; have q9 := LVB.out; omega, fun i _ h2 => by simp [Value.ownBlock] at h2, fun i _ h2 => by simp [Value.ownBlock] at h2⟩
    have HBF := Lib.hid BF
    go_simp
    clear hHeld
    refine hK.out _ _ ?_ (fun hHeld => ?_)
    · exact XX.now.treDk
    clear hK K XX TT BF FVA FVB
    refine wpAnyH_done (by kernel_rfl) ?_ _
    try simp only [Act.put, List.setIfInBounds_toArray, List.set_cons_zero, List.set_cons_succ, List.getElem_toArray, List.getElem_cons_zero, List.getElem_cons_succ]
    go_wp2_with fail
    refine bodyPost_ret (v := .agg #[.slice pVA l.length rVA, .slice pVB l.length rVB, .slice none 0 0]) (by simp [results, Try.results32, go_sem, *]) rfl ⟨_, _, _, _, _, _, rfl, HF.out, HBF.out⟩
end Go.Proofs.Ytamnlifdfhmbnaa
/- What the exact law of Sync needs of its contracts. -/
namespace Go.Proofs.Ytamnlifdfhmbnaa
open Go.RowKit Go.WideShapes
theorem dk_shape {l s : List Pre2} {o : List OpV} {w w' : World} {e : Ending} {N1 N2 N3 : Nat} (h : DkPost l s o w e w') (h1 : l.length = N1) (h2 : s.length = N2) (h3 : o.length = N3) :
    ∃ x0 y0 x1 y1 x2 y2, e = .returned (.agg #[.slice x0 N1 y0, .slice x1 N2 y1, .slice x2 N3 y2]) ∧ Holds w.heap.size w'.heap.size w' (OwnDk w.heap.size w'.heap.size (.slice x0 N1 y0) (.slice x1 N2 y1) (.slice x2 N3 y2) l s o) ∧ Below w.heap.size w w' := by
  subst h1 h2 h3; exact h
theorem syncF_most (l s : List Pre2) (o : List OpV) {n : Nat} (hn : l.length = n) (hm : SmAllPrFi l) : (syncF l s o).length ≤ n ∧ SmAllPrFi (syncF l s o) := by
  unfold syncF
  split
  · exact ⟨by omega, hm⟩
  · exact ⟨Nat.zero_le _, fun t ht => by cases ht⟩
end Go.Proofs.Ytamnlifdfhmbnaa
