/- An op done on a disk: what it makes of it, and the program's side. -/
import Derived.Test.YtamnlifdfhmbnaaG20
import Derived.Test.YtamnlifdfhmbnaaG18
import Derived.Test.YtamnlifdfhmbnaaG21
namespace Go.Proofs.Ytamnlifdfhmbnaa
open Go.RowKit Go.WideShapes
theorem Cells.fourDk {g : Nat} {x y z u : Value} {T : TypeId} {w : World} (h : Cells g #[x, y, z, u] T w) : w.cell? ⟨g, 0, none⟩ = some x ∧ w.cell? ⟨g, 1, none⟩ = some y ∧ w.cell? ⟨g, 2, none⟩ = some z ∧ w.cell? ⟨g, 3, none⟩ = some u := ⟨h.at 0, h.at 1, h.at 2, h.at 3⟩
theorem Turn.under {B : Nat} {w w' : World} (h : Below B w w') : Turn B w.heap.size w w' := ⟨h.os, h.tape, h.output, h.size, fun k hk hd => h.block k (hd.resolve_right (by omega))⟩
/-- What an op on a disk is told as. -/
def codeD (l : List Pre2) (o : List OpV) (op : OpV) : Int := if codeF l op = 0 ∧ o.length = 200 then 4 else codeF l op
/-- A disk of the call's own and a code are what comes back. -/
def DkPost2 (l s : List Pre2) (o : List OpV) (c : Int) (w : World) (e : Ending) (w' : World) : Prop :=
  ∃ x0 y0 x1 y1 x2 y2, e = .returned (.tuple #[.agg #[.slice x0 l.length y0, .slice x1 s.length y1, .slice x2 o.length y2], .int .i64 c]) ∧ Holds w.heap.size w'.heap.size w' (OwnDk w.heap.size w'.heap.size (.slice x0 l.length y0) (.slice x1 s.length y1) (.slice x2 o.length y2) l s o) ∧ Below w.heap.size w w'
def actL (l : List Pre2) (o : List OpV) (op : OpV) : List Pre2 := if codeD l o op = 0 then (doF l op).1 else l
def actO (l : List Pre2) (o : List OpV) (op : OpV) : List OpV := if codeD l o op = 0 then o ++ [op] else o
def ActPost (l s : List Pre2) (o : List OpV) (op : OpV) (w : World) (e : Ending) (w' : World) : Prop := DkPost2 (actL l o op) s (actO l o op) (codeD l o op) w e w'
theorem act_no {l s : List Pre2} {o : List OpV} {op : OpV} {c : Int} {w : World} {e : Ending} {w' : World} (h : codeD l o op = c) (hc : ¬ c = 0) (h2 : DkPost2 l s o c w e w') : ActPost l s o op w e w' := by
  unfold ActPost actL actO; rw [h, if_neg hc, if_neg hc]; exact h2
theorem act_ok {l s : List Pre2} {o : List OpV} {op : OpV} {w : World} {e : Ending} {w' : World} (h : codeD l o op = 0) (h2 : DkPost2 (doF l op).1 s (o ++ [op]) 0 w e w') : ActPost l s o op w e w' := by
  unfold ActPost actL actO; rw [h, if_pos rfl, if_pos rfl]; exact h2
set_option maxRecDepth 100000 in
set_option maxHeartbeats 6400000 in
theorem implAfter (a0 a1 a2 : Option Addr) (n0 n1 n2 c0 c1 c2 : Nat) (l s : List Pre2) (o : List OpV) (r : Int) (s' t d : ByteArray) (w : World) (h : IsDk w a0 a1 a2 n0 n1 n2 c0 c1 c2 l s o) (hd : diskOk l s o = true) (m1 : s'.size ≤ maxLen) (m2 : t.size ≤ maxLen) (m3 : d.size ≤ 1048576) (hn : n0 ≤ 1048576 ∧ n1 ≤ 1048576 ∧ n2 ≤ 1048576) :
    Calls Try.prog 54 #[.agg #[.slice a0 n0 c0, .slice a1 n1 c1, .slice a2 n2 c2], .agg #[.int .i64 r, .string s', .string t, .string d]] w (ActPost l s o (r, s', t, d) w) := by
  obtain ⟨W1, hW1⟩ : ∃ W, w.alloc (.cells #[.slice a0 n0 c0, .slice a1 n1 c1, .slice a2 n2 c2] 27) = W := ⟨_, rfl⟩
  obtain ⟨W2, hW2⟩ : ∃ W, W1.alloc (.cells #[.int .i64 r, .string s', .string t, .string d] 36) = W := ⟨_, rfl⟩
  obtain ⟨W3, hW3⟩ : ∃ W, W2.alloc (.cells #[.slice none 0 0, .slice none 0 0, .slice none 0 0] 27) = W := ⟨_, rfl⟩
  have z1 : W1.heap.size = w.heap.size + 1 := by rw [← hW1]; simp
  have z2 : W2.heap.size = w.heap.size + 1 + 1 := by rw [← hW2]; simp [z1]
  have z3 : W3.heap.size = w.heap.size + 3 := by rw [← hW3]; simp [z2]
  have B0 : Hid (Below w.heap.size w W3) := Lib.hid (by rw [← hW3, ← hW2, ← hW1]; exact (((Below.refl w.heap.size w).alloc (Nat.le_refl _) _).alloc (by simp) _).alloc (by simp; omega) _)
  have X0 : Hid (Holds w.heap.size (w.heap.size + 1) W3 (Cells w.heap.size #[.slice a0 n0 c0, .slice a1 n1 c1, .slice a2 n2 c2] 27)) := Lib.hid (by rw [← hW3, ← hW2, ← hW1]; exact ((cells_new w _ _).alloc _).alloc _)
  have O0 : Hid (Holds (w.heap.size + 1) (w.heap.size + 1 + 1) W3 (Cells (w.heap.size + 1) #[.int .i64 r, .string s', .string t, .string d] 36)) := Lib.hid (by
    have := (cells_new W1 #[.int .i64 r, .string s', .string t, .string d] 36).alloc (.cells #[.slice none 0 0, .slice none 0 0, .slice none 0 0] 27)
    rw [hW2, hW3, z1] at this; exact this)
  have R0 : Hid (Holds (w.heap.size + 1 + 1) (w.heap.size + 3) W3 (Cells (w.heap.size + 1 + 1) #[.slice none 0 0, .slice none 0 0, .slice none 0 0] 27)) := Lib.hid (by
    have := cells_new W2 #[.slice none 0 0, .slice none 0 0, .slice none 0 0] 27
    rw [hW3, z2] at this; exact this)
  have HW := Lib.hid (And.intro hW1 (And.intro hW2 hW3))
  have M0 : Hid (w.heap.size + 3 ≤ W3.heap.size) := Lib.hid (by omega)
  clear hW1 hW2 hW3 z1 z2 z3
  have H := Lib.hid h
  have HN := Lib.hid hn
  obtain ⟨hn0, hn1, hn2⟩ := hn
  obtain ⟨_, hol, _, hfl⟩ := diskOk_parts hd
  obtain ⟨hl1, hl2, hl3⟩ := filesOk_iff.1 hfl
  have hl4 := fitsF_iff.1 hl3
  have hd1 := doF_len l (r, s', t, d)
  have hd2 := doF_tot l (r, s', t, d)
  simp only at hd2
  have HOL := Lib.hid (show o.length ≤ 200 ∧ o.length = n2 from ⟨hol, h.2.2.len⟩)
  have FO := Lib.hid (implFolderOf a0 n0 c0 l _ (h.next B0.out).1 hl1 hn0)
  have HFL := Lib.hid hfl
  have HRI := Lib.hid hl1
  have HD1 : Hid ((doF l (r, s', t, d)).1.length ≤ 1000000 ∧ totF (doF l (r, s', t, d)).1 ≤ 1000000000000000000 ∧ l.length ≤ 60) := Lib.hid (by omega)
  have x0 := X0.out.now.at 0
  clear h hd hfl hl1 hl2 hl3 hl4 hd1 hd2 hol m3
  go_enter Try.func54, Try.ntmps54
  go_wp2_with fail
  rw [HW.out.1, HW.out.2.1, HW.out.2.2]
  refine FO.out.mono ?_
  rintro e w1 ⟨b, nn, kvs, rfl, ⟨M2, F2⟩, hnn, hbb, nb⟩
  have B1 := Lib.hid (B0.out.trans (nb.mono B0.out.size))
  have X1 := Lib.hid (X0.out.next nb)
  have O1 := Lib.hid (O0.out.next nb)
  have R1 := Lib.hid (R0.out.next nb)
  have DO := Lib.hid (implDo (r, s', t, d) m1 m2 W3.heap.size 1 b nn kvs l w1 M2 F2 HRI.out hbb (by have := HD1.out; omega) (by omega) HD1.out.1 HD1.out.2.1)
  obtain ⟨u0, u1, u2, u3⟩ := O1.out.now.fourDk
  have hs1 := Lib.hid nb.size
  clear FO X0 O0 R0 x0 M2 F2 nb hnn
  go_wp2_with fail
  refine DO.out.mono ?_
  rintro e w2 ⟨rfl, hb2, hgo⟩
  have T2 := Turn.under hb2
  have B2 := Lib.hid (B1.out.trans (hb2.mono B0.out.size))
  have X2 := Lib.hid (X1.out.step T2 (.inl (by have := M0.out; omega)))
  have O2 := Lib.hid (O1.out.step T2 (.inl (by have := M0.out; omega)))
  have R2 := Lib.hid (R1.out.step T2 (.inl (by have := M0.out; omega)))
  have MW : Hid (w.heap.size + 3 ≤ w2.heap.size) := Lib.hid (by have := M0.out; have := hs1.out; have := hb2.size; omega)
  obtain ⟨x0, x1, x2⟩ := X2.out.now.treDk
  obtain ⟨cd, hcd⟩ : ∃ cd, codeF l (r, s', t, d) = cd := ⟨_, rfl⟩
  rw [hcd] at hgo ⊢
  have HG := Lib.hid hgo
  have HCD := Lib.hid hcd
  clear hgo hcd DO T2 hb2 B1 X1 O1 R1 u0 u1 u2 u3
  by_cases gc : cd = 0
  · subst gc
    have hn2 := HOL.out.2
    by_cases g2 : o.length = 200
    · have g3 : ((n2 : Int) == 200) = true := by rw [beq_iff_eq]; omega
      have HC : Hid (codeD l o (r, s', t, d) = 4) := Lib.hid (by unfold codeD; rw [if_pos ⟨HCD.out, g2⟩])
      clear HG hn2 g2
      go_wp2_with fail
      refine (implCopyDk a0 a1 a2 n0 n1 n2 c0 c1 c2 l s o _ (H.out.next B2.out) HN.out).mono ?_
      rintro e wz ⟨p0, r0, p1, r1, p2, r2, rfl, hh, hbz⟩
      have BZ := Lib.hid (B2.out.trans (hbz.mono B2.out.size))
      have RZ := Lib.hid (R2.out.next hbz)
      have hle := MW.out
      have hle2 := hbz.size
      obtain ⟨y0, y1, y2⟩ := RZ.out.now.treDk
      have f0 := RZ.out.now.free 0
      have f1 := RZ.out.now.free 1
      have f2 := RZ.out.now.free 2
      have TT := turn_s3 wz (w.heap.size + 1 + 1) (.slice p0 l.length r0) (.slice p1 s.length r1) (.slice p2 o.length r2)
      have hsz := size_s3 wz (w.heap.size + 1 + 1) (.slice p0 l.length r0) (.slice p1 s.length r1) (.slice p2 o.length r2)
      have BF := Lib.hid (BZ.out.trans (TT.below BZ.out.size (by omega)))
      have HF := Lib.hid (hh.step TT (.inr (by omega)))
      have HS := Lib.hid hsz
      clear TT hbz hh B2 R2 X2 x0 x1 x2 BZ RZ hsz
      go_wp2_with fail
      refine bodyPost_ret (v := .tuple #[.agg #[.slice p0 l.length r0, .slice p1 s.length r1, .slice p2 o.length r2], .int .i64 4]) (by simp [results, Try.results54, go_sem, *]) rfl (act_no HC.out (by decide) ⟨p0, r0, p1, r1, p2, r2, rfl, holdsDk_widen HF.out (by omega) (by rw [HS.out]; exact Nat.le_refl _) (Nat.le_refl _), BF.out⟩)
    have g3 : ((n2 : Int) == 200) = false := by rw [beq_eq_false_iff_ne]; omega
    have HC : Hid (codeD l o (r, s', t, d) = 0) := Lib.hid (by unfold codeD; rw [if_neg (fun h => g2 h.2)]; exact HCD.out)
    obtain ⟨kvs3, M3, F3⟩ := HG.out rfl
    have e0 := codeF_zero.1 HCD.out
    rw [Bool.and_eq_true, Bool.and_eq_true] at e0
    have hnm := doF_names (filesOk_iff.1 HFL.out).2.1 e0.1
    have FS0 : Hid (∀ W, Below w2.drew.heap.size w2.drew W → Calls Try.prog 44 #[.map (some b)] W fun e w' => ∃ v, e = .returned v ∧ OwnPFi W.heap.size w' v (doF l (r, s', t, d)).1 ∧ Below W.heap.size W w') :=
      Lib.hid (fun W hW => implFiles W3.heap.size (1 + 1) b (nn + 1) kvs3 _ W (M3.next ((Below.refl _ _).drew.trans hW)) (F3.next ((Below.refl _ _).drew.trans hW)) (doF_ris HRI.out _) e0.2.2 (by omega) (fun r hr => by have := hnm r hr; unfold nmOk at this; simp only [Bool.and_eq_true, decide_eq_true_eq] at this; unfold maxLen; omega))
    clear HG M3 F3 e0 hnm hn2
    obtain ⟨o', ho'⟩ : ∃ q, o ++ [(r, s', t, d)] = q := ⟨_, rfl⟩
    obtain ⟨P', hP'⟩ : ∃ q, (doF l (r, s', t, d)).1 = q := ⟨_, rfl⟩
    have HNO := Lib.hid ho'
    have HNP := Lib.hid hP'
    rw [hP'] at FS0
    clear ho' hP'
    go_wp2_with fail
    have B0 := B2
    have X0 := X2
    have O0 := O2
    have R0 := R2
    clear B2 X2 O2 R2 x0 x1 x2
    have B1 := Lib.hid B0.out.drew
    have X1 := Lib.hid X0.out.drew
    have O1 := Lib.hid O0.out.drew
    have R1 := Lib.hid R0.out.drew
    clear B0 X0 O0 R0
    refine wp_region_held_drew (S := (fun w' => (w'.cell? ⟨w.heap.size, 0, none⟩ = some (.slice a0 n0 c0) ∧ w'.cell? ⟨w.heap.size, 1, none⟩ = some (.slice a1 n1 c1) ∧ w'.cell? ⟨w.heap.size, 2, none⟩ = some (.slice a2 n2 c2)) ∧ (w'.cell? ⟨w.heap.size + 1, 0, none⟩ = some (.int .i64 r) ∧ w'.cell? ⟨w.heap.size + 1, 1, none⟩ = some (.string s') ∧ w'.cell? ⟨w.heap.size + 1, 2, none⟩ = some (.string t) ∧ w'.cell? ⟨w.heap.size + 1, 3, none⟩ = some (.string d)))) (by kernel_rfl) ?_ (fun hHeld => ?_)
    · exact ⟨X1.out.now.treDk, O1.out.now.fourDk⟩
    have M1 : Hid (w2.heap.size ≤ w2.drew.heap.size) := Lib.hid (Nat.le_refl _)
    have FS := FS0
    clear FS0
    generalize hV1 : w2.drew = V1 at B1 X1 O1 R1 M1 FS hHeld ⊢
    clear hV1
    refine wpAnyH_take (i := 0) (v := ?_) rfl (by kernel_rfl) (by kernel_rfl) (by kernel_rfl) (fun _ _ _ h => h) (Or.inl ⟨by kernel_rfl, ?_⟩) (by assumption) ?_
    rotate_left
    · intro w hSw; (try dsimp only at hSw); go_simp; try with_reducible rfl
    refine wpAnyH_take (i := 2) (v := ?_) rfl (by kernel_rfl) (by kernel_rfl) (by kernel_rfl) (fun _ _ _ h => h) (Or.inl ⟨by kernel_rfl, ?_⟩) (by assumption) ?_
    rotate_left
    · intro w hSw; (try dsimp only at hSw); go_simp; try with_reducible rfl
    refine wpAnyH_take (i := 3) (v := ?_) rfl (by kernel_rfl) (by kernel_rfl) (by kernel_rfl) (fun _ _ _ h => h) (Or.inl ⟨by kernel_rfl, ?_⟩) (by assumption) ?_
    rotate_left
    · intro w hSw; (try dsimp only at hSw); go_simp; try with_reducible rfl
    refine wpAnyH_take (i := 5) (v := ?_) rfl (by kernel_rfl) (by kernel_rfl) (by kernel_rfl) (fun _ _ _ h => h) (Or.inl ⟨by kernel_rfl, ?_⟩) (by assumption) ?_
    rotate_left
    · intro w hSw; (try dsimp only at hSw); go_simp; try with_reducible rfl
    refine wpAnyH_take (i := 6) (v := ?_) rfl (by kernel_rfl) (by kernel_rfl) (by kernel_rfl) (fun _ _ _ h => h) (Or.inl ⟨by kernel_rfl, ?_⟩) (by assumption) ?_
    rotate_left
    · intro w hSw; (try dsimp only at hSw); go_simp; try with_reducible rfl
    refine wpAnyH_take (i := 8) (v := ?_) rfl (by kernel_rfl) (by kernel_rfl) (by kernel_rfl) (fun _ _ _ h => h) (Or.inl ⟨by kernel_rfl, ?_⟩) (by assumption) ?_
    rotate_left
    · intro w hSw; (try dsimp only at hSw); go_simp; try with_reducible rfl
    refine wpAnyH_ready (rs := [1, 9]) (by kernel_rfl) (by simp) ?_
    try simp only [Act.put, List.setIfInBounds_toArray, List.set_cons_zero, List.set_cons_succ, List.getElem_toArray, List.getElem_cons_zero, List.getElem_cons_succ]
    refine (AllReadyH.cons rfl (fun K hK => ?_) (AllReadyH.cons rfl (fun K hK => ?_) AllReadyH.nil))
    · go_simp
      refine (FS.out _ (Below.refl _ _)).mono ?_
      rintro e V2 ⟨vVA, rfl, ho, hb⟩
      obtain ⟨pVA, rVA, rfl⟩ := fi_form ho
      have M2 : Hid (V1.heap.size ≤ V2.heap.size) := Lib.hid hb.size
      have B2 := Lib.hid (B1.out.trans (hb.mono B1.out.size))
      have X2 := Lib.hid (X1.out.next hb)
      have O2 := Lib.hid (O1.out.next hb)
      have R2 := Lib.hid (R1.out.next hb)
      have hh : Holds V1.heap.size V2.heap.size V2 (OwnPCFi V1.heap.size V2.heap.size (.slice pVA P'.length rVA) P') := ⟨ownPC_livesFi, Nat.le_refl _, ho, fun j hj => (World.ownsRow.lt ho j hj).2⟩
      have VA2 := Lib.hid hh
      clear ho hb hh B1 X1 O1 R1
      go_wp2_with fail
      clear hHeld
      refine hK.out _ _ ?_ (fun hHeld => ?_)
      · exact ⟨X2.out.now.treDk, O2.out.now.fourDk⟩
      clear hK K
      refine wpAnyH_ready (rs := [4, 9]) (by kernel_rfl) (by simp) ?_
      try simp only [Act.put, List.setIfInBounds_toArray, List.set_cons_zero, List.set_cons_succ, List.getElem_toArray, List.getElem_cons_zero, List.getElem_cons_succ]
      refine (AllReadyH.cons rfl (fun K hK => ?_) (AllReadyH.cons rfl (fun K hK => ?_) AllReadyH.nil))
      · go_simp
        refine (cloneFi a1 n1 c1 s _ (H.out.2.1.nextFi B2.out) hn1).mono ?_
        rintro e V3 ⟨vVB, rfl, ho, hb⟩
        obtain ⟨pVB, rVB, rfl⟩ := fi_form ho
        have M3 : Hid (V2.heap.size ≤ V3.heap.size) := Lib.hid hb.size
        have B3 := Lib.hid (B2.out.trans (hb.mono B2.out.size))
        have X3 := Lib.hid (X2.out.next hb)
        have O3 := Lib.hid (O2.out.next hb)
        have R3 := Lib.hid (R2.out.next hb)
        have VA3 := Lib.hid (VA2.out.next hb)
        have hh : Holds V2.heap.size V3.heap.size V3 (OwnPCFi V2.heap.size V3.heap.size (.slice pVB s.length rVB) s) := ⟨ownPC_livesFi, Nat.le_refl _, ho, fun j hj => (World.ownsRow.lt ho j hj).2⟩
        have VB3 := Lib.hid hh
        clear ho hb hh B2 X2 O2 R2 VA2
        go_wp2_with fail
        clear hHeld
        refine hK.out _ _ ?_ (fun hHeld => ?_)
        · exact ⟨X3.out.now.treDk, O3.out.now.fourDk⟩
        clear hK K
        refine wpAnyH_ready (rs := [7, 9]) (by kernel_rfl) (by simp) ?_
        try simp only [Act.put, List.setIfInBounds_toArray, List.set_cons_zero, List.set_cons_succ, List.getElem_toArray, List.getElem_cons_zero, List.getElem_cons_succ]
        refine (AllReadyH.cons rfl (fun K hK => ?_) (AllReadyH.cons rfl (fun K hK => ?_) AllReadyH.nil))
        · go_simp
          refine (cloneOp a2 n2 c2 o _ (H.out.2.2.next B3.out) hn2).mono ?_
          rintro e V4 ⟨vVC, rfl, ho, hb⟩
          obtain ⟨pVC, rVC, rfl⟩ := op_form ho
          have M4 : Hid (V3.heap.size ≤ V4.heap.size) := Lib.hid hb.size
          have B4 := Lib.hid (B3.out.trans (hb.mono B3.out.size))
          have X4 := Lib.hid (X3.out.next hb)
          have O4 := Lib.hid (O3.out.next hb)
          have R4 := Lib.hid (R3.out.next hb)
          have VA4 := Lib.hid (VA3.out.next hb)
          have VB4 := Lib.hid (VB3.out.next hb)
          have hh : Holds V3.heap.size V4.heap.size V4 (OwnOpC V3.heap.size V4.heap.size (.slice pVC o.length rVC) o) := ⟨ownOpC_lives, Nat.le_refl _, ho, fun j hj => (World.ownsRow.lt ho j hj).2⟩
          have VC4 := Lib.hid hh
          clear ho hb hh B3 X3 O3 R3 VA3 VB3
          go_wp2_with fail
          clear hHeld
          refine hK.out _ _ ?_ (fun hHeld => ?_)
          · exact ⟨X4.out.now.treDk, O4.out.now.fourDk⟩
          clear hK K
          refine wpAnyH_ready (rs := [9]) (by kernel_rfl) (by simp) ?_
          try simp only [Act.put, List.setIfInBounds_toArray, List.set_cons_zero, List.set_cons_succ, List.getElem_toArray, List.getElem_cons_zero, List.getElem_cons_succ]
          refine (AllReadyH.cons rfl (fun K hK => ?_) AllReadyH.nil)
          go_simp
          have B5 := Lib.hid (B4.out.alloc B4.out.size (.cells #[.int .i64 r, .string s', .string t, .string d] 36))
          have X5 := Lib.hid (X4.out.alloc (.cells #[.int .i64 r, .string s', .string t, .string d] 36))
          have O5 := Lib.hid (O4.out.alloc (.cells #[.int .i64 r, .string s', .string t, .string d] 36))
          have R5 := Lib.hid (R4.out.alloc (.cells #[.int .i64 r, .string s', .string t, .string d] 36))
          have VA5 := Lib.hid (VA4.out.alloc (.cells #[.int .i64 r, .string s', .string t, .string d] 36))
          have VB5 := Lib.hid (VB4.out.alloc (.cells #[.int .i64 r, .string s', .string t, .string d] 36))
          have VC5 := Lib.hid (VC4.out.alloc (.cells #[.int .i64 r, .string s', .string t, .string d] 36))
          have EL5 := Lib.hid (cells_new V4 #[.int .i64 r, .string s', .string t, .string d] 36)
          have M5 : Hid (V4.heap.size + 1 ≤ (V4.alloc (.cells #[.int .i64 r, .string s', .string t, .string d] 36)).heap.size) := Lib.hid (by simp)
          clear hHeld
          refine hK.out _ _ ?_ (fun hHeld => ?_)
          · exact ⟨X5.out.now.treDk, O5.out.now.fourDk⟩
          clear hK K B4 X4 O4 R4 VA4 VB4 VC4
          generalize V4.alloc (.cells #[.int .i64 r, .string s', .string t, .string d] 36) = V5 at B5 M5 X5 O5 R5 VA5 VB5 VC5 EL5 hHeld ⊢
          refine wpAnyH_ready (rs := [10]) (by kernel_rfl) (by simp) ?_
          try simp only [Act.put, List.setIfInBounds_toArray, List.set_cons_zero, List.set_cons_succ, List.getElem_toArray, List.getElem_cons_zero, List.getElem_cons_succ]
          refine (AllReadyH.cons rfl (fun K hK => ?_) AllReadyH.nil)
          rw [if_pos (by rfl)]
          refine upon_moreOp (t := (r, s', t, d)) _ _ (by rfl) (by rfl) VC5.out.now.1 (by have q0 := MW.out; have q1 := M1.out; have q2 := M2.out; have q3 := M3.out; have q4 := M4.out; have q5 := M5.out; omega) (V4.heap.size) (by rfl) EL5.out.now.fourDk (by have := HOL.out; omega) ?_
          intro vVD V6 hv hg hat
          rw [HNO.out] at hv
          have hT := VC5.out.now.turn hg
          obtain ⟨pVD, rVD, rfl⟩ := op_form hv
          have M6 : Hid (V5.heap.size ≤ V6.heap.size) := Lib.hid hT.size
          have B6 := Lib.hid (B5.out.trans (hT.below B5.out.size (by have q0 := MW.out; have q1 := M1.out; have q2 := M2.out; have q3 := M3.out; have q4 := M4.out; have q5 := M5.out; omega)))
          have X6 := Lib.hid (X5.out.step hT (by have q0 := MW.out; have q1 := M1.out; have q2 := M2.out; have q3 := M3.out; have q4 := M4.out; have q5 := M5.out; omega))
          have O6 := Lib.hid (O5.out.step hT (by have q0 := MW.out; have q1 := M1.out; have q2 := M2.out; have q3 := M3.out; have q4 := M4.out; have q5 := M5.out; omega))
          have R6 := Lib.hid (R5.out.step hT (by have q0 := MW.out; have q1 := M1.out; have q2 := M2.out; have q3 := M3.out; have q4 := M4.out; have q5 := M5.out; omega))
          have VA6 := Lib.hid (VA5.out.step hT (by have q0 := MW.out; have q1 := M1.out; have q2 := M2.out; have q3 := M3.out; have q4 := M4.out; have q5 := M5.out; omega))
          have VB6 := Lib.hid (VB5.out.step hT (by have q0 := MW.out; have q1 := M1.out; have q2 := M2.out; have q3 := M3.out; have q4 := M4.out; have q5 := M5.out; omega))
          have hh : Holds (V3.heap.size) V6.heap.size V6 (OwnOpC (V3.heap.size) V6.heap.size (.slice pVD o'.length rVD) o') := ⟨ownOpC_lives, Nat.le_refl _, hv, fun j hj => (World.ownsRow.lt hv j hj).2⟩
          have VD6 := Lib.hid hh
          clear hh hv hg hat hT B5 X5 O5 R5 VA5 VB5 VC5 EL5
          clear hHeld
          refine hK.out _ _ ?_ (fun hHeld => ?_)
          · exact ⟨X6.out.now.treDk, O6.out.now.fourDk⟩
          clear hK K
          refine wpAnyH_take (i := 11) (v := ?_) rfl (by kernel_rfl) (by kernel_rfl) (by kernel_rfl) (fun _ _ _ h => h) (Or.inl ⟨by kernel_rfl, ?_⟩) (by assumption) ?_
          rotate_left
          · intro w hSw; (try dsimp only at hSw); go_simp; try with_reducible rfl
          refine wpAnyH_ready (rs := [12]) (by kernel_rfl) (by simp) ?_
          try simp only [Act.put, List.setIfInBounds_toArray, List.set_cons_zero, List.set_cons_succ, List.getElem_toArray, List.getElem_cons_zero, List.getElem_cons_succ]
          refine AllReadyH.cons rfl (fun K hK => ?_) AllReadyH.nil
          obtain ⟨y0, y1, y2⟩ := R6.out.now.treDk
          have f0 := R6.out.now.free 0
          have f1 := R6.out.now.free 1
          have f2 := R6.out.now.free 2
          have TT := turn_s3 V6 (w.heap.size + 1 + 1) (.slice pVA P'.length rVA) (.slice pVB s.length rVB) (.slice pVD o'.length rVD)
          have XX := X6.out.step TT (.inl (by omega))
          have XO := O6.out.step TT (.inl (by omega))
          have hsz := size_s3 V6 (w.heap.size + 1 + 1) (.slice pVA P'.length rVA) (.slice pVB s.length rVB) (.slice pVD o'.length rVD)
          have BF := B6.out.trans (TT.below B6.out.size (by omega))
          have FVA := VA6.out.step TT (by have q0 := MW.out; have q1 := M1.out; have q2 := M2.out; have q3 := M3.out; have q4 := M4.out; have q5 := M5.out; have q6 := M6.out; omega)
          have FVB := VB6.out.step TT (by have q0 := MW.out; have q1 := M1.out; have q2 := M2.out; have q3 := M3.out; have q4 := M4.out; have q5 := M5.out; have q6 := M6.out; omega)
          have FVD := VD6.out.step TT (by have q0 := MW.out; have q1 := M1.out; have q2 := M2.out; have q3 := M3.out; have q4 := M4.out; have q5 := M5.out; have q6 := M6.out; omega)
          have HF : Hid (Holds w.heap.size (((V6.setCell ⟨w.heap.size + 1 + 1, 0, none⟩ (.slice pVA P'.length rVA)).setCell ⟨w.heap.size + 1 + 1, 1, none⟩ (.slice pVB s.length rVB)).setCell ⟨w.heap.size + 1 + 1, 2, none⟩ (.slice pVD o'.length rVD)).heap.size (((V6.setCell ⟨w.heap.size + 1 + 1, 0, none⟩ (.slice pVA P'.length rVA)).setCell ⟨w.heap.size + 1 + 1, 1, none⟩ (.slice pVB s.length rVB)).setCell ⟨w.heap.size + 1 + 1, 2, none⟩ (.slice pVD o'.length rVD)) (OwnDk w.heap.size (((V6.setCell ⟨w.heap.size + 1 + 1, 0, none⟩ (.slice pVA P'.length rVA)).setCell ⟨w.heap.size + 1 + 1, 1, none⟩ (.slice pVB s.length rVB)).setCell ⟨w.heap.size + 1 + 1, 2, none⟩ (.slice pVD o'.length rVD)).heap.size (.slice pVA P'.length rVA) (.slice pVB s.length rVB) (.slice pVD o'.length rVD) P' s o')) := Lib.hid ⟨ownDk_lives, Nat.le_refl _, ⟨ownP_baseFi FVA.now.1 (by have q0 := MW.out; have q1 := M1.out; have q2 := M2.out; have q3 := M3.out; have q4 := M4.out; have q5 := M5.out; have q6 := M6.out; omega), fun i hi => by have z1 := FVA.now.2 i hi; have z2 := FVA.le; omega⟩, ⟨ownP_baseFi FVB.now.1 (by have q0 := MW.out; have q1 := M1.out; have q2 := M2.out; have q3 := M3.out; have q4 := M4.out; have q5 := M5.out; have q6 := M6.out; omega), fun i hi => by have z1 := FVB.now.2 i hi; have z2 := FVB.le; omega⟩, ⟨ownOp_base FVD.now.1 (by have q0 := MW.out; have q1 := M1.out; have q2 := M2.out; have q3 := M3.out; have q4 := M4.out; have q5 := M5.out; have q6 := M6.out; omega), fun i hi => by have z1 := FVD.now.2 i hi; have z2 := FVD.le; omega⟩, fun i h1 h2 => by have z1 := (World.ownsRow.lt FVA.now.1 i h1).1; have z2 := FVA.now.2 i h1; have z3 := (World.ownsRow.lt FVB.now.1 i h2).1; have z4 := FVB.now.2 i h2; have q0 := MW.out; have q1 := M1.out; have q2 := M2.out; have q3 := M3.out; have q4 := M4.out; have q5 := M5.out; have q6 := M6.out; omega, fun i h1 h2 => by have z1 := (World.ownsRow.lt FVA.now.1 i h1).1; have z2 := FVA.now.2 i h1; have z3 := (World.ownsRow.lt FVD.now.1 i h2).1; have z4 := FVD.now.2 i h2; have q0 := MW.out; have q1 := M1.out; have q2 := M2.out; have q3 := M3.out; have q4 := M4.out; have q5 := M5.out; have q6 := M6.out; omega, fun i h1 h2 => by have z1 := (World.ownsRow.lt FVB.now.1 i h1).1; have z2 := FVB.now.2 i h1; have z3 := (World.ownsRow.lt FVD.now.1 i h2).1; have z4 := FVD.now.2 i h2; have q0 := MW.out; have q1 := M1.out; have q2 := M2.out; have q3 := M3.out; have q4 := M4.out; have q5 := M5.out; have q6 := M6.out; omega⟩
          have HBF := Lib.hid BF
          go_simp
          clear hHeld
          refine hK.out _ _ ?_ (fun hHeld => ?_)
          · exact ⟨XX.now.treDk, XO.now.fourDk⟩
          clear hK K XX TT BF FVA FVB FVD
          refine wpAnyH_take (i := 13) (v := ?_) rfl (by kernel_rfl) (by kernel_rfl) (by kernel_rfl) (fun _ _ _ h => h) (Or.inl ⟨by kernel_rfl, ?_⟩) (by assumption) ?_
          rotate_left
          · intro w hSw; (try dsimp only at hSw); go_simp; try with_reducible rfl
          refine wpAnyH_done (by kernel_rfl) ?_ _
          try simp only [Act.put, List.setIfInBounds_toArray, List.set_cons_zero, List.set_cons_succ, List.getElem_toArray, List.getElem_cons_zero, List.getElem_cons_succ]
          go_wp2_with fail
          refine bodyPost_ret (v := .tuple #[.agg #[.slice pVA P'.length rVA, .slice pVB s.length rVB, .slice pVD o'.length rVD], .int .i64 0]) (by simp [results, Try.results54, go_sem, *]) rfl (act_ok HC.out (by rw [HNP.out, HNO.out]; exact ⟨_, _, _, _, _, _, rfl, HF.out, HBF.out⟩))
        · go_simp
          have B4 := Lib.hid (B3.out.alloc B3.out.size (.cells #[.int .i64 r, .string s', .string t, .string d] 36))
          have X4 := Lib.hid (X3.out.alloc (.cells #[.int .i64 r, .string s', .string t, .string d] 36))
          have O4 := Lib.hid (O3.out.alloc (.cells #[.int .i64 r, .string s', .string t, .string d] 36))
          have R4 := Lib.hid (R3.out.alloc (.cells #[.int .i64 r, .string s', .string t, .string d] 36))
          have VA4 := Lib.hid (VA3.out.alloc (.cells #[.int .i64 r, .string s', .string t, .string d] 36))
          have VB4 := Lib.hid (VB3.out.alloc (.cells #[.int .i64 r, .string s', .string t, .string d] 36))
          have EL4 := Lib.hid (cells_new V3 #[.int .i64 r, .string s', .string t, .string d] 36)
          have M4 : Hid (V3.heap.size + 1 ≤ (V3.alloc (.cells #[.int .i64 r, .string s', .string t, .string d] 36)).heap.size) := Lib.hid (by simp)
          clear hHeld
          refine hK.out _ _ ?_ (fun hHeld => ?_)
          · exact ⟨X4.out.now.treDk, O4.out.now.fourDk⟩
          clear hK K B3 X3 O3 R3 VA3 VB3
          generalize V3.alloc (.cells #[.int .i64 r, .string s', .string t, .string d] 36) = V4 at B4 M4 X4 O4 R4 VA4 VB4 EL4 hHeld ⊢
          refine wpAnyH_ready (rs := [7]) (by kernel_rfl) (by simp) ?_
          try simp only [Act.put, List.setIfInBounds_toArray, List.set_cons_zero, List.set_cons_succ, List.getElem_toArray, List.getElem_cons_zero, List.getElem_cons_succ]
          refine (AllReadyH.cons rfl (fun K hK => ?_) AllReadyH.nil)
          go_simp
          refine (cloneOp a2 n2 c2 o _ (H.out.2.2.next B4.out) hn2).mono ?_
          rintro e V5 ⟨vVC, rfl, ho, hb⟩
          obtain ⟨pVC, rVC, rfl⟩ := op_form ho
          have M5 : Hid (V4.heap.size ≤ V5.heap.size) := Lib.hid hb.size
          have B5 := Lib.hid (B4.out.trans (hb.mono B4.out.size))
          have X5 := Lib.hid (X4.out.next hb)
          have O5 := Lib.hid (O4.out.next hb)
          have R5 := Lib.hid (R4.out.next hb)
          have VA5 := Lib.hid (VA4.out.next hb)
          have VB5 := Lib.hid (VB4.out.next hb)
          have EL5 := Lib.hid (EL4.out.next hb)
          have hh : Holds V4.heap.size V5.heap.size V5 (OwnOpC V4.heap.size V5.heap.size (.slice pVC o.length rVC) o) := ⟨ownOpC_lives, Nat.le_refl _, ho, fun j hj => (World.ownsRow.lt ho j hj).2⟩
          have VC5 := Lib.hid hh
          clear ho hb hh B4 X4 O4 R4 VA4 VB4 EL4
          go_wp2_with fail
          clear hHeld
          refine hK.out _ _ ?_ (fun hHeld => ?_)
          · exact ⟨X5.out.now.treDk, O5.out.now.fourDk⟩
          clear hK K
          refine wpAnyH_ready (rs := [10]) (by kernel_rfl) (by simp) ?_
          try simp only [Act.put, List.setIfInBounds_toArray, List.set_cons_zero, List.set_cons_succ, List.getElem_toArray, List.getElem_cons_zero, List.getElem_cons_succ]
          refine (AllReadyH.cons rfl (fun K hK => ?_) AllReadyH.nil)
          rw [if_pos (by rfl)]
          refine upon_moreOp (t := (r, s', t, d)) _ _ (by rfl) (by rfl) VC5.out.now.1 (by have q0 := MW.out; have q1 := M1.out; have q2 := M2.out; have q3 := M3.out; have q4 := M4.out; have q5 := M5.out; omega) (V3.heap.size) (by rfl) EL5.out.now.fourDk (by have := HOL.out; omega) ?_
          intro vVD V6 hv hg hat
          rw [HNO.out] at hv
          have hT := VC5.out.now.turn hg
          obtain ⟨pVD, rVD, rfl⟩ := op_form hv
          have M6 : Hid (V5.heap.size ≤ V6.heap.size) := Lib.hid hT.size
          have B6 := Lib.hid (B5.out.trans (hT.below B5.out.size (by have q0 := MW.out; have q1 := M1.out; have q2 := M2.out; have q3 := M3.out; have q4 := M4.out; have q5 := M5.out; omega)))
          have X6 := Lib.hid (X5.out.step hT (by have q0 := MW.out; have q1 := M1.out; have q2 := M2.out; have q3 := M3.out; have q4 := M4.out; have q5 := M5.out; omega))
          have O6 := Lib.hid (O5.out.step hT (by have q0 := MW.out; have q1 := M1.out; have q2 := M2.out; have q3 := M3.out; have q4 := M4.out; have q5 := M5.out; omega))
          have R6 := Lib.hid (R5.out.step hT (by have q0 := MW.out; have q1 := M1.out; have q2 := M2.out; have q3 := M3.out; have q4 := M4.out; have q5 := M5.out; omega))
          have VA6 := Lib.hid (VA5.out.step hT (by have q0 := MW.out; have q1 := M1.out; have q2 := M2.out; have q3 := M3.out; have q4 := M4.out; have q5 := M5.out; omega))
          have VB6 := Lib.hid (VB5.out.step hT (by have q0 := MW.out; have q1 := M1.out; have q2 := M2.out; have q3 := M3.out; have q4 := M4.out; have q5 := M5.out; omega))
          have hh : Holds (V4.heap.size) V6.heap.size V6 (OwnOpC (V4.heap.size) V6.heap.size (.slice pVD o'.length rVD) o') := ⟨ownOpC_lives, Nat.le_refl _, hv, fun j hj => (World.ownsRow.lt hv j hj).2⟩
          have VD6 := Lib.hid hh
          clear hh hv hg hat hT B5 X5 O5 R5 VA5 VB5 EL5 VC5
          clear hHeld
          refine hK.out _ _ ?_ (fun hHeld => ?_)
          · exact ⟨X6.out.now.treDk, O6.out.now.fourDk⟩
          clear hK K
          refine wpAnyH_take (i := 11) (v := ?_) rfl (by kernel_rfl) (by kernel_rfl) (by kernel_rfl) (fun _ _ _ h => h) (Or.inl ⟨by kernel_rfl, ?_⟩) (by assumption) ?_
          rotate_left
          · intro w hSw; (try dsimp only at hSw); go_simp; try with_reducible rfl
          refine wpAnyH_ready (rs := [12]) (by kernel_rfl) (by simp) ?_
          try simp only [Act.put, List.setIfInBounds_toArray, List.set_cons_zero, List.set_cons_succ, List.getElem_toArray, List.getElem_cons_zero, List.getElem_cons_succ]
          refine AllReadyH.cons rfl (fun K hK => ?_) AllReadyH.nil
          obtain ⟨y0, y1, y2⟩ := R6.out.now.treDk
          have f0 := R6.out.now.free 0
          have f1 := R6.out.now.free 1
          have f2 := R6.out.now.free 2
          have TT := turn_s3 V6 (w.heap.size + 1 + 1) (.slice pVA P'.length rVA) (.slice pVB s.length rVB) (.slice pVD o'.length rVD)
          have XX := X6.out.step TT (.inl (by omega))
          have XO := O6.out.step TT (.inl (by omega))
          have hsz := size_s3 V6 (w.heap.size + 1 + 1) (.slice pVA P'.length rVA) (.slice pVB s.length rVB) (.slice pVD o'.length rVD)
          have BF := B6.out.trans (TT.below B6.out.size (by omega))
          have FVA := VA6.out.step TT (by have q0 := MW.out; have q1 := M1.out; have q2 := M2.out; have q3 := M3.out; have q4 := M4.out; have q5 := M5.out; have q6 := M6.out; omega)
          have FVB := VB6.out.step TT (by have q0 := MW.out; have q1 := M1.out; have q2 := M2.out; have q3 := M3.out; have q4 := M4.out; have q5 := M5.out; have q6 := M6.out; omega)
          have FVD := VD6.out.step TT (by have q0 := MW.out; have q1 := M1.out; have q2 := M2.out; have q3 := M3.out; have q4 := M4.out; have q5 := M5.out; have q6 := M6.out; omega)
          have HF : Hid (Holds w.heap.size (((V6.setCell ⟨w.heap.size + 1 + 1, 0, none⟩ (.slice pVA P'.length rVA)).setCell ⟨w.heap.size + 1 + 1, 1, none⟩ (.slice pVB s.length rVB)).setCell ⟨w.heap.size + 1 + 1, 2, none⟩ (.slice pVD o'.length rVD)).heap.size (((V6.setCell ⟨w.heap.size + 1 + 1, 0, none⟩ (.slice pVA P'.length rVA)).setCell ⟨w.heap.size + 1 + 1, 1, none⟩ (.slice pVB s.length rVB)).setCell ⟨w.heap.size + 1 + 1, 2, none⟩ (.slice pVD o'.length rVD)) (OwnDk w.heap.size (((V6.setCell ⟨w.heap.size + 1 + 1, 0, none⟩ (.slice pVA P'.length rVA)).setCell ⟨w.heap.size + 1 + 1, 1, none⟩ (.slice pVB s.length rVB)).setCell ⟨w.heap.size + 1 + 1, 2, none⟩ (.slice pVD o'.length rVD)).heap.size (.slice pVA P'.length rVA) (.slice pVB s.length rVB) (.slice pVD o'.length rVD) P' s o')) := Lib.hid ⟨ownDk_lives, Nat.le_refl _, ⟨ownP_baseFi FVA.now.1 (by have q0 := MW.out; have q1 := M1.out; have q2 := M2.out; have q3 := M3.out; have q4 := M4.out; have q5 := M5.out; have q6 := M6.out; omega), fun i hi => by have z1 := FVA.now.2 i hi; have z2 := FVA.le; omega⟩, ⟨ownP_baseFi FVB.now.1 (by have q0 := MW.out; have q1 := M1.out; have q2 := M2.out; have q3 := M3.out; have q4 := M4.out; have q5 := M5.out; have q6 := M6.out; omega), fun i hi => by have z1 := FVB.now.2 i hi; have z2 := FVB.le; omega⟩, ⟨ownOp_base FVD.now.1 (by have q0 := MW.out; have q1 := M1.out; have q2 := M2.out; have q3 := M3.out; have q4 := M4.out; have q5 := M5.out; have q6 := M6.out; omega), fun i hi => by have z1 := FVD.now.2 i hi; have z2 := FVD.le; omega⟩, fun i h1 h2 => by have z1 := (World.ownsRow.lt FVA.now.1 i h1).1; have z2 := FVA.now.2 i h1; have z3 := (World.ownsRow.lt FVB.now.1 i h2).1; have z4 := FVB.now.2 i h2; have q0 := MW.out; have q1 := M1.out; have q2 := M2.out; have q3 := M3.out; have q4 := M4.out; have q5 := M5.out; have q6 := M6.out; omega, fun i h1 h2 => by have z1 := (World.ownsRow.lt FVA.now.1 i h1).1; have z2 := FVA.now.2 i h1; have z3 := (World.ownsRow.lt FVD.now.1 i h2).1; have z4 := FVD.now.2 i h2; have q0 := MW.out; have q1 := M1.out; have q2 := M2.out; have q3 := M3.out; have q4 := M4.out; have q5 := M5.out; have q6 := M6.out; omega, fun i h1 h2 => by have z1 := (World.ownsRow.lt FVB.now.1 i h1).1; have z2 := FVB.now.2 i h1; have z3 := (World.ownsRow.lt FVD.now.1 i h2).1; have z4 := FVD.now.2 i h2; have q0 := MW.out; have q1 := M1.out; have q2 := M2.out; have q3 := M3.out; have q4 := M4.out; have q5 := M5.out; have q6 := M6.out; omega⟩
          have HBF := Lib.hid BF
          go_simp
          clear hHeld
          refine hK.out _ _ ?_ (fun hHeld => ?_)
          · exact ⟨XX.now.treDk, XO.now.fourDk⟩
          clear hK K XX TT BF FVA FVB FVD
          refine wpAnyH_take (i := 13) (v := ?_) rfl (by kernel_rfl) (by kernel_rfl) (by kernel_rfl) (fun _ _ _ h => h) (Or.inl ⟨by kernel_rfl, ?_⟩) (by assumption) ?_
          rotate_left
          · intro w hSw; (try dsimp only at hSw); go_simp; try with_reducible rfl
          refine wpAnyH_done (by kernel_rfl) ?_ _
          try simp only [Act.put, List.setIfInBounds_toArray, List.set_cons_zero, List.set_cons_succ, List.getElem_toArray, List.getElem_cons_zero, List.getElem_cons_succ]
          go_wp2_with fail
          refine bodyPost_ret (v := .tuple #[.agg #[.slice pVA P'.length rVA, .slice pVB s.length rVB, .slice pVD o'.length rVD], .int .i64 0]) (by simp [results, Try.results54, go_sem, *]) rfl (act_ok HC.out (by rw [HNP.out, HNO.out]; exact ⟨_, _, _, _, _, _, rfl, HF.out, HBF.out⟩))
      · go_simp
        have B3 := Lib.hid (B2.out.alloc B2.out.size (.cells #[.int .i64 r, .string s', .string t, .string d] 36))
        have X3 := Lib.hid (X2.out.alloc (.cells #[.int .i64 r, .string s', .string t, .string d] 36))
        have O3 := Lib.hid (O2.out.alloc (.cells #[.int .i64 r, .string s', .string t, .string d] 36))
        have R3 := Lib.hid (R2.out.alloc (.cells #[.int .i64 r, .string s', .string t, .string d] 36))
        have VA3 := Lib.hid (VA2.out.alloc (.cells #[.int .i64 r, .string s', .string t, .string d] 36))
        have EL3 := Lib.hid (cells_new V2 #[.int .i64 r, .string s', .string t, .string d] 36)
        have M3 : Hid (V2.heap.size + 1 ≤ (V2.alloc (.cells #[.int .i64 r, .string s', .string t, .string d] 36)).heap.size) := Lib.hid (by simp)
        clear hHeld
        refine hK.out _ _ ?_ (fun hHeld => ?_)
        · exact ⟨X3.out.now.treDk, O3.out.now.fourDk⟩
        clear hK K B2 X2 O2 R2 VA2
        generalize V2.alloc (.cells #[.int .i64 r, .string s', .string t, .string d] 36) = V3 at B3 M3 X3 O3 R3 VA3 EL3 hHeld ⊢
        refine wpAnyH_ready (rs := [4]) (by kernel_rfl) (by simp) ?_
        try simp only [Act.put, List.setIfInBounds_toArray, List.set_cons_zero, List.set_cons_succ, List.getElem_toArray, List.getElem_cons_zero, List.getElem_cons_succ]
        refine (AllReadyH.cons rfl (fun K hK => ?_) AllReadyH.nil)
        go_simp
        refine (cloneFi a1 n1 c1 s _ (H.out.2.1.nextFi B3.out) hn1).mono ?_
        rintro e V4 ⟨vVB, rfl, ho, hb⟩
        obtain ⟨pVB, rVB, rfl⟩ := fi_form ho
        have M4 : Hid (V3.heap.size ≤ V4.heap.size) := Lib.hid hb.size
        have B4 := Lib.hid (B3.out.trans (hb.mono B3.out.size))
        have X4 := Lib.hid (X3.out.next hb)
        have O4 := Lib.hid (O3.out.next hb)
        have R4 := Lib.hid (R3.out.next hb)
        have VA4 := Lib.hid (VA3.out.next hb)
        have EL4 := Lib.hid (EL3.out.next hb)
        have hh : Holds V3.heap.size V4.heap.size V4 (OwnPCFi V3.heap.size V4.heap.size (.slice pVB s.length rVB) s) := ⟨ownPC_livesFi, Nat.le_refl _, ho, fun j hj => (World.ownsRow.lt ho j hj).2⟩
        have VB4 := Lib.hid hh
        clear ho hb hh B3 X3 O3 R3 VA3 EL3
        go_wp2_with fail
        clear hHeld
        refine hK.out _ _ ?_ (fun hHeld => ?_)
        · exact ⟨X4.out.now.treDk, O4.out.now.fourDk⟩
        clear hK K
        refine wpAnyH_ready (rs := [7]) (by kernel_rfl) (by simp) ?_
        try simp only [Act.put, List.setIfInBounds_toArray, List.set_cons_zero, List.set_cons_succ, List.getElem_toArray, List.getElem_cons_zero, List.getElem_cons_succ]
        refine (AllReadyH.cons rfl (fun K hK => ?_) AllReadyH.nil)
        go_simp
        refine (cloneOp a2 n2 c2 o _ (H.out.2.2.next B4.out) hn2).mono ?_
        rintro e V5 ⟨vVC, rfl, ho, hb⟩
        obtain ⟨pVC, rVC, rfl⟩ := op_form ho
        have M5 : Hid (V4.heap.size ≤ V5.heap.size) := Lib.hid hb.size
        have B5 := Lib.hid (B4.out.trans (hb.mono B4.out.size))
        have X5 := Lib.hid (X4.out.next hb)
        have O5 := Lib.hid (O4.out.next hb)
        have R5 := Lib.hid (R4.out.next hb)
        have VA5 := Lib.hid (VA4.out.next hb)
        have EL5 := Lib.hid (EL4.out.next hb)
        have VB5 := Lib.hid (VB4.out.next hb)
        have hh : Holds V4.heap.size V5.heap.size V5 (OwnOpC V4.heap.size V5.heap.size (.slice pVC o.length rVC) o) := ⟨ownOpC_lives, Nat.le_refl _, ho, fun j hj => (World.ownsRow.lt ho j hj).2⟩
        have VC5 := Lib.hid hh
        clear ho hb hh B4 X4 O4 R4 VA4 EL4 VB4
        go_wp2_with fail
        clear hHeld
        refine hK.out _ _ ?_ (fun hHeld => ?_)
        · exact ⟨X5.out.now.treDk, O5.out.now.fourDk⟩
        clear hK K
        refine wpAnyH_ready (rs := [10]) (by kernel_rfl) (by simp) ?_
        try simp only [Act.put, List.setIfInBounds_toArray, List.set_cons_zero, List.set_cons_succ, List.getElem_toArray, List.getElem_cons_zero, List.getElem_cons_succ]
        refine (AllReadyH.cons rfl (fun K hK => ?_) AllReadyH.nil)
        rw [if_pos (by rfl)]
        refine upon_moreOp (t := (r, s', t, d)) _ _ (by rfl) (by rfl) VC5.out.now.1 (by have q0 := MW.out; have q1 := M1.out; have q2 := M2.out; have q3 := M3.out; have q4 := M4.out; have q5 := M5.out; omega) (V2.heap.size) (by rfl) EL5.out.now.fourDk (by have := HOL.out; omega) ?_
        intro vVD V6 hv hg hat
        rw [HNO.out] at hv
        have hT := VC5.out.now.turn hg
        obtain ⟨pVD, rVD, rfl⟩ := op_form hv
        have M6 : Hid (V5.heap.size ≤ V6.heap.size) := Lib.hid hT.size
        have B6 := Lib.hid (B5.out.trans (hT.below B5.out.size (by have q0 := MW.out; have q1 := M1.out; have q2 := M2.out; have q3 := M3.out; have q4 := M4.out; have q5 := M5.out; omega)))
        have X6 := Lib.hid (X5.out.step hT (by have q0 := MW.out; have q1 := M1.out; have q2 := M2.out; have q3 := M3.out; have q4 := M4.out; have q5 := M5.out; omega))
        have O6 := Lib.hid (O5.out.step hT (by have q0 := MW.out; have q1 := M1.out; have q2 := M2.out; have q3 := M3.out; have q4 := M4.out; have q5 := M5.out; omega))
        have R6 := Lib.hid (R5.out.step hT (by have q0 := MW.out; have q1 := M1.out; have q2 := M2.out; have q3 := M3.out; have q4 := M4.out; have q5 := M5.out; omega))
        have VA6 := Lib.hid (VA5.out.step hT (by have q0 := MW.out; have q1 := M1.out; have q2 := M2.out; have q3 := M3.out; have q4 := M4.out; have q5 := M5.out; omega))
        have VB6 := Lib.hid (VB5.out.step hT (by have q0 := MW.out; have q1 := M1.out; have q2 := M2.out; have q3 := M3.out; have q4 := M4.out; have q5 := M5.out; omega))
        have hh : Holds (V4.heap.size) V6.heap.size V6 (OwnOpC (V4.heap.size) V6.heap.size (.slice pVD o'.length rVD) o') := ⟨ownOpC_lives, Nat.le_refl _, hv, fun j hj => (World.ownsRow.lt hv j hj).2⟩
        have VD6 := Lib.hid hh
        clear hh hv hg hat hT B5 X5 O5 R5 VA5 EL5 VB5 VC5
        clear hHeld
        refine hK.out _ _ ?_ (fun hHeld => ?_)
        · exact ⟨X6.out.now.treDk, O6.out.now.fourDk⟩
        clear hK K
        refine wpAnyH_take (i := 11) (v := ?_) rfl (by kernel_rfl) (by kernel_rfl) (by kernel_rfl) (fun _ _ _ h => h) (Or.inl ⟨by kernel_rfl, ?_⟩) (by assumption) ?_
        rotate_left
        · intro w hSw; (try dsimp only at hSw); go_simp; try with_reducible rfl
        refine wpAnyH_ready (rs := [12]) (by kernel_rfl) (by simp) ?_
        try simp only [Act.put, List.setIfInBounds_toArray, List.set_cons_zero, List.set_cons_succ, List.getElem_toArray, List.getElem_cons_zero, List.getElem_cons_succ]
        refine AllReadyH.cons rfl (fun K hK => ?_) AllReadyH.nil
        obtain ⟨y0, y1, y2⟩ := R6.out.now.treDk
        have f0 := R6.out.now.free 0
        have f1 := R6.out.now.free 1
        have f2 := R6.out.now.free 2
        have TT := turn_s3 V6 (w.heap.size + 1 + 1) (.slice pVA P'.length rVA) (.slice pVB s.length rVB) (.slice pVD o'.length rVD)
        have XX := X6.out.step TT (.inl (by omega))
        have XO := O6.out.step TT (.inl (by omega))
        have hsz := size_s3 V6 (w.heap.size + 1 + 1) (.slice pVA P'.length rVA) (.slice pVB s.length rVB) (.slice pVD o'.length rVD)
        have BF := B6.out.trans (TT.below B6.out.size (by omega))
        have FVA := VA6.out.step TT (by have q0 := MW.out; have q1 := M1.out; have q2 := M2.out; have q3 := M3.out; have q4 := M4.out; have q5 := M5.out; have q6 := M6.out; omega)
        have FVB := VB6.out.step TT (by have q0 := MW.out; have q1 := M1.out; have q2 := M2.out; have q3 := M3.out; have q4 := M4.out; have q5 := M5.out; have q6 := M6.out; omega)
        have FVD := VD6.out.step TT (by have q0 := MW.out; have q1 := M1.out; have q2 := M2.out; have q3 := M3.out; have q4 := M4.out; have q5 := M5.out; have q6 := M6.out; omega)
        have HF : Hid (Holds w.heap.size (((V6.setCell ⟨w.heap.size + 1 + 1, 0, none⟩ (.slice pVA P'.length rVA)).setCell ⟨w.heap.size + 1 + 1, 1, none⟩ (.slice pVB s.length rVB)).setCell ⟨w.heap.size + 1 + 1, 2, none⟩ (.slice pVD o'.length rVD)).heap.size (((V6.setCell ⟨w.heap.size + 1 + 1, 0, none⟩ (.slice pVA P'.length rVA)).setCell ⟨w.heap.size + 1 + 1, 1, none⟩ (.slice pVB s.length rVB)).setCell ⟨w.heap.size + 1 + 1, 2, none⟩ (.slice pVD o'.length rVD)) (OwnDk w.heap.size (((V6.setCell ⟨w.heap.size + 1 + 1, 0, none⟩ (.slice pVA P'.length rVA)).setCell ⟨w.heap.size + 1 + 1, 1, none⟩ (.slice pVB s.length rVB)).setCell ⟨w.heap.size + 1 + 1, 2, none⟩ (.slice pVD o'.length rVD)).heap.size (.slice pVA P'.length rVA) (.slice pVB s.length rVB) (.slice pVD o'.length rVD) P' s o')) := Lib.hid ⟨ownDk_lives, Nat.le_refl _, ⟨ownP_baseFi FVA.now.1 (by have q0 := MW.out; have q1 := M1.out; have q2 := M2.out; have q3 := M3.out; have q4 := M4.out; have q5 := M5.out; have q6 := M6.out; omega), fun i hi => by have z1 := FVA.now.2 i hi; have z2 := FVA.le; omega⟩, ⟨ownP_baseFi FVB.now.1 (by have q0 := MW.out; have q1 := M1.out; have q2 := M2.out; have q3 := M3.out; have q4 := M4.out; have q5 := M5.out; have q6 := M6.out; omega), fun i hi => by have z1 := FVB.now.2 i hi; have z2 := FVB.le; omega⟩, ⟨ownOp_base FVD.now.1 (by have q0 := MW.out; have q1 := M1.out; have q2 := M2.out; have q3 := M3.out; have q4 := M4.out; have q5 := M5.out; have q6 := M6.out; omega), fun i hi => by have z1 := FVD.now.2 i hi; have z2 := FVD.le; omega⟩, fun i h1 h2 => by have z1 := (World.ownsRow.lt FVA.now.1 i h1).1; have z2 := FVA.now.2 i h1; have z3 := (World.ownsRow.lt FVB.now.1 i h2).1; have z4 := FVB.now.2 i h2; have q0 := MW.out; have q1 := M1.out; have q2 := M2.out; have q3 := M3.out; have q4 := M4.out; have q5 := M5.out; have q6 := M6.out; omega, fun i h1 h2 => by have z1 := (World.ownsRow.lt FVA.now.1 i h1).1; have z2 := FVA.now.2 i h1; have z3 := (World.ownsRow.lt FVD.now.1 i h2).1; have z4 := FVD.now.2 i h2; have q0 := MW.out; have q1 := M1.out; have q2 := M2.out; have q3 := M3.out; have q4 := M4.out; have q5 := M5.out; have q6 := M6.out; omega, fun i h1 h2 => by have z1 := (World.ownsRow.lt FVB.now.1 i h1).1; have z2 := FVB.now.2 i h1; have z3 := (World.ownsRow.lt FVD.now.1 i h2).1; have z4 := FVD.now.2 i h2; have q0 := MW.out; have q1 := M1.out; have q2 := M2.out; have q3 := M3.out; have q4 := M4.out; have q5 := M5.out; have q6 := M6.out; omega⟩
        have HBF := Lib.hid BF
        go_simp
        clear hHeld
        refine hK.out _ _ ?_ (fun hHeld => ?_)
        · exact ⟨XX.now.treDk, XO.now.fourDk⟩
        clear hK K XX TT BF FVA FVB FVD
        refine wpAnyH_take (i := 13) (v := ?_) rfl (by kernel_rfl) (by kernel_rfl) (by kernel_rfl) (fun _ _ _ h => h) (Or.inl ⟨by kernel_rfl, ?_⟩) (by assumption) ?_
        rotate_left
        · intro w hSw; (try dsimp only at hSw); go_simp; try with_reducible rfl
        refine wpAnyH_done (by kernel_rfl) ?_ _
        try simp only [Act.put, List.setIfInBounds_toArray, List.set_cons_zero, List.set_cons_succ, List.getElem_toArray, List.getElem_cons_zero, List.getElem_cons_succ]
        go_wp2_with fail
        refine bodyPost_ret (v := .tuple #[.agg #[.slice pVA P'.length rVA, .slice pVB s.length rVB, .slice pVD o'.length rVD], .int .i64 0]) (by simp [results, Try.results54, go_sem, *]) rfl (act_ok HC.out (by rw [HNP.out, HNO.out]; exact ⟨_, _, _, _, _, _, rfl, HF.out, HBF.out⟩))
    · go_simp
      have B2 := Lib.hid (B1.out.alloc B1.out.size (.cells #[.int .i64 r, .string s', .string t, .string d] 36))
      have X2 := Lib.hid (X1.out.alloc (.cells #[.int .i64 r, .string s', .string t, .string d] 36))
      have O2 := Lib.hid (O1.out.alloc (.cells #[.int .i64 r, .string s', .string t, .string d] 36))
      have R2 := Lib.hid (R1.out.alloc (.cells #[.int .i64 r, .string s', .string t, .string d] 36))
      have EL2 := Lib.hid (cells_new V1 #[.int .i64 r, .string s', .string t, .string d] 36)
      have M2 : Hid (V1.heap.size + 1 ≤ (V1.alloc (.cells #[.int .i64 r, .string s', .string t, .string d] 36)).heap.size) := Lib.hid (by simp)
      have NB := Lib.hid ((Below.refl V1.heap.size V1).alloc (Nat.le_refl _) (.cells #[.int .i64 r, .string s', .string t, .string d] 36))
      clear hHeld
      refine hK.out _ _ ?_ (fun hHeld => ?_)
      · exact ⟨X2.out.now.treDk, O2.out.now.fourDk⟩
      clear hK K B1 X1 O1 R1
      generalize V1.alloc (.cells #[.int .i64 r, .string s', .string t, .string d] 36) = V2 at B2 M2 NB X2 O2 R2 EL2 hHeld ⊢
      refine wpAnyH_ready (rs := [1]) (by kernel_rfl) (by simp) ?_
      try simp only [Act.put, List.setIfInBounds_toArray, List.set_cons_zero, List.set_cons_succ, List.getElem_toArray, List.getElem_cons_zero, List.getElem_cons_succ]
      refine (AllReadyH.cons rfl (fun K hK => ?_) AllReadyH.nil)
      go_simp
      refine (FS.out _ (NB.out)).mono ?_
      rintro e V3 ⟨vVA, rfl, ho, hb⟩
      obtain ⟨pVA, rVA, rfl⟩ := fi_form ho
      have M3 : Hid (V2.heap.size ≤ V3.heap.size) := Lib.hid hb.size
      have B3 := Lib.hid (B2.out.trans (hb.mono B2.out.size))
      have X3 := Lib.hid (X2.out.next hb)
      have O3 := Lib.hid (O2.out.next hb)
      have R3 := Lib.hid (R2.out.next hb)
      have EL3 := Lib.hid (EL2.out.next hb)
      have hh : Holds V2.heap.size V3.heap.size V3 (OwnPCFi V2.heap.size V3.heap.size (.slice pVA P'.length rVA) P') := ⟨ownPC_livesFi, Nat.le_refl _, ho, fun j hj => (World.ownsRow.lt ho j hj).2⟩
      have VA3 := Lib.hid hh
      clear ho hb hh B2 X2 O2 R2 EL2
      go_wp2_with fail
      clear hHeld
      refine hK.out _ _ ?_ (fun hHeld => ?_)
      · exact ⟨X3.out.now.treDk, O3.out.now.fourDk⟩
      clear hK K
      refine wpAnyH_ready (rs := [4]) (by kernel_rfl) (by simp) ?_
      try simp only [Act.put, List.setIfInBounds_toArray, List.set_cons_zero, List.set_cons_succ, List.getElem_toArray, List.getElem_cons_zero, List.getElem_cons_succ]
      refine (AllReadyH.cons rfl (fun K hK => ?_) AllReadyH.nil)
      go_simp
      refine (cloneFi a1 n1 c1 s _ (H.out.2.1.nextFi B3.out) hn1).mono ?_
      rintro e V4 ⟨vVB, rfl, ho, hb⟩
      obtain ⟨pVB, rVB, rfl⟩ := fi_form ho
      have M4 : Hid (V3.heap.size ≤ V4.heap.size) := Lib.hid hb.size
      have B4 := Lib.hid (B3.out.trans (hb.mono B3.out.size))
      have X4 := Lib.hid (X3.out.next hb)
      have O4 := Lib.hid (O3.out.next hb)
      have R4 := Lib.hid (R3.out.next hb)
      have EL4 := Lib.hid (EL3.out.next hb)
      have VA4 := Lib.hid (VA3.out.next hb)
      have hh : Holds V3.heap.size V4.heap.size V4 (OwnPCFi V3.heap.size V4.heap.size (.slice pVB s.length rVB) s) := ⟨ownPC_livesFi, Nat.le_refl _, ho, fun j hj => (World.ownsRow.lt ho j hj).2⟩
      have VB4 := Lib.hid hh
      clear ho hb hh B3 X3 O3 R3 EL3 VA3
      go_wp2_with fail
      clear hHeld
      refine hK.out _ _ ?_ (fun hHeld => ?_)
      · exact ⟨X4.out.now.treDk, O4.out.now.fourDk⟩
      clear hK K
      refine wpAnyH_ready (rs := [7]) (by kernel_rfl) (by simp) ?_
      try simp only [Act.put, List.setIfInBounds_toArray, List.set_cons_zero, List.set_cons_succ, List.getElem_toArray, List.getElem_cons_zero, List.getElem_cons_succ]
      refine (AllReadyH.cons rfl (fun K hK => ?_) AllReadyH.nil)
      go_simp
      refine (cloneOp a2 n2 c2 o _ (H.out.2.2.next B4.out) hn2).mono ?_
      rintro e V5 ⟨vVC, rfl, ho, hb⟩
      obtain ⟨pVC, rVC, rfl⟩ := op_form ho
      have M5 : Hid (V4.heap.size ≤ V5.heap.size) := Lib.hid hb.size
      have B5 := Lib.hid (B4.out.trans (hb.mono B4.out.size))
      have X5 := Lib.hid (X4.out.next hb)
      have O5 := Lib.hid (O4.out.next hb)
      have R5 := Lib.hid (R4.out.next hb)
      have EL5 := Lib.hid (EL4.out.next hb)
      have VA5 := Lib.hid (VA4.out.next hb)
      have VB5 := Lib.hid (VB4.out.next hb)
      have hh : Holds V4.heap.size V5.heap.size V5 (OwnOpC V4.heap.size V5.heap.size (.slice pVC o.length rVC) o) := ⟨ownOpC_lives, Nat.le_refl _, ho, fun j hj => (World.ownsRow.lt ho j hj).2⟩
      have VC5 := Lib.hid hh
      clear ho hb hh B4 X4 O4 R4 EL4 VA4 VB4
      go_wp2_with fail
      clear hHeld
      refine hK.out _ _ ?_ (fun hHeld => ?_)
      · exact ⟨X5.out.now.treDk, O5.out.now.fourDk⟩
      clear hK K
      refine wpAnyH_ready (rs := [10]) (by kernel_rfl) (by simp) ?_
      try simp only [Act.put, List.setIfInBounds_toArray, List.set_cons_zero, List.set_cons_succ, List.getElem_toArray, List.getElem_cons_zero, List.getElem_cons_succ]
      refine (AllReadyH.cons rfl (fun K hK => ?_) AllReadyH.nil)
      rw [if_pos (by rfl)]
      refine upon_moreOp (t := (r, s', t, d)) _ _ (by rfl) (by rfl) VC5.out.now.1 (by have q0 := MW.out; have q1 := M1.out; have q2 := M2.out; have q3 := M3.out; have q4 := M4.out; have q5 := M5.out; omega) (V1.heap.size) (by rfl) EL5.out.now.fourDk (by have := HOL.out; omega) ?_
      intro vVD V6 hv hg hat
      rw [HNO.out] at hv
      have hT := VC5.out.now.turn hg
      obtain ⟨pVD, rVD, rfl⟩ := op_form hv
      have M6 : Hid (V5.heap.size ≤ V6.heap.size) := Lib.hid hT.size
      have B6 := Lib.hid (B5.out.trans (hT.below B5.out.size (by have q0 := MW.out; have q1 := M1.out; have q2 := M2.out; have q3 := M3.out; have q4 := M4.out; have q5 := M5.out; omega)))
      have X6 := Lib.hid (X5.out.step hT (by have q0 := MW.out; have q1 := M1.out; have q2 := M2.out; have q3 := M3.out; have q4 := M4.out; have q5 := M5.out; omega))
      have O6 := Lib.hid (O5.out.step hT (by have q0 := MW.out; have q1 := M1.out; have q2 := M2.out; have q3 := M3.out; have q4 := M4.out; have q5 := M5.out; omega))
      have R6 := Lib.hid (R5.out.step hT (by have q0 := MW.out; have q1 := M1.out; have q2 := M2.out; have q3 := M3.out; have q4 := M4.out; have q5 := M5.out; omega))
      have VA6 := Lib.hid (VA5.out.step hT (by have q0 := MW.out; have q1 := M1.out; have q2 := M2.out; have q3 := M3.out; have q4 := M4.out; have q5 := M5.out; omega))
      have VB6 := Lib.hid (VB5.out.step hT (by have q0 := MW.out; have q1 := M1.out; have q2 := M2.out; have q3 := M3.out; have q4 := M4.out; have q5 := M5.out; omega))
      have hh : Holds (V4.heap.size) V6.heap.size V6 (OwnOpC (V4.heap.size) V6.heap.size (.slice pVD o'.length rVD) o') := ⟨ownOpC_lives, Nat.le_refl _, hv, fun j hj => (World.ownsRow.lt hv j hj).2⟩
      have VD6 := Lib.hid hh
      clear hh hv hg hat hT B5 X5 O5 R5 EL5 VA5 VB5 VC5
      clear hHeld
      refine hK.out _ _ ?_ (fun hHeld => ?_)
      · exact ⟨X6.out.now.treDk, O6.out.now.fourDk⟩
      clear hK K
      refine wpAnyH_take (i := 11) (v := ?_) rfl (by kernel_rfl) (by kernel_rfl) (by kernel_rfl) (fun _ _ _ h => h) (Or.inl ⟨by kernel_rfl, ?_⟩) (by assumption) ?_
      rotate_left
      · intro w hSw; (try dsimp only at hSw); go_simp; try with_reducible rfl
      refine wpAnyH_ready (rs := [12]) (by kernel_rfl) (by simp) ?_
      try simp only [Act.put, List.setIfInBounds_toArray, List.set_cons_zero, List.set_cons_succ, List.getElem_toArray, List.getElem_cons_zero, List.getElem_cons_succ]
      refine AllReadyH.cons rfl (fun K hK => ?_) AllReadyH.nil
      obtain ⟨y0, y1, y2⟩ := R6.out.now.treDk
      have f0 := R6.out.now.free 0
      have f1 := R6.out.now.free 1
      have f2 := R6.out.now.free 2
      have TT := turn_s3 V6 (w.heap.size + 1 + 1) (.slice pVA P'.length rVA) (.slice pVB s.length rVB) (.slice pVD o'.length rVD)
      have XX := X6.out.step TT (.inl (by omega))
      have XO := O6.out.step TT (.inl (by omega))
      have hsz := size_s3 V6 (w.heap.size + 1 + 1) (.slice pVA P'.length rVA) (.slice pVB s.length rVB) (.slice pVD o'.length rVD)
      have BF := B6.out.trans (TT.below B6.out.size (by omega))
      have FVA := VA6.out.step TT (by have q0 := MW.out; have q1 := M1.out; have q2 := M2.out; have q3 := M3.out; have q4 := M4.out; have q5 := M5.out; have q6 := M6.out; omega)
      have FVB := VB6.out.step TT (by have q0 := MW.out; have q1 := M1.out; have q2 := M2.out; have q3 := M3.out; have q4 := M4.out; have q5 := M5.out; have q6 := M6.out; omega)
      have FVD := VD6.out.step TT (by have q0 := MW.out; have q1 := M1.out; have q2 := M2.out; have q3 := M3.out; have q4 := M4.out; have q5 := M5.out; have q6 := M6.out; omega)
      have HF : Hid (Holds w.heap.size (((V6.setCell ⟨w.heap.size + 1 + 1, 0, none⟩ (.slice pVA P'.length rVA)).setCell ⟨w.heap.size + 1 + 1, 1, none⟩ (.slice pVB s.length rVB)).setCell ⟨w.heap.size + 1 + 1, 2, none⟩ (.slice pVD o'.length rVD)).heap.size (((V6.setCell ⟨w.heap.size + 1 + 1, 0, none⟩ (.slice pVA P'.length rVA)).setCell ⟨w.heap.size + 1 + 1, 1, none⟩ (.slice pVB s.length rVB)).setCell ⟨w.heap.size + 1 + 1, 2, none⟩ (.slice pVD o'.length rVD)) (OwnDk w.heap.size (((V6.setCell ⟨w.heap.size + 1 + 1, 0, none⟩ (.slice pVA P'.length rVA)).setCell ⟨w.heap.size + 1 + 1, 1, none⟩ (.slice pVB s.length rVB)).setCell ⟨w.heap.size + 1 + 1, 2, none⟩ (.slice pVD o'.length rVD)).heap.size (.slice pVA P'.length rVA) (.slice pVB s.length rVB) (.slice pVD o'.length rVD) P' s o')) := Lib.hid ⟨ownDk_lives, Nat.le_refl _, ⟨ownP_baseFi FVA.now.1 (by have q0 := MW.out; have q1 := M1.out; have q2 := M2.out; have q3 := M3.out; have q4 := M4.out; have q5 := M5.out; have q6 := M6.out; omega), fun i hi => by have z1 := FVA.now.2 i hi; have z2 := FVA.le; omega⟩, ⟨ownP_baseFi FVB.now.1 (by have q0 := MW.out; have q1 := M1.out; have q2 := M2.out; have q3 := M3.out; have q4 := M4.out; have q5 := M5.out; have q6 := M6.out; omega), fun i hi => by have z1 := FVB.now.2 i hi; have z2 := FVB.le; omega⟩, ⟨ownOp_base FVD.now.1 (by have q0 := MW.out; have q1 := M1.out; have q2 := M2.out; have q3 := M3.out; have q4 := M4.out; have q5 := M5.out; have q6 := M6.out; omega), fun i hi => by have z1 := FVD.now.2 i hi; have z2 := FVD.le; omega⟩, fun i h1 h2 => by have z1 := (World.ownsRow.lt FVA.now.1 i h1).1; have z2 := FVA.now.2 i h1; have z3 := (World.ownsRow.lt FVB.now.1 i h2).1; have z4 := FVB.now.2 i h2; have q0 := MW.out; have q1 := M1.out; have q2 := M2.out; have q3 := M3.out; have q4 := M4.out; have q5 := M5.out; have q6 := M6.out; omega, fun i h1 h2 => by have z1 := (World.ownsRow.lt FVA.now.1 i h1).1; have z2 := FVA.now.2 i h1; have z3 := (World.ownsRow.lt FVD.now.1 i h2).1; have z4 := FVD.now.2 i h2; have q0 := MW.out; have q1 := M1.out; have q2 := M2.out; have q3 := M3.out; have q4 := M4.out; have q5 := M5.out; have q6 := M6.out; omega, fun i h1 h2 => by have z1 := (World.ownsRow.lt FVB.now.1 i h1).1; have z2 := FVB.now.2 i h1; have z3 := (World.ownsRow.lt FVD.now.1 i h2).1; have z4 := FVD.now.2 i h2; have q0 := MW.out; have q1 := M1.out; have q2 := M2.out; have q3 := M3.out; have q4 := M4.out; have q5 := M5.out; have q6 := M6.out; omega⟩
      have HBF := Lib.hid BF
      go_simp
      clear hHeld
      refine hK.out _ _ ?_ (fun hHeld => ?_)
      · exact ⟨XX.now.treDk, XO.now.fourDk⟩
      clear hK K XX TT BF FVA FVB FVD
      refine wpAnyH_take (i := 13) (v := ?_) rfl (by kernel_rfl) (by kernel_rfl) (by kernel_rfl) (fun _ _ _ h => h) (Or.inl ⟨by kernel_rfl, ?_⟩) (by assumption) ?_
      rotate_left
      · intro w hSw; (try dsimp only at hSw); go_simp; try with_reducible rfl
      refine wpAnyH_done (by kernel_rfl) ?_ _
      try simp only [Act.put, List.setIfInBounds_toArray, List.set_cons_zero, List.set_cons_succ, List.getElem_toArray, List.getElem_cons_zero, List.getElem_cons_succ]
      go_wp2_with fail
      refine bodyPost_ret (v := .tuple #[.agg #[.slice pVA P'.length rVA, .slice pVB s.length rVB, .slice pVD o'.length rVD], .int .i64 0]) (by simp [results, Try.results54, go_sem, *]) rfl (act_ok HC.out (by rw [HNP.out, HNO.out]; exact ⟨_, _, _, _, _, _, rfl, HF.out, HBF.out⟩))
  · have gb : (cd == 0) = false := by rw [beq_eq_false_iff_ne]; exact gc
    have gn : (cd != 0) = true := by rw [bne_iff_ne]; exact gc
    have HC : Hid (codeD l o (r, s', t, d) = cd) := Lib.hid (by unfold codeD; rw [HCD.out, if_neg (fun h => gc h.1)])
    clear HG
    go_wp2_with fail
    refine (implCopyDk a0 a1 a2 n0 n1 n2 c0 c1 c2 l s o _ (H.out.next B2.out) HN.out).mono ?_
    rintro e wz ⟨p0, r0, p1, r1, p2, r2, rfl, hh, hbz⟩
    have BZ := Lib.hid (B2.out.trans (hbz.mono B2.out.size))
    have RZ := Lib.hid (R2.out.next hbz)
    have hle := MW.out
    have hle2 := hbz.size
    obtain ⟨y0, y1, y2⟩ := RZ.out.now.treDk
    have f0 := RZ.out.now.free 0
    have f1 := RZ.out.now.free 1
    have f2 := RZ.out.now.free 2
    have TT := turn_s3 wz (w.heap.size + 1 + 1) (.slice p0 l.length r0) (.slice p1 s.length r1) (.slice p2 o.length r2)
    have hsz := size_s3 wz (w.heap.size + 1 + 1) (.slice p0 l.length r0) (.slice p1 s.length r1) (.slice p2 o.length r2)
    have BF := Lib.hid (BZ.out.trans (TT.below BZ.out.size (by omega)))
    have HF := Lib.hid (hh.step TT (.inr (by omega)))
    have HS := Lib.hid hsz
    clear TT hbz hh B2 R2 X2 x0 x1 x2 BZ RZ hsz
    go_wp2_with fail
    refine bodyPost_ret (v := .tuple #[.agg #[.slice p0 l.length r0, .slice p1 s.length r1, .slice p2 o.length r2], .int .i64 cd]) (by simp [results, Try.results54, go_sem, *]) rfl (act_no HC.out gc ⟨p0, r0, p1, r1, p2, r2, rfl, holdsDk_widen HF.out (by omega) (by rw [HS.out]; exact Nat.le_refl _) (Nat.le_refl _), BF.out⟩)
end Go.Proofs.Ytamnlifdfhmbnaa
/- An op done on a disk: the specification's side. -/
namespace Go.Proofs.Ytamnlifdfhmbnaa
open Go.RowKit Go.WideShapes
theorem row_turn {B D E k n : Nat} {e : TypeId} {v : Value} {xs : List Value} {w w' : World} (h : w.ownsRow B e k v n xs) (T : Turn D E w w') (hne : ∀ j, v.ownBlock = some j → j < D ∨ E ≤ j) : w'.ownsRow B e k v n xs := by
  have hl := fun j hj => (World.ownsRow.lt h j hj).2
  obtain ⟨h1, h2⟩ := h
  refine ⟨h1, ?_⟩
  rcases h2 with h2 | ⟨g, cap, cur, rfl, hB, hh, r⟩
  · exact .inl h2
  · exact .inr ⟨g, cap, cur, rfl, hB, (T.block g (hl g rfl) (hne g rfl)).trans hh, r⟩
section
variable {o : Oper} {a : Act} {w : World} {Q : Exit → Act → World → Prop}
theorem wpList_moreOp {ops : Array Oper} {rest : List Oper} (hgd : o.guard = none) (s x : Operand) (ho : o.op = .call { callee := .builtin .append, args := #[s, x], argTypes := #[25, 25] }) {B : Nat} {v : Value} {ts : List OpV} {t : OpV} (hs : a.eval s = v) (h : OwnOp B w v ts) (hB : B ≤ w.heap.size)
    (q : Nat) (hx : a.eval x = .slice (some ⟨q, 0, none⟩) 1 1) (hq : w.cell? ⟨q, 0, none⟩ = some (.int .i64 t.1) ∧ w.cell? ⟨q, 1, none⟩ = some (.string t.2.1) ∧ w.cell? ⟨q, 2, none⟩ = some (.string t.2.2.1) ∧ w.cell? ⟨q, 3, none⟩ = some (.string t.2.2.2)) (hl : ts.length ≤ 1048576)
    (k : ∀ (v' : Value) (w' : World), OwnOp B w' v' (ts ++ [t]) → w.grownBy w' v.ownBlock → (v'.ownBlock = v.ownBlock ∨ v'.ownBlock = some w.heap.size) → wpList Try.prog ops Q rest (a.put o.dst v') w') : wpList Try.prog ops Q (o :: rest) a w :=
  wpList_plain hgd fun _ hK => upon_moreOp s x ho hs h hB q hx hq hl fun v' w' h1 h2 h3 => hK _ _ (k v' w' h1 h2 h3)
end
set_option maxRecDepth 100000 in
set_option maxHeartbeats 6400000 in
theorem specAct (a0 a1 a2 : Option Addr) (n0 n1 n2 c0 c1 c2 : Nat) (l s : List Pre2) (o : List OpV) (r : Int) (s' t d : ByteArray) (w : World) (h : IsDk w a0 a1 a2 n0 n1 n2 c0 c1 c2 l s o) (hd : diskOk l s o = true) (m1 : s'.size ≤ maxLen) (m2 : t.size ≤ maxLen) (m3 : d.size ≤ 1048576) (hn : n0 ≤ 1048576 ∧ n1 ≤ 1048576 ∧ n2 ≤ 1048576) :
    Calls Try.prog 55 #[.agg #[.slice a0 n0 c0, .slice a1 n1 c1, .slice a2 n2 c2], .agg #[.int .i64 r, .string s', .string t, .string d]] w (ActPost l s o (r, s', t, d) w) := by
  obtain ⟨W1, hW1⟩ : ∃ W, w.alloc (.cells #[.slice a0 n0 c0, .slice a1 n1 c1, .slice a2 n2 c2] 27) = W := ⟨_, rfl⟩
  obtain ⟨W2, hW2⟩ : ∃ W, W1.alloc (.cells #[.int .i64 r, .string s', .string t, .string d] 36) = W := ⟨_, rfl⟩
  obtain ⟨W3, hW3⟩ : ∃ W, W2.alloc (.cells #[.slice none 0 0, .slice none 0 0, .slice none 0 0] 27) = W := ⟨_, rfl⟩
  have z1 : W1.heap.size = w.heap.size + 1 := by rw [← hW1]; simp
  have z2 : W2.heap.size = w.heap.size + 1 + 1 := by rw [← hW2]; simp [z1]
  have z3 : W3.heap.size = w.heap.size + 3 := by rw [← hW3]; simp [z2]
  have B0 : Hid (Below w.heap.size w W3) := Lib.hid (by rw [← hW3, ← hW2, ← hW1]; exact (((Below.refl w.heap.size w).alloc (Nat.le_refl _) _).alloc (by simp) _).alloc (by simp; omega) _)
  have X0 : Hid (Holds w.heap.size (w.heap.size + 1) W3 (Cells w.heap.size #[.slice a0 n0 c0, .slice a1 n1 c1, .slice a2 n2 c2] 27)) := Lib.hid (by rw [← hW3, ← hW2, ← hW1]; exact ((cells_new w _ _).alloc _).alloc _)
  have O0 : Hid (Holds (w.heap.size + 1) (w.heap.size + 1 + 1) W3 (Cells (w.heap.size + 1) #[.int .i64 r, .string s', .string t, .string d] 36)) := Lib.hid (by
    have := (cells_new W1 #[.int .i64 r, .string s', .string t, .string d] 36).alloc (.cells #[.slice none 0 0, .slice none 0 0, .slice none 0 0] 27)
    rw [hW2, hW3, z1] at this; exact this)
  have R0 : Hid (Holds (w.heap.size + 1 + 1) (w.heap.size + 3) W3 (Cells (w.heap.size + 1 + 1) #[.slice none 0 0, .slice none 0 0, .slice none 0 0] 27)) := Lib.hid (by
    have := cells_new W2 #[.slice none 0 0, .slice none 0 0, .slice none 0 0] 27
    rw [hW3, z2] at this; exact this)
  have HW := Lib.hid (And.intro hW1 (And.intro hW2 hW3))
  have M0 : Hid (w.heap.size + 3 ≤ W3.heap.size) := Lib.hid (by omega)
  clear hW1 hW2 hW3 z1 z2 z3
  have H := Lib.hid h
  have HN := Lib.hid hn
  obtain ⟨hn0, hn1, hn2⟩ := hn
  obtain ⟨_, hol, _, hfl⟩ := diskOk_parts hd
  obtain ⟨hl1, hl2, hl3⟩ := filesOk_iff.1 hfl
  have hl4 := fitsF_iff.1 hl3
  have hd1 := doF_len l (r, s', t, d)
  have hd2 := doF_tot l (r, s', t, d)
  have hd3 := dataAt_tot l s'
  simp only at hd2
  have HOL := Lib.hid (show o.length ≤ 200 ∧ o.length = n2 from ⟨hol, h.2.2.len⟩)
  have HL0 : Hid (l.length = n0) := Lib.hid h.1.len
  have HFL := Lib.hid hfl
  have HRI := Lib.hid hl1
  have HS1 : Hid (SmAllPrFi (doF l (r, s', t, d)).1) := Lib.hid (doF_small (fun r hr => (IsPres.smallFi h.1 r hr).1) m1 m2 (by unfold maxLen; omega))
  have HS2 : Hid (∀ t' ∈ (doF l (r, s', t, d)).1, t'.2.size ≤ 1000000000000) := Lib.hid (fun t' ht => by have := totF_mem ht; omega)
  have HD1 : Hid ((dataAt l s').size + d.size ≤ 1000000000000 ∧ l.length ≤ 60) := Lib.hid (by omega)
  have FM := Lib.hid (specForm r s' t d m1 m2)
  obtain ⟨u0, u1, u2, u3⟩ := O0.out.now.fourDk
  clear h hd hfl hl1 hl2 hl3 hl4 hd1 hd2 hd3 hol m3
  go_enter Try.func55, Try.ntmps55
  go_wp2_with fail
  rw [HW.out.1, HW.out.2.1, HW.out.2.2]
  refine (FM.out _).mono ?_
  rintro e w1 ⟨rfl, nb⟩
  have B1 := Lib.hid (B0.out.trans (nb.mono B0.out.size))
  have X1 := Lib.hid (X0.out.next nb)
  have O1 := Lib.hid (O0.out.next nb)
  have R1 := Lib.hid (R0.out.next nb)
  have MW : Hid (w.heap.size + 1 + 1 + 1 ≤ w1.heap.size) := Lib.hid (by have := M0.out; have := nb.size; omega)
  obtain ⟨x0, x1, x2⟩ := X1.out.now.treDk
  clear B0 X0 O0 R0 u0 u1 u2 u3 nb M0 FM
  obtain ⟨fo, hfo⟩ : ∃ b, formOk (r, s', t, d) = b := ⟨_, rfl⟩
  rw [hfo]
  have HFO := Lib.hid hfo
  clear hfo
  cases fo
  · have HC : Hid (codeD l o (r, s', t, d) = 2) := Lib.hid (by unfold codeD codeF; rw [HFO.out]; simp)
    go_wp2_with fail
    refine (specCopyDk a0 a1 a2 n0 n1 n2 c0 c1 c2 l s o _ (H.out.next B1.out) HN.out).mono ?_
    rintro e wz ⟨p0, r0, p1, r1, p2, r2, rfl, hh, hbz⟩
    have BZ := Lib.hid (B1.out.trans (hbz.mono B1.out.size))
    have RZ := Lib.hid (R1.out.next hbz)
    have hle := MW.out
    have hle2 := hbz.size
    obtain ⟨y0, y1, y2⟩ := RZ.out.now.treDk
    have f0 := RZ.out.now.free 0
    have f1 := RZ.out.now.free 1
    have f2 := RZ.out.now.free 2
    have TT := turn_s3 wz (w.heap.size + 1 + 1) (.slice p0 l.length r0) (.slice p1 s.length r1) (.slice p2 o.length r2)
    have hsz := size_s3 wz (w.heap.size + 1 + 1) (.slice p0 l.length r0) (.slice p1 s.length r1) (.slice p2 o.length r2)
    have BF := Lib.hid (BZ.out.trans (TT.below BZ.out.size (by omega)))
    have HF := Lib.hid (hh.step TT (.inr (by omega)))
    have HS := Lib.hid hsz
    clear TT hbz hh B1 R1 X1 x0 x1 x2 BZ RZ hsz
    go_wp2_with fail
    refine bodyPost_ret (v := .tuple #[.agg #[.slice p0 l.length r0, .slice p1 s.length r1, .slice p2 o.length r2], .int .i64 2]) (by simp [results, Try.results55, go_sem, *]) rfl (act_no HC.out (by decide) ⟨p0, r0, p1, r1, p2, r2, rfl, holdsDk_widen HF.out (by omega) (by rw [HS.out]; exact Nat.le_refl _) (Nat.le_refl _), BF.out⟩)
  obtain ⟨u0, u1, u2, u3⟩ := O1.out.now.fourDk
  have DO := Lib.hid (specDo a0 n0 c0 l (r, s', t, d) w1 (H.out.next B1.out).1 (by have := HL0.out; have := HD1.out; omega) HRI.out HD1.out.1)
  go_wp2_with fail
  refine DO.out.mono ?_
  rintro e w2 ⟨nx, rfl, ho, nb⟩
  have B2 := Lib.hid (B1.out.trans (nb.mono B1.out.size))
  have X2 := Lib.hid (X1.out.next nb)
  have O2 := Lib.hid (O1.out.next nb)
  have R2 := Lib.hid (R1.out.next nb)
  obtain ⟨na, nc, rfl, hni⟩ := ho.is HS1.out
  have NX : Hid (Holds w1.heap.size w2.heap.size w2 (OwnPCFi w1.heap.size w2.heap.size (.slice na (doF l (r, s', t, d)).1.length nc) (doF l (r, s', t, d)).1)) := Lib.hid ⟨ownPC_livesFi, Nat.le_refl _, ho, fun j hj => (World.ownsRow.lt ho j hj).2⟩
  have HM1 := MW
  clear MW
  have MW : Hid (w.heap.size + 1 + 1 + 1 ≤ w2.heap.size) := Lib.hid (by have := HM1.out; have := nb.size; omega)
  have ML := Lib.hid nb.size
  have LF := Lib.hid (specFiles na _ nc _ w2 hni HS2.out)
  clear x0 x1 x2 u0 u1 u2 u3
  obtain ⟨x0, x1, x2⟩ := X2.out.now.treDk
  clear B1 X1 O1 R1 nb ho hni DO
  obtain ⟨fd, hfd⟩ : ∃ b, (doF l (r, s', t, d)).2 = b := ⟨_, rfl⟩
  rw [hfd]
  have HFD := Lib.hid hfd
  clear hfd
  cases fd
  · have HC : Hid (codeD l o (r, s', t, d) = 3) := Lib.hid (by unfold codeD codeF; rw [HFO.out, HFD.out]; simp)
    go_wp2_with fail
    refine (specCopyDk a0 a1 a2 n0 n1 n2 c0 c1 c2 l s o _ (H.out.next B2.out) HN.out).mono ?_
    rintro e wz ⟨p0, r0, p1, r1, p2, r2, rfl, hh, hbz⟩
    have BZ := Lib.hid (B2.out.trans (hbz.mono B2.out.size))
    have RZ := Lib.hid (R2.out.next hbz)
    have hle := MW.out
    have hle2 := hbz.size
    obtain ⟨y0, y1, y2⟩ := RZ.out.now.treDk
    have f0 := RZ.out.now.free 0
    have f1 := RZ.out.now.free 1
    have f2 := RZ.out.now.free 2
    have TT := turn_s3 wz (w.heap.size + 1 + 1) (.slice p0 l.length r0) (.slice p1 s.length r1) (.slice p2 o.length r2)
    have hsz := size_s3 wz (w.heap.size + 1 + 1) (.slice p0 l.length r0) (.slice p1 s.length r1) (.slice p2 o.length r2)
    have BF := Lib.hid (BZ.out.trans (TT.below BZ.out.size (by omega)))
    have HF := Lib.hid (hh.step TT (.inr (by omega)))
    have HS := Lib.hid hsz
    clear TT hbz hh B2 R2 X2 x0 x1 x2 BZ RZ hsz
    go_wp2_with fail
    refine bodyPost_ret (v := .tuple #[.agg #[.slice p0 l.length r0, .slice p1 s.length r1, .slice p2 o.length r2], .int .i64 3]) (by simp [results, Try.results55, go_sem, *]) rfl (act_no HC.out (by decide) ⟨p0, r0, p1, r1, p2, r2, rfl, holdsDk_widen HF.out (by omega) (by rw [HS.out]; exact Nat.le_refl _) (Nat.le_refl _), BF.out⟩)
  have hn2 := HOL.out.2
  by_cases g2 : o.length = 200
  · have g3 : ((n2 : Int) == 200) = true := by rw [beq_iff_eq]; omega
    have HC : Hid (codeD l o (r, s', t, d) = 4) := Lib.hid (by
      unfold codeD codeF; rw [HFO.out, HFD.out, g2]; by_cases q : fitsF (doF l (r, s', t, d)).1 = true <;> simp [q])
    clear hn2 g2
    go_wp2_with fail
    refine (specCopyDk a0 a1 a2 n0 n1 n2 c0 c1 c2 l s o _ (H.out.next B2.out) HN.out).mono ?_
    rintro e wz ⟨p0, r0, p1, r1, p2, r2, rfl, hh, hbz⟩
    have BZ := Lib.hid (B2.out.trans (hbz.mono B2.out.size))
    have RZ := Lib.hid (R2.out.next hbz)
    have hle := MW.out
    have hle2 := hbz.size
    obtain ⟨y0, y1, y2⟩ := RZ.out.now.treDk
    have f0 := RZ.out.now.free 0
    have f1 := RZ.out.now.free 1
    have f2 := RZ.out.now.free 2
    have TT := turn_s3 wz (w.heap.size + 1 + 1) (.slice p0 l.length r0) (.slice p1 s.length r1) (.slice p2 o.length r2)
    have hsz := size_s3 wz (w.heap.size + 1 + 1) (.slice p0 l.length r0) (.slice p1 s.length r1) (.slice p2 o.length r2)
    have BF := Lib.hid (BZ.out.trans (TT.below BZ.out.size (by omega)))
    have HF := Lib.hid (hh.step TT (.inr (by omega)))
    have HS := Lib.hid hsz
    clear TT hbz hh B2 R2 X2 x0 x1 x2 BZ RZ hsz
    go_wp2_with fail
    refine bodyPost_ret (v := .tuple #[.agg #[.slice p0 l.length r0, .slice p1 s.length r1, .slice p2 o.length r2], .int .i64 4]) (by simp [results, Try.results55, go_sem, *]) rfl (act_no HC.out (by decide) ⟨p0, r0, p1, r1, p2, r2, rfl, holdsDk_widen HF.out (by omega) (by rw [HS.out]; exact Nat.le_refl _) (Nat.le_refl _), BF.out⟩)
  have g3 : ((n2 : Int) == 200) = false := by rw [beq_eq_false_iff_ne]; omega
  have HFF : Hid (filesOk (doF l (r, s', t, d)).1 = fitsF (doF l (r, s', t, d)).1) := Lib.hid (filesOk_do HFL.out HFO.out)
  have HG2 := Lib.hid g2
  clear hn2 g2
  go_wp2_with fail
  refine LF.out.mono ?_
  rintro e w3 ⟨rfl, nb⟩
  have B3 := Lib.hid (B2.out.trans (nb.mono B2.out.size))
  have X3 := Lib.hid (X2.out.next nb)
  have O3 := Lib.hid (O2.out.next nb)
  have R3 := Lib.hid (R2.out.next nb)
  have N3 := Lib.hid (NX.out.next nb)
  have HM2 := MW
  clear MW
  have MW : Hid (w.heap.size + 1 + 1 + 1 ≤ w3.heap.size) := Lib.hid (by have := HM2.out; have := nb.size; omega)
  clear x0 x1 x2
  obtain ⟨x0, x1, x2⟩ := X3.out.now.treDk
  clear B2 X2 O2 R2 NX nb LF
  rw [HFF.out]
  obtain ⟨ff, hff⟩ : ∃ b, fitsF (doF l (r, s', t, d)).1 = b := ⟨_, rfl⟩
  rw [hff]
  have HFT := Lib.hid hff
  clear hff
  cases ff
  · have HC : Hid (codeD l o (r, s', t, d) = 4) := Lib.hid (by unfold codeD codeF; rw [HFO.out, HFD.out, HFT.out]; simp)
    go_wp2_with fail
    refine (specCopyDk a0 a1 a2 n0 n1 n2 c0 c1 c2 l s o _ (H.out.next B3.out) HN.out).mono ?_
    rintro e wz ⟨p0, r0, p1, r1, p2, r2, rfl, hh, hbz⟩
    have BZ := Lib.hid (B3.out.trans (hbz.mono B3.out.size))
    have RZ := Lib.hid (R3.out.next hbz)
    have hle := MW.out
    have hle2 := hbz.size
    obtain ⟨y0, y1, y2⟩ := RZ.out.now.treDk
    have f0 := RZ.out.now.free 0
    have f1 := RZ.out.now.free 1
    have f2 := RZ.out.now.free 2
    have TT := turn_s3 wz (w.heap.size + 1 + 1) (.slice p0 l.length r0) (.slice p1 s.length r1) (.slice p2 o.length r2)
    have hsz := size_s3 wz (w.heap.size + 1 + 1) (.slice p0 l.length r0) (.slice p1 s.length r1) (.slice p2 o.length r2)
    have BF := Lib.hid (BZ.out.trans (TT.below BZ.out.size (by omega)))
    have HF := Lib.hid (hh.step TT (.inr (by omega)))
    have HS := Lib.hid hsz
    clear TT hbz hh B3 R3 X3 x0 x1 x2 BZ RZ hsz
    go_wp2_with fail
    refine bodyPost_ret (v := .tuple #[.agg #[.slice p0 l.length r0, .slice p1 s.length r1, .slice p2 o.length r2], .int .i64 4]) (by simp [results, Try.results55, go_sem, *]) rfl (act_no HC.out (by decide) ⟨p0, r0, p1, r1, p2, r2, rfl, holdsDk_widen HF.out (by omega) (by rw [HS.out]; exact Nat.le_refl _) (Nat.le_refl _), BF.out⟩)
  have HC : Hid (codeD l o (r, s', t, d) = 0) := Lib.hid (by unfold codeD codeF; rw [HFO.out, HFD.out, HFT.out, if_neg (fun h => HG2.out h.2)]; simp)
  go_wp2_with fail
  refine (specCopyDk a0 a1 a2 n0 n1 n2 c0 c1 c2 l s o _ (H.out.next B3.out) HN.out).mono ?_
  rintro e w4 ⟨p0, r0, p1, r1, p2, r2, rfl, hh, hb4⟩
  have B4 := Lib.hid (B3.out.trans (hb4.mono B3.out.size))
  have O4 := Lib.hid (O3.out.next hb4)
  have R4 := Lib.hid (R3.out.next hb4)
  have N4 := Lib.hid (N3.out.next hb4)
  have HM3 := MW
  clear MW
  have MW : Hid (w.heap.size + 1 + 1 + 1 ≤ w4.heap.size ∧ w.heap.size + 1 + 1 + 1 ≤ w1.heap.size ∧ w.heap.size + 1 + 1 + 1 ≤ w3.heap.size ∧ w2.heap.size ≤ w3.heap.size) := Lib.hid (by have := HM3.out; have := hb4.size; have := HM1.out; have := HM2.out; have := N3.out.le; omega)
  have HZ34 : Hid (w3.heap.size ≤ w4.heap.size) := Lib.hid hb4.size
  clear HM1 HM2 HM3 ML x0 x1 x2 B3 X3 O3 R3 N3
  have HH := Lib.hid hh
  clear hh hb4
  obtain ⟨o', ho'⟩ : ∃ q, o ++ [(r, s', t, d)] = q := ⟨_, rfl⟩
  have HNO := Lib.hid ho'
  clear ho'
  have O5 := Lib.hid (O4.out.alloc (.cells #[.slice na (doF l (r, s', t, d)).1.length nc, .slice p1 s.length r1, .slice p2 o.length r2] 27))
  obtain ⟨u0, u1, u2, u3⟩ := O5.out.now.fourDk
  have HH6 := Lib.hid ((HH.out.alloc (.cells #[.slice na (doF l (r, s', t, d)).1.length nc, .slice p1 s.length r1, .slice p2 o.length r2] 27)).alloc (.cells #[.int .i64 r, .string s', .string t, .string d] 36))
  have HB6 : Hid (w3.heap.size ≤ ((w4.alloc (.cells #[.slice na (doF l (r, s', t, d)).1.length nc, .slice p1 s.length r1, .slice p2 o.length r2] 27)).alloc (.cells #[.int .i64 r, .string s', .string t, .string d] 36)).heap.size ∧ ((w4.alloc (.cells #[.slice na (doF l (r, s', t, d)).1.length nc, .slice p1 s.length r1, .slice p2 o.length r2] 27)).alloc (.cells #[.int .i64 r, .string s', .string t, .string d] 36)).heap.size = w4.heap.size + 2) := Lib.hid (by have := HZ34.out; simp; omega)
  have LIT : Hid (Cells (w4.heap.size + 1) #[.int .i64 r, .string s', .string t, .string d] 36 ((w4.alloc (.cells #[.slice na (doF l (r, s', t, d)).1.length nc, .slice p1 s.length r1, .slice p2 o.length r2] 27)).alloc (.cells #[.int .i64 r, .string s', .string t, .string d] 36))) := Lib.hid (by have := (cells_new (w4.alloc (.cells #[.slice na (doF l (r, s', t, d)).1.length nc, .slice p1 s.length r1, .slice p2 o.length r2] 27)) #[.int .i64 r, .string s', .string t, .string d] 36).now; rw [World.size_alloc] at this; exact this)
  have HL5 : o.length ≤ 1048576 := by have := HOL.out; omega
  have Z6 := Lib.hid ((cells_new w4 #[.slice na (doF l (r, s', t, d)).1.length nc, .slice p1 s.length r1, .slice p2 o.length r2] 27).alloc (.cells #[.int .i64 r, .string s', .string t, .string d] 36))
  have R6 := Lib.hid ((R4.out.alloc (.cells #[.slice na (doF l (r, s', t, d)).1.length nc, .slice p1 s.length r1, .slice p2 o.length r2] 27)).alloc (.cells #[.int .i64 r, .string s', .string t, .string d] 36))
  have N6 := Lib.hid ((N4.out.alloc (.cells #[.slice na (doF l (r, s', t, d)).1.length nc, .slice p1 s.length r1, .slice p2 o.length r2] 27)).alloc (.cells #[.int .i64 r, .string s', .string t, .string d] 36))
  have B6 := Lib.hid ((B4.out.alloc B4.out.size (.cells #[.slice na (doF l (r, s', t, d)).1.length nc, .slice p1 s.length r1, .slice p2 o.length r2] 27)).alloc (by have := B4.out.size; rw [World.size_alloc]; omega) (.cells #[.int .i64 r, .string s', .string t, .string d] 36))
  have hne : ¬ w4.heap.size = w.heap.size + 1 + 1 := by have := MW.out; omega
  clear B4 R4 N4 O4
  go_wp2_with (at_builtin; refine wpList_moreOp (B := w3.heap.size) (t := (r, s', t, d)) rfl _ _ rfl rfl HH6.out.now.2.2.1.1 HB6.out.1 (w4.heap.size + 1) rfl LIT.out.fourDk HL5 ?_; intro v' w6 hv hg hat; rw [HNO.out] at hv; obtain ⟨p3, r3, rfl⟩ := op_form hv; have T7 := Lib.hid (HH6.out.now.2.2.1.turn hg); have S7 := Lib.hid (row_farDk HH6.out.now.2.1.1 hg (fun j hj => HH6.out.now.2.2.2.2.2 j hj)); have HV := Lib.hid hv; have HAT := Lib.hid hat; have Z7 := Lib.hid (Z6.out.step T7.out (.inr (Nat.le_refl _))); have R7 := Lib.hid (R6.out.step T7.out (.inl MW.out.2.2.1)); have N7 := Lib.hid (N6.out.step T7.out (.inl MW.out.2.2.2)); have B7 := Lib.hid (B6.out.trans (T7.out.below B6.out.size (by have := MW.out; omega))); obtain ⟨z0, z1, z2⟩ := Z7.out.now.treDk; have fz := Z7.out.now.free 2; obtain ⟨y0, y1, y2⟩ := R7.out.now.treDk; have f0 := R7.out.now.free 0; have f1 := R7.out.now.free 1; have f2 := R7.out.now.free 2; clear hv hg hat)
  clear z0 z1 z2 fz u0 u1 u2 u3
  have hz1 := HZ34.out
  have mw := MW.out
  have hs6 := T7.out.size
  rw [HB6.out.2] at hs6
  have hn1 := N7.out.le
  have U1 := turn_setDk w6 w4.heap.size 2 (.slice p3 o'.length r3)
  have U2 := turn_s3 (w6.setCell ⟨w4.heap.size, 2, none⟩ (.slice p3 o'.length r3)) (w.heap.size + 1 + 1) (.slice na (doF l (r, s', t, d)).1.length nc) (.slice p1 s.length r1) (.slice p3 o'.length r3)
  have hF : ((((w6.setCell ⟨w4.heap.size, 2, none⟩ (.slice p3 o'.length r3)).setCell ⟨w.heap.size + 1 + 1, 0, none⟩ (.slice na (doF l (r, s', t, d)).1.length nc)).setCell ⟨w.heap.size + 1 + 1, 1, none⟩ (.slice p1 s.length r1)).setCell ⟨w.heap.size + 1 + 1, 2, none⟩ (.slice p3 o'.length r3)).heap.size = w6.heap.size := by simp [World.setCell]
  have HBK : ∀ j, (Value.slice p3 o'.length r3).ownBlock = some j → (j < w4.heap.size ∧ (Value.slice p1 s.length r1).ownBlock ≠ some j) ∨ j = w4.heap.size + 2 := by
    intro j hj
    rcases HAT.out with e | e
    · have e2 : (Value.slice p2 o.length r2).ownBlock = some j := e.symm.trans hj
      exact .inl ⟨HH6.out.now.2.2.1.2 j e2, fun e3 => HH6.out.now.2.2.2.2.2 j e3 e2⟩
    · rw [hj] at e; injection e with e; exact .inr (by rw [e, HB6.out.2])
  have PN0 : OwnPFi w1.heap.size ((((w6.setCell ⟨w4.heap.size, 2, none⟩ (.slice p3 o'.length r3)).setCell ⟨w.heap.size + 1 + 1, 0, none⟩ (.slice na (doF l (r, s', t, d)).1.length nc)).setCell ⟨w.heap.size + 1 + 1, 1, none⟩ (.slice p1 s.length r1)).setCell ⟨w.heap.size + 1 + 1, 2, none⟩ (.slice p3 o'.length r3)) (.slice na (doF l (r, s', t, d)).1.length nc) (doF l (r, s', t, d)).1 := row_turn (row_turn N7.out.now.1 U1 (fun j hj => .inl (by have := N7.out.now.2 j hj; omega))) U2 (fun j hj => .inr (by have := (World.ownsRow.lt N7.out.now.1 j hj).1; omega))
  have PS0 : OwnPFi w3.heap.size ((((w6.setCell ⟨w4.heap.size, 2, none⟩ (.slice p3 o'.length r3)).setCell ⟨w.heap.size + 1 + 1, 0, none⟩ (.slice na (doF l (r, s', t, d)).1.length nc)).setCell ⟨w.heap.size + 1 + 1, 1, none⟩ (.slice p1 s.length r1)).setCell ⟨w.heap.size + 1 + 1, 2, none⟩ (.slice p3 o'.length r3)) (.slice p1 s.length r1) s := row_turn (row_turn S7.out U1 (fun j hj => .inl (by have := HH6.out.now.2.1.2 j hj; omega))) U2 (fun j hj => .inr (by have := (World.ownsRow.lt S7.out j hj).1; omega))
  have PO0 : OwnOp w3.heap.size ((((w6.setCell ⟨w4.heap.size, 2, none⟩ (.slice p3 o'.length r3)).setCell ⟨w.heap.size + 1 + 1, 0, none⟩ (.slice na (doF l (r, s', t, d)).1.length nc)).setCell ⟨w.heap.size + 1 + 1, 1, none⟩ (.slice p1 s.length r1)).setCell ⟨w.heap.size + 1 + 1, 2, none⟩ (.slice p3 o'.length r3)) (.slice p3 o'.length r3) o' := row_turn (row_turn HV.out U1 (fun j hj => by have := HBK j hj; omega)) U2 (fun j hj => .inr (by have := (World.ownsRow.lt HV.out j hj).1; omega))
  have HF : Hid (Holds w.heap.size ((((w6.setCell ⟨w4.heap.size, 2, none⟩ (.slice p3 o'.length r3)).setCell ⟨w.heap.size + 1 + 1, 0, none⟩ (.slice na (doF l (r, s', t, d)).1.length nc)).setCell ⟨w.heap.size + 1 + 1, 1, none⟩ (.slice p1 s.length r1)).setCell ⟨w.heap.size + 1 + 1, 2, none⟩ (.slice p3 o'.length r3)).heap.size ((((w6.setCell ⟨w4.heap.size, 2, none⟩ (.slice p3 o'.length r3)).setCell ⟨w.heap.size + 1 + 1, 0, none⟩ (.slice na (doF l (r, s', t, d)).1.length nc)).setCell ⟨w.heap.size + 1 + 1, 1, none⟩ (.slice p1 s.length r1)).setCell ⟨w.heap.size + 1 + 1, 2, none⟩ (.slice p3 o'.length r3)) (OwnDk w.heap.size ((((w6.setCell ⟨w4.heap.size, 2, none⟩ (.slice p3 o'.length r3)).setCell ⟨w.heap.size + 1 + 1, 0, none⟩ (.slice na (doF l (r, s', t, d)).1.length nc)).setCell ⟨w.heap.size + 1 + 1, 1, none⟩ (.slice p1 s.length r1)).setCell ⟨w.heap.size + 1 + 1, 2, none⟩ (.slice p3 o'.length r3)).heap.size (.slice na (doF l (r, s', t, d)).1.length nc) (.slice p1 s.length r1) (.slice p3 o'.length r3) (doF l (r, s', t, d)).1 s o')) := Lib.hid ⟨ownDk_lives, Nat.le_refl _, ⟨ownP_baseFi PN0 (by omega), fun j hj => by rw [hF]; have := N7.out.now.2 j hj; omega⟩, ⟨ownP_baseFi PS0 (by omega), fun j hj => by rw [hF]; have := HH6.out.now.2.1.2 j hj; omega⟩, ⟨ownOp_base PO0 (by omega), fun j hj => by rw [hF]; exact (World.ownsRow.lt HV.out j hj).2⟩, fun j h1 h2 => by have := N7.out.now.2 j h1; have := (World.ownsRow.lt S7.out j h2).1; omega, fun j h1 h2 => by have := N7.out.now.2 j h1; have := (World.ownsRow.lt HV.out j h2).1; omega, fun j h1 h2 => by
    rcases HBK j h2 with ⟨_, h⟩ | h
    · exact h h1
    · have := HH6.out.now.2.1.2 j h1; omega⟩
  have HBF := Lib.hid ((B7.out.trans (U1.below B7.out.size (by omega))).trans (U2.below (Nat.le_trans B7.out.size U1.size) (by omega)))
  clear PN0 PS0 PO0 HBK hF U1 U2 hs6 hn1 hz1 mw
  refine bodyPost_ret (v := .tuple #[.agg #[(.slice na (doF l (r, s', t, d)).1.length nc), (.slice p1 s.length r1), (.slice p3 o'.length r3)], .int .i64 0]) (by simp [results, Try.results55, go_sem, *]) rfl (act_ok HC.out (by rw [HNO.out]; exact ⟨na, nc, p1, r1, p3, r3, rfl, HF.out, HBF.out⟩))
end Go.Proofs.Ytamnlifdfhmbnaa
/- Do of both sides. -/
namespace Go.Proofs.Ytamnlifdfhmbnaa
open Go.RowKit Go.WideShapes
def doC (l s : List Pre2) (o : List OpV) (op : OpV) : Int := if diskOk l s o = true then codeD l o op else 1
def doL (l s : List Pre2) (o : List OpV) (op : OpV) : List Pre2 := if diskOk l s o = true then actL l o op else []
def doS (l s : List Pre2) (o : List OpV) : List Pre2 := if diskOk l s o = true then s else []
def doO (l s : List Pre2) (o : List OpV) (op : OpV) : List OpV := if diskOk l s o = true then actO l o op else []
def DoAllPost (l s : List Pre2) (o : List OpV) (op : OpV) (w : World) (e : Ending) (w' : World) : Prop := DkPost2 (doL l s o op) (doS l s o) (doO l s o op) (doC l s o op) w e w'
theorem all_no {l s : List Pre2} {o : List OpV} {op : OpV} {w : World} {e : Ending} {w' : World} (h : diskOk l s o = false) (h2 : DkPost2 [] [] [] 1 w e w') : DoAllPost l s o op w e w' := by
  unfold DoAllPost doL doS doO doC; simp only [h, Bool.false_eq_true, if_false]; exact h2
theorem all_ok {l s : List Pre2} {o : List OpV} {op : OpV} {w : World} {e : Ending} {w' : World} (h : diskOk l s o = true) (h2 : DkPost2 (actL l o op) s (actO l o op) (codeD l o op) w e w') : DoAllPost l s o op w e w' := by
  unfold DoAllPost doL doS doO doC; simp only [h, if_true]; exact h2
set_option maxRecDepth 100000 in
set_option maxHeartbeats 6400000 in
theorem implDoDk (a0 a1 a2 : Option Addr) (n0 n1 n2 c0 c1 c2 : Nat) (l s : List Pre2) (o : List OpV) (r : Int) (s' t d : ByteArray) (w : World) (h : IsDk w a0 a1 a2 n0 n1 n2 c0 c1 c2 l s o) (hz : SmDk l s o) (m1 : s'.size ≤ maxLen) (m2 : t.size ≤ maxLen) (m3 : d.size ≤ 1048576) (hn : n0 ≤ 1048576 ∧ n1 ≤ 1048576 ∧ n2 ≤ 1048576) :
    Calls Try.prog 19 #[.agg #[.slice a0 n0 c0, .slice a1 n1 c1, .slice a2 n2 c2], .agg #[.int .i64 r, .string s', .string t, .string d]] w (DoAllPost l s o (r, s', t, d) w) := by
  obtain ⟨W1, hW1⟩ : ∃ W, w.alloc (.cells #[.slice a0 n0 c0, .slice a1 n1 c1, .slice a2 n2 c2] 27) = W := ⟨_, rfl⟩
  obtain ⟨W2, hW2⟩ : ∃ W, W1.alloc (.cells #[.int .i64 r, .string s', .string t, .string d] 36) = W := ⟨_, rfl⟩
  obtain ⟨W3, hW3⟩ : ∃ W, W2.alloc (.cells #[.slice none 0 0, .slice none 0 0, .slice none 0 0] 27) = W := ⟨_, rfl⟩
  have z1 : W1.heap.size = w.heap.size + 1 := by rw [← hW1]; simp
  have z2 : W2.heap.size = w.heap.size + 1 + 1 := by rw [← hW2]; simp [z1]
  have z3 : W3.heap.size = w.heap.size + 3 := by rw [← hW3]; simp [z2]
  have B0 : Hid (Below w.heap.size w W3) := Lib.hid (by rw [← hW3, ← hW2, ← hW1]; exact (((Below.refl w.heap.size w).alloc (Nat.le_refl _) _).alloc (by simp) _).alloc (by simp; omega) _)
  have X0 : Hid (Holds w.heap.size (w.heap.size + 1) W3 (Cells w.heap.size #[.slice a0 n0 c0, .slice a1 n1 c1, .slice a2 n2 c2] 27)) := Lib.hid (by rw [← hW3, ← hW2, ← hW1]; exact ((cells_new w _ _).alloc _).alloc _)
  have O0 : Hid (Holds (w.heap.size + 1) (w.heap.size + 1 + 1) W3 (Cells (w.heap.size + 1) #[.int .i64 r, .string s', .string t, .string d] 36)) := Lib.hid (by
    have := (cells_new W1 #[.int .i64 r, .string s', .string t, .string d] 36).alloc (.cells #[.slice none 0 0, .slice none 0 0, .slice none 0 0] 27)
    rw [hW2, hW3, z1] at this; exact this)
  have R0 : Hid (Holds (w.heap.size + 1 + 1) (w.heap.size + 3) W3 (Cells (w.heap.size + 1 + 1) #[.slice none 0 0, .slice none 0 0, .slice none 0 0] 27)) := Lib.hid (by
    have := cells_new W2 #[.slice none 0 0, .slice none 0 0, .slice none 0 0] 27
    rw [hW3, z2] at this; exact this)
  have HW := Lib.hid (And.intro hW1 (And.intro hW2 hW3))
  have M0 : Hid (w.heap.size + 3 ≤ W3.heap.size) := Lib.hid (by omega)
  clear hW1 hW2 hW3 z1 z2 z3
  have H := Lib.hid h
  have HN := Lib.hid hn
  have DO := implDiskOk a0 a1 a2 n0 n1 n2 c0 c1 c2 l s o _ (h.next B0.out) hz HN.out
  have ACT := fun W hW hd => implAfter a0 a1 a2 n0 n1 n2 c0 c1 c2 l s o r s' t d W hW hd m1 m2 m3 hn
  have HA := Lib.hid ACT
  obtain ⟨x0, x1, x2⟩ := X0.out.now.treDk
  clear h hz hn ACT
  cases q : diskOk l s o
  · rw [q] at DO
    have D := Lib.hid DO
    have HQ := Lib.hid q
    clear q DO HA
    go_enter Try.func19, Try.ntmps19
    go_wp2_with fail
    rw [HW.out.1, HW.out.2.1, HW.out.2.2]
    refine D.out.mono ?_
    rintro e w1 ⟨rfl, hb1⟩
    have B1 := Lib.hid (B0.out.trans (hb1.mono B0.out.size))
    have R1 := Lib.hid (R0.out.next hb1)
    have lz := hb1.size
    have lM := M0.out
    obtain ⟨y0, y1, y2⟩ := R1.out.now.treDk
    have f0 := R1.out.now.free 0
    have f1 := R1.out.now.free 1
    have f2 := R1.out.now.free 2
    have TT := turn_s3 w1 (w.heap.size + 1 + 1) (.slice none 0 0) (.slice none 0 0) (.slice none 0 0)
    have BF := Lib.hid (B1.out.trans (TT.below B1.out.size (by omega)))
    clear TT hb1 B0 R0 X0 O0 x0 x1 x2 B1 R1
    go_wp2_with fail
    refine bodyPost_ret (v := .tuple #[.agg #[.slice none 0 0, .slice none 0 0, .slice none 0 0], .int .i64 1]) (by simp [results, Try.results19, go_sem, *]) rfl (all_no HQ.out ⟨none, 0, none, 0, none, 0, rfl, ⟨ownDk_lives, Nat.le_refl _, ownDk_nil _ _ _⟩, BF.out⟩)
  rw [q] at DO
  have D := Lib.hid DO
  have HQ := Lib.hid q
  clear q DO
  go_enter Try.func19, Try.ntmps19
  go_wp2_with fail
  rw [HW.out.1, HW.out.2.1, HW.out.2.2]
  refine D.out.mono ?_
  rintro e w1 ⟨rfl, hb1⟩
  have B1 := Lib.hid (B0.out.trans (hb1.mono B0.out.size))
  have X1 := Lib.hid (X0.out.next hb1)
  have O1 := Lib.hid (O0.out.next hb1)
  have R1 := Lib.hid (R0.out.next hb1)
  have MW : Hid (w.heap.size + 1 + 1 + 1 ≤ w1.heap.size) := Lib.hid (by have := M0.out; have := hb1.size; omega)
  have DA := HA.out w1 (H.out.next B1.out) HQ.out
  unfold ActPost at DA
  obtain ⟨L', hL⟩ : ∃ q, actL l o (r, s', t, d) = q := ⟨_, rfl⟩
  obtain ⟨O', hO⟩ : ∃ q, actO l o (r, s', t, d) = q := ⟨_, rfl⟩
  obtain ⟨cd, hc⟩ : ∃ q, codeD l o (r, s', t, d) = q := ⟨_, rfl⟩
  rw [hL, hO, hc] at DA
  have HLO := Lib.hid (And.intro hL (And.intro hO hc))
  have HD := Lib.hid DA
  clear hb1 B0 R0 X0 O0 x0 x1 x2 D HA DA hL hO hc
  obtain ⟨x0, x1, x2⟩ := X1.out.now.treDk
  obtain ⟨u0, u1, u2, u3⟩ := O1.out.now.fourDk
  go_wp2_with fail
  refine HD.out.mono ?_
  rintro e wz ⟨p0, r0, p1, r1, p2, r2, rfl, hh, hbz⟩
  have BZ := Lib.hid (B1.out.trans (hbz.mono B1.out.size))
  have RZ := Lib.hid (R1.out.next hbz)
  have hle := MW.out
  have hle2 := hbz.size
  obtain ⟨y0, y1, y2⟩ := RZ.out.now.treDk
  have f0 := RZ.out.now.free 0
  have f1 := RZ.out.now.free 1
  have f2 := RZ.out.now.free 2
  have TT := turn_s3 wz (w.heap.size + 1 + 1) (.slice p0 L'.length r0) (.slice p1 s.length r1) (.slice p2 O'.length r2)
  have hsz := size_s3 wz (w.heap.size + 1 + 1) (.slice p0 L'.length r0) (.slice p1 s.length r1) (.slice p2 O'.length r2)
  have BF := Lib.hid (BZ.out.trans (TT.below BZ.out.size (by omega)))
  have HF := Lib.hid (hh.step TT (.inr (by omega)))
  have HS := Lib.hid hsz
  clear TT hbz hh B1 R1 X1 O1 x0 x1 x2 u0 u1 u2 u3 BZ RZ hsz HD
  go_wp2_with fail
  refine bodyPost_ret (v := .tuple #[.agg #[.slice p0 L'.length r0, .slice p1 s.length r1, .slice p2 O'.length r2], .int .i64 cd]) (by simp [results, Try.results19, go_sem, *]) rfl (all_ok HQ.out (by rw [HLO.out.1, HLO.out.2.1, HLO.out.2.2]; exact ⟨p0, r0, p1, r1, p2, r2, rfl, holdsDk_widen HF.out (by omega) (by rw [HS.out]; exact Nat.le_refl _) (Nat.le_refl _), BF.out⟩))
set_option maxRecDepth 100000 in
set_option maxHeartbeats 6400000 in
theorem specDoDk (a0 a1 a2 : Option Addr) (n0 n1 n2 c0 c1 c2 : Nat) (l s : List Pre2) (o : List OpV) (r : Int) (s' t d : ByteArray) (w : World) (h : IsDk w a0 a1 a2 n0 n1 n2 c0 c1 c2 l s o) (hz : SmDk l s o) (m1 : s'.size ≤ maxLen) (m2 : t.size ≤ maxLen) (m3 : d.size ≤ 1048576) (hn : n0 ≤ 1048576 ∧ n1 ≤ 1048576 ∧ n2 ≤ 1048576) :
    Calls Try.prog 20 #[.agg #[.slice a0 n0 c0, .slice a1 n1 c1, .slice a2 n2 c2], .agg #[.int .i64 r, .string s', .string t, .string d]] w (DoAllPost l s o (r, s', t, d) w) := by
  obtain ⟨W1, hW1⟩ : ∃ W, w.alloc (.cells #[.slice a0 n0 c0, .slice a1 n1 c1, .slice a2 n2 c2] 27) = W := ⟨_, rfl⟩
  obtain ⟨W2, hW2⟩ : ∃ W, W1.alloc (.cells #[.int .i64 r, .string s', .string t, .string d] 36) = W := ⟨_, rfl⟩
  obtain ⟨W3, hW3⟩ : ∃ W, W2.alloc (.cells #[.slice none 0 0, .slice none 0 0, .slice none 0 0] 27) = W := ⟨_, rfl⟩
  have z1 : W1.heap.size = w.heap.size + 1 := by rw [← hW1]; simp
  have z2 : W2.heap.size = w.heap.size + 1 + 1 := by rw [← hW2]; simp [z1]
  have z3 : W3.heap.size = w.heap.size + 3 := by rw [← hW3]; simp [z2]
  have B0 : Hid (Below w.heap.size w W3) := Lib.hid (by rw [← hW3, ← hW2, ← hW1]; exact (((Below.refl w.heap.size w).alloc (Nat.le_refl _) _).alloc (by simp) _).alloc (by simp; omega) _)
  have X0 : Hid (Holds w.heap.size (w.heap.size + 1) W3 (Cells w.heap.size #[.slice a0 n0 c0, .slice a1 n1 c1, .slice a2 n2 c2] 27)) := Lib.hid (by rw [← hW3, ← hW2, ← hW1]; exact ((cells_new w _ _).alloc _).alloc _)
  have O0 : Hid (Holds (w.heap.size + 1) (w.heap.size + 1 + 1) W3 (Cells (w.heap.size + 1) #[.int .i64 r, .string s', .string t, .string d] 36)) := Lib.hid (by
    have := (cells_new W1 #[.int .i64 r, .string s', .string t, .string d] 36).alloc (.cells #[.slice none 0 0, .slice none 0 0, .slice none 0 0] 27)
    rw [hW2, hW3, z1] at this; exact this)
  have R0 : Hid (Holds (w.heap.size + 1 + 1) (w.heap.size + 3) W3 (Cells (w.heap.size + 1 + 1) #[.slice none 0 0, .slice none 0 0, .slice none 0 0] 27)) := Lib.hid (by
    have := cells_new W2 #[.slice none 0 0, .slice none 0 0, .slice none 0 0] 27
    rw [hW3, z2] at this; exact this)
  have HW := Lib.hid (And.intro hW1 (And.intro hW2 hW3))
  have M0 : Hid (w.heap.size + 3 ≤ W3.heap.size) := Lib.hid (by omega)
  clear hW1 hW2 hW3 z1 z2 z3
  have H := Lib.hid h
  have HN := Lib.hid hn
  have DO := specDiskOk a0 a1 a2 n0 n1 n2 c0 c1 c2 l s o _ (h.next B0.out) hz HN.out
  have ACT := fun W hW hd => specAct a0 a1 a2 n0 n1 n2 c0 c1 c2 l s o r s' t d W hW hd m1 m2 m3 hn
  have HA := Lib.hid ACT
  obtain ⟨x0, x1, x2⟩ := X0.out.now.treDk
  clear h hz hn ACT
  cases q : diskOk l s o
  · rw [q] at DO
    have D := Lib.hid DO
    have HQ := Lib.hid q
    clear q DO HA
    go_enter Try.func20, Try.ntmps20
    go_wp2_with fail
    rw [HW.out.1, HW.out.2.1, HW.out.2.2]
    refine D.out.mono ?_
    rintro e w1 ⟨rfl, hb1⟩
    have B1 := Lib.hid (B0.out.trans (hb1.mono B0.out.size))
    have R1 := Lib.hid (R0.out.next hb1)
    have lz := hb1.size
    have lM := M0.out
    obtain ⟨y0, y1, y2⟩ := R1.out.now.treDk
    have f0 := R1.out.now.free 0
    have f1 := R1.out.now.free 1
    have f2 := R1.out.now.free 2
    have TT := turn_s3 w1 (w.heap.size + 1 + 1) (.slice none 0 0) (.slice none 0 0) (.slice none 0 0)
    have BF := Lib.hid (B1.out.trans (TT.below B1.out.size (by omega)))
    clear TT hb1 B0 R0 X0 O0 x0 x1 x2 B1 R1
    go_wp2_with fail
    refine bodyPost_ret (v := .tuple #[.agg #[.slice none 0 0, .slice none 0 0, .slice none 0 0], .int .i64 1]) (by simp [results, Try.results20, go_sem, *]) rfl (all_no HQ.out ⟨none, 0, none, 0, none, 0, rfl, ⟨ownDk_lives, Nat.le_refl _, ownDk_nil _ _ _⟩, BF.out⟩)
  rw [q] at DO
  have D := Lib.hid DO
  have HQ := Lib.hid q
  clear q DO
  go_enter Try.func20, Try.ntmps20
  go_wp2_with fail
  rw [HW.out.1, HW.out.2.1, HW.out.2.2]
  refine D.out.mono ?_
  rintro e w1 ⟨rfl, hb1⟩
  have B1 := Lib.hid (B0.out.trans (hb1.mono B0.out.size))
  have X1 := Lib.hid (X0.out.next hb1)
  have O1 := Lib.hid (O0.out.next hb1)
  have R1 := Lib.hid (R0.out.next hb1)
  have MW : Hid (w.heap.size + 1 + 1 + 1 ≤ w1.heap.size) := Lib.hid (by have := M0.out; have := hb1.size; omega)
  have DA := HA.out w1 (H.out.next B1.out) HQ.out
  unfold ActPost at DA
  obtain ⟨L', hL⟩ : ∃ q, actL l o (r, s', t, d) = q := ⟨_, rfl⟩
  obtain ⟨O', hO⟩ : ∃ q, actO l o (r, s', t, d) = q := ⟨_, rfl⟩
  obtain ⟨cd, hc⟩ : ∃ q, codeD l o (r, s', t, d) = q := ⟨_, rfl⟩
  rw [hL, hO, hc] at DA
  have HLO := Lib.hid (And.intro hL (And.intro hO hc))
  have HD := Lib.hid DA
  clear hb1 B0 R0 X0 O0 x0 x1 x2 D HA DA hL hO hc
  obtain ⟨x0, x1, x2⟩ := X1.out.now.treDk
  obtain ⟨u0, u1, u2, u3⟩ := O1.out.now.fourDk
  go_wp2_with fail
  refine HD.out.mono ?_
  rintro e wz ⟨p0, r0, p1, r1, p2, r2, rfl, hh, hbz⟩
  have BZ := Lib.hid (B1.out.trans (hbz.mono B1.out.size))
  have RZ := Lib.hid (R1.out.next hbz)
  have hle := MW.out
  have hle2 := hbz.size
  obtain ⟨y0, y1, y2⟩ := RZ.out.now.treDk
  have f0 := RZ.out.now.free 0
  have f1 := RZ.out.now.free 1
  have f2 := RZ.out.now.free 2
  have TT := turn_s3 wz (w.heap.size + 1 + 1) (.slice p0 L'.length r0) (.slice p1 s.length r1) (.slice p2 O'.length r2)
  have hsz := size_s3 wz (w.heap.size + 1 + 1) (.slice p0 L'.length r0) (.slice p1 s.length r1) (.slice p2 O'.length r2)
  have BF := Lib.hid (BZ.out.trans (TT.below BZ.out.size (by omega)))
  have HF := Lib.hid (hh.step TT (.inr (by omega)))
  have HS := Lib.hid hsz
  clear TT hbz hh B1 R1 X1 O1 x0 x1 x2 u0 u1 u2 u3 BZ RZ hsz HD
  go_wp2_with fail
  refine bodyPost_ret (v := .tuple #[.agg #[.slice p0 L'.length r0, .slice p1 s.length r1, .slice p2 O'.length r2], .int .i64 cd]) (by simp [results, Try.results20, go_sem, *]) rfl (all_ok HQ.out (by rw [HLO.out.1, HLO.out.2.1, HLO.out.2.2]; exact ⟨p0, r0, p1, r1, p2, r2, rfl, holdsDk_widen HF.out (by omega) (by rw [HS.out]; exact Nat.le_refl _) (Nat.le_refl _), BF.out⟩))
end Go.Proofs.Ytamnlifdfhmbnaa
