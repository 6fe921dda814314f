/- The program's Chained. -/
import Derived.Test.YtofkploffcplhaaG21
import Derived.Deep.Cut
import Derived.Deep.RegionHeld3
import Derived.Test.YtofkploffcplhaaG23
namespace Go.Proofs.Ytofkploffcplhaa
open Go.RowKit Go.WideShapes Go.Maps
theorem chained_no {pd pa qd qa : List Tri3} (h : ¬ chainable pd pa qd qa) : chainedO pd pa qd qa = none := if_neg (fun c => h c.1)
theorem size_of {C : Nat} {w W : World} {p : World → Prop} {g : Nat} (h : Holds g C W p) (_hb : Below w.heap.size w W) : C ≤ W.heap.size := h.le
set_option maxRecDepth 100000 in
set_option maxHeartbeats 6400000 in
theorem implChainedNo (a1 a2 b1 b2 : Option Addr) (n1 n2 c1 c2 m1 m2 k1 k2 : Nat) (d1 d2 e1 e2 : List Tri3) (w : World) (h : Is2 w a1 a2 n1 n2 c1 c2 d1 d2) (k : Is2 w b1 b2 m1 m2 k1 k2 e1 e2) (s1 : Sm d1) (s2 : Sm d2) (s3 : Sm e1) (s4 : Sm e2) (hch : ¬ chainable d1 d2 e1 e2) :
    Calls Try.prog 29 #[.agg #[.slice a1 n1 c1, .slice a2 n2 c2], .agg #[.slice b1 m1 k1, .slice b2 m2 k2]] w (Res2 (chainedO d1 d2 e1 e2) w) := by
  obtain ⟨W1, hW1⟩ : ∃ W, w.alloc (.cells #[.slice a1 n1 c1, .slice a2 n2 c2] 29) = W := ⟨_, rfl⟩
  obtain ⟨W2, hW2⟩ : ∃ W, W1.alloc (.cells #[.slice b1 m1 k1, .slice b2 m2 k2] 29) = W := ⟨_, rfl⟩
  obtain ⟨W3, hW3⟩ : ∃ W, W2.alloc (.cells #[.slice none 0 0, .slice none 0 0] 29) = W := ⟨_, rfl⟩
  have z1 : W1.heap.size = w.heap.size + 1 := by rw [← hW1]; simp
  have z2 : W2.heap.size = w.heap.size + 2 := by rw [← hW2]; simp [z1]
  have z3 : W3.heap.size = w.heap.size + 3 := by rw [← hW3]; simp [z2]
  have B0 : Hid (Below w.heap.size w W3) := Lib.hid (by rw [← hW3, ← hW2, ← hW1]; exact (((Below.refl w.heap.size w).alloc (Nat.le_refl _) _).alloc (by simp) _).alloc (by simp; omega) _)
  have X0 : Hid (Holds w.heap.size (w.heap.size + 1) W3 (Cells w.heap.size #[.slice a1 n1 c1, .slice a2 n2 c2] 29)) := Lib.hid (by rw [← hW3, ← hW2, ← hW1]; exact ((cells_new w _ _).alloc _).alloc _)
  have Y0 : Hid (Holds (w.heap.size + 1) (w.heap.size + 2) W3 (Cells (w.heap.size + 1) #[.slice b1 m1 k1, .slice b2 m2 k2] 29)) := Lib.hid (by
    have := (cells_new W1 #[.slice b1 m1 k1, .slice b2 m2 k2] 29).alloc (.cells #[.slice none 0 0, .slice none 0 0] 29)
    rw [hW2, hW3, z1] at this; exact this)
  have R0 : Hid (Holds (w.heap.size + 2) (w.heap.size + 3) W3 (Cells (w.heap.size + 2) #[.slice none 0 0, .slice none 0 0] 29)) := Lib.hid (by
    have := cells_new W2 #[.slice none 0 0, .slice none 0 0] 29
    rw [hW3, z2] at this; exact this)
  have HW := Lib.hid (And.intro hW1 (And.intro hW2 hW3))
  have HP := Lib.hid h
  have HQ := Lib.hid k
  have S := Lib.hid (And.intro (And.intro s1 s2) (And.intro s3 s4))
  have HL := Lib.hid (And.intro (And.intro h.1.len h.2.len) (And.intro k.1.len k.2.len))
  have HCH := Lib.hid hch
  clear hch
  have C1 : Hid (∀ W, Below w.heap.size w W → Calls Try.prog 13 #[.agg #[.slice a1 n1 c1, .slice a2 n2 c2]] W fun e w' => e = .returned (.bool (patchOk d1 d2)) ∧ Below W.heap.size W w') := Lib.hid (fun W hb => implPatchOk a1 a2 n1 n2 c1 c2 d1 d2 W (h.next hb) s1 s2)
  have C2 : Hid (∀ W, Below w.heap.size w W → Calls Try.prog 13 #[.agg #[.slice b1 m1 k1, .slice b2 m2 k2]] W fun e w' => e = .returned (.bool (patchOk e1 e2)) ∧ Below W.heap.size W w') := Lib.hid (fun W hb => implPatchOk b1 b2 m1 m2 k1 k2 e1 e2 W (k.next hb) s3 s4)
  clear h k s1 s2 s3 s4 z1 z2 z3 hW1 hW2 hW3
  cases g1 : patchOk d1 d2
  · rw [g1] at C1
    have HR : Hid (chainedO d1 d2 e1 e2 = none) := Lib.hid (chained_no (fun c => by have := c.1; rw [g1] at this; cases this))
    clear g1
    go_enter Try.func29, Try.ntmps29
    go_wp2_with fail
    rw [HW.out.1, HW.out.2.1, HW.out.2.2]
    have B1 := Lib.hid B0.out.drew
    have X1 := Lib.hid X0.out.drew
    have Y1 := Lib.hid Y0.out.drew
    have R1 := Lib.hid R0.out.drew
    clear B0 X0 Y0 R0
    refine wp_region_held_drew (S := (fun w' => (w'.cell? ⟨w.heap.size, 0, none⟩ = some (.slice a1 n1 c1) ∧ w'.cell? ⟨w.heap.size, 1, none⟩ = some (.slice a2 n2 c2)) ∧ (w'.cell? ⟨w.heap.size + 1, 0, none⟩ = some (.slice b1 m1 k1) ∧ w'.cell? ⟨w.heap.size + 1, 1, none⟩ = some (.slice b2 m2 k2)))) (by kernel_rfl) ?_ (fun hHeld => ?_)
    · exact ⟨X1.out.now.two, Y1.out.now.two⟩
    refine wpAnyH_take (i := 0) (v := ?_) rfl (by kernel_rfl) (by kernel_rfl) (by kernel_rfl) (fun _ _ _ h => h) (Or.inl ⟨by kernel_rfl, ?_⟩) (by assumption) ?_
    rotate_left
    · intro w hSw; (try dsimp only at hSw); go_simp; try with_reducible rfl
    refine wpAnyH_ready (rs := [1]) (by kernel_rfl) (by simp) ?_
    refine AllReadyH.cons rfl (fun KK hK => ?_) AllReadyH.nil
    go_simp
    refine (C1.out _ B1.out).mono ?_
    rintro e u_1 ⟨rfl, hb⟩
    have B2 := Lib.hid (B1.out.trans (hb.mono B1.out.size))
    have X2 := Lib.hid (X1.out.next hb)
    have Y2 := Lib.hid (Y1.out.next hb)
    have R2 := Lib.hid (R1.out.next hb)
    clear B1 X1 Y1 R1
    clear hb
    go_wp2_with fail
    clear hHeld
    refine hK.out _ _ ?_ (fun hHeld => ?_)
    · exact ⟨X2.out.now.two, Y2.out.now.two⟩
    clear hK KK
    refine wpAnyH_take (i := 2) (v := ?_) rfl (by kernel_rfl) (by kernel_rfl) (by kernel_rfl) (fun _ _ _ h => h) (Or.inl ⟨by kernel_rfl, ?_⟩) (by assumption) ?_
    rotate_left
    · intro w hSw; (try dsimp only at hSw); go_simp; try with_reducible rfl
    refine wpAnyH_take (i := 3) (v := ?_) rfl (by kernel_rfl) (by kernel_rfl) (by kernel_rfl) (fun _ _ _ h => h) (Or.inl ⟨by kernel_rfl, ?_⟩) (by assumption) ?_
    rotate_left
    · intro w hSw; (try dsimp only at hSw); go_simp; try with_reducible rfl
    refine wpAnyH_take (i := 4) (v := undef) rfl (by kernel_rfl) (by kernel_rfl) (by kernel_rfl) (fun _ _ _ h => h) (Or.inr ⟨by kernel_rfl, rfl⟩) (by assumption) ?_
    refine wpAnyH_take (i := 5) (v := undef) rfl (by kernel_rfl) (by kernel_rfl) (by kernel_rfl) (fun _ _ _ h => h) (Or.inr ⟨by kernel_rfl, rfl⟩) (by assumption) ?_
    refine wpAnyH_take (i := 6) (v := undef) rfl (by kernel_rfl) (by kernel_rfl) (by kernel_rfl) (fun _ _ _ h => h) (Or.inr ⟨by kernel_rfl, rfl⟩) (by assumption) ?_
    refine wpAnyH_take (i := 7) (v := ?_) rfl (by kernel_rfl) (by kernel_rfl) (by kernel_rfl) (fun _ _ _ h => h) (Or.inl ⟨by kernel_rfl, ?_⟩) (by assumption) ?_
    rotate_left
    · intro w hSw; (try dsimp only at hSw); go_simp; try with_reducible rfl
    refine wpAnyH_take (i := 8) (v := ?_) rfl (by kernel_rfl) (by kernel_rfl) (by kernel_rfl) (fun _ _ _ h => h) (Or.inl ⟨by kernel_rfl, ?_⟩) (by assumption) ?_
    rotate_left
    · intro w hSw; (try dsimp only at hSw); go_simp; try with_reducible rfl
    refine wpAnyH_take (i := 9) (v := undef) rfl (by kernel_rfl) (by kernel_rfl) (by kernel_rfl) (fun _ _ _ h => h) (Or.inr ⟨by kernel_rfl, rfl⟩) (by assumption) ?_
    refine wpAnyH_take (i := 10) (v := undef) rfl (by kernel_rfl) (by kernel_rfl) (by kernel_rfl) (fun _ _ _ h => h) (Or.inr ⟨by kernel_rfl, rfl⟩) (by assumption) ?_
    refine wpAnyH_take (i := 11) (v := undef) rfl (by kernel_rfl) (by kernel_rfl) (by kernel_rfl) (fun _ _ _ h => h) (Or.inr ⟨by kernel_rfl, rfl⟩) (by assumption) ?_
    refine wpAnyH_take (i := 12) (v := undef) rfl (by kernel_rfl) (by kernel_rfl) (by kernel_rfl) (fun _ _ _ h => h) (Or.inr ⟨by kernel_rfl, rfl⟩) (by assumption) ?_
    refine wpAnyH_take (i := 13) (v := undef) rfl (by kernel_rfl) (by kernel_rfl) (by kernel_rfl) (fun _ _ _ h => h) (Or.inr ⟨by kernel_rfl, rfl⟩) (by assumption) ?_
    refine wpAnyH_take (i := 14) (v := undef) rfl (by kernel_rfl) (by kernel_rfl) (by kernel_rfl) (fun _ _ _ h => h) (Or.inr ⟨by kernel_rfl, rfl⟩) (by assumption) ?_
    refine wpAnyH_take (i := 15) (v := undef) rfl (by kernel_rfl) (by kernel_rfl) (by kernel_rfl) (fun _ _ _ h => h) (Or.inr ⟨by kernel_rfl, rfl⟩) (by assumption) ?_
    refine wpAnyH_take (i := 16) (v := ?_) rfl (by kernel_rfl) (by kernel_rfl) (by kernel_rfl) (fun _ _ _ h => h) (Or.inl ⟨by kernel_rfl, ?_⟩) (by assumption) ?_
    rotate_left
    · intro w hSw; (try dsimp only at hSw); go_simp; try with_reducible rfl
    refine wpAnyH_take (i := 17) (v := ?_) rfl (by kernel_rfl) (by kernel_rfl) (by kernel_rfl) (fun _ _ _ h => h) (Or.inl ⟨by kernel_rfl, ?_⟩) (by assumption) ?_
    rotate_left
    · intro w hSw; (try dsimp only at hSw); go_simp; try with_reducible rfl
    refine wpAnyH_take (i := 18) (v := undef) rfl (by kernel_rfl) (by kernel_rfl) (by kernel_rfl) (fun _ _ _ h => h) (Or.inr ⟨by kernel_rfl, rfl⟩) (by assumption) ?_
    refine wpAnyH_take (i := 19) (v := undef) rfl (by kernel_rfl) (by kernel_rfl) (by kernel_rfl) (fun _ _ _ h => h) (Or.inr ⟨by kernel_rfl, rfl⟩) (by assumption) ?_
    refine wpAnyH_take (i := 20) (v := undef) rfl (by kernel_rfl) (by kernel_rfl) (by kernel_rfl) (fun _ _ _ h => h) (Or.inr ⟨by kernel_rfl, rfl⟩) (by assumption) ?_
    refine wpAnyH_take (i := 21) (v := undef) rfl (by kernel_rfl) (by kernel_rfl) (by kernel_rfl) (fun _ _ _ h => h) (Or.inr ⟨by kernel_rfl, rfl⟩) (by assumption) ?_
    refine wpAnyH_take (i := 22) (v := undef) rfl (by kernel_rfl) (by kernel_rfl) (by kernel_rfl) (fun _ _ _ h => h) (Or.inr ⟨by kernel_rfl, rfl⟩) (by assumption) ?_
    refine wpAnyH_take (i := 23) (v := undef) rfl (by kernel_rfl) (by kernel_rfl) (by kernel_rfl) (fun _ _ _ h => h) (Or.inr ⟨by kernel_rfl, rfl⟩) (by assumption) ?_
    refine wpAnyH_take (i := 24) (v := undef) rfl (by kernel_rfl) (by kernel_rfl) (by kernel_rfl) (fun _ _ _ h => h) (Or.inr ⟨by kernel_rfl, rfl⟩) (by assumption) ?_
    refine wpAnyH_take (i := 25) (v := ?_) rfl (by kernel_rfl) (by kernel_rfl) (by kernel_rfl) (fun _ _ _ h => h) (Or.inl ⟨by kernel_rfl, ?_⟩) (by assumption) ?_
    rotate_left
    · intro w hSw; (try dsimp only at hSw); go_simp; try with_reducible rfl
    refine wpAnyH_done (by kernel_rfl) ?_ _
    try simp only [Act.put, List.setIfInBounds_toArray, List.set_cons_zero, List.set_cons_succ, List.getElem_toArray, List.getElem_cons_zero, List.getElem_cons_succ]
    obtain ⟨y0, y1⟩ := R2.out.now.two
    obtain ⟨f0, f1⟩ := R2.out.now.frees
    go_wp2_with fail
    refine bodyPost_ret (v := .tuple #[.agg #[.slice none 0 0, .slice none 0 0], .bool false]) (by simp [results, Try.results29, go_sem, *]) rfl ⟨_, _, by rw [HR.out]; rfl, ?_, below_two B2.out _ (by omega) _ _⟩
    rw [HR.out]
    exact own2_nil _ (by rw [set2_size]; exact B2.out.size)
  rw [g1] at C1
  have G1 := Lib.hid g1
  clear g1
  cases g2 : patchOk e1 e2
  · rw [g2] at C2
    have HR : Hid (chainedO d1 d2 e1 e2 = none) := Lib.hid (chained_no (fun c => by have := c.2.1; rw [g2] at this; cases this))
    clear g2
    go_enter Try.func29, Try.ntmps29
    go_wp2_with fail
    rw [HW.out.1, HW.out.2.1, HW.out.2.2]
    have B1 := Lib.hid B0.out.drew
    have X1 := Lib.hid X0.out.drew
    have Y1 := Lib.hid Y0.out.drew
    have R1 := Lib.hid R0.out.drew
    clear B0 X0 Y0 R0
    refine wp_region_held_drew (S := (fun w' => (w'.cell? ⟨w.heap.size, 0, none⟩ = some (.slice a1 n1 c1) ∧ w'.cell? ⟨w.heap.size, 1, none⟩ = some (.slice a2 n2 c2)) ∧ (w'.cell? ⟨w.heap.size + 1, 0, none⟩ = some (.slice b1 m1 k1) ∧ w'.cell? ⟨w.heap.size + 1, 1, none⟩ = some (.slice b2 m2 k2)))) (by kernel_rfl) ?_ (fun hHeld => ?_)
    · exact ⟨X1.out.now.two, Y1.out.now.two⟩
    refine wpAnyH_take (i := 0) (v := ?_) rfl (by kernel_rfl) (by kernel_rfl) (by kernel_rfl) (fun _ _ _ h => h) (Or.inl ⟨by kernel_rfl, ?_⟩) (by assumption) ?_
    rotate_left
    · intro w hSw; (try dsimp only at hSw); go_simp; try with_reducible rfl
    refine wpAnyH_ready (rs := [1]) (by kernel_rfl) (by simp) ?_
    refine AllReadyH.cons rfl (fun KK hK => ?_) AllReadyH.nil
    go_simp
    refine (C1.out _ B1.out).mono ?_
    rintro e u_1 ⟨rfl, hb⟩
    have B2 := Lib.hid (B1.out.trans (hb.mono B1.out.size))
    have X2 := Lib.hid (X1.out.next hb)
    have Y2 := Lib.hid (Y1.out.next hb)
    have R2 := Lib.hid (R1.out.next hb)
    clear B1 X1 Y1 R1
    clear hb
    go_wp2_with fail
    clear hHeld
    refine hK.out _ _ ?_ (fun hHeld => ?_)
    · exact ⟨X2.out.now.two, Y2.out.now.two⟩
    clear hK KK
    refine wpAnyH_take (i := 2) (v := ?_) rfl (by kernel_rfl) (by kernel_rfl) (by kernel_rfl) (fun _ _ _ h => h) (Or.inl ⟨by kernel_rfl, ?_⟩) (by assumption) ?_
    rotate_left
    · intro w hSw; (try dsimp only at hSw); go_simp; try with_reducible rfl
    refine wpAnyH_take (i := 3) (v := ?_) rfl (by kernel_rfl) (by kernel_rfl) (by kernel_rfl) (fun _ _ _ h => h) (Or.inl ⟨by kernel_rfl, ?_⟩) (by assumption) ?_
    rotate_left
    · intro w hSw; (try dsimp only at hSw); go_simp; try with_reducible rfl
    refine wpAnyH_take (i := 4) (v := ?_) rfl (by kernel_rfl) (by kernel_rfl) (by kernel_rfl) (fun _ _ _ h => h) (Or.inl ⟨by kernel_rfl, ?_⟩) (by assumption) ?_
    rotate_left
    · intro w hSw; (try dsimp only at hSw); go_simp; try with_reducible rfl
    refine wpAnyH_ready (rs := [5]) (by kernel_rfl) (by simp) ?_
    refine AllReadyH.cons rfl (fun KK hK => ?_) AllReadyH.nil
    go_simp
    refine (C2.out _ B2.out).mono ?_
    rintro e u_5 ⟨rfl, hb⟩
    have B3 := Lib.hid (B2.out.trans (hb.mono B2.out.size))
    have X3 := Lib.hid (X2.out.next hb)
    have Y3 := Lib.hid (Y2.out.next hb)
    have R3 := Lib.hid (R2.out.next hb)
    clear B2 X2 Y2 R2
    clear hb
    go_wp2_with fail
    clear hHeld
    refine hK.out _ _ ?_ (fun hHeld => ?_)
    · exact ⟨X3.out.now.two, Y3.out.now.two⟩
    clear hK KK
    refine wpAnyH_take (i := 6) (v := ?_) rfl (by kernel_rfl) (by kernel_rfl) (by kernel_rfl) (fun _ _ _ h => h) (Or.inl ⟨by kernel_rfl, ?_⟩) (by assumption) ?_
    rotate_left
    · intro w hSw; (try dsimp only at hSw); go_simp; try with_reducible rfl
    refine wpAnyH_take (i := 7) (v := ?_) rfl (by kernel_rfl) (by kernel_rfl) (by kernel_rfl) (fun _ _ _ h => h) (Or.inl ⟨by kernel_rfl, ?_⟩) (by assumption) ?_
    rotate_left
    · intro w hSw; (try dsimp only at hSw); go_simp; try with_reducible rfl
    refine wpAnyH_take (i := 8) (v := ?_) rfl (by kernel_rfl) (by kernel_rfl) (by kernel_rfl) (fun _ _ _ h => h) (Or.inl ⟨by kernel_rfl, ?_⟩) (by assumption) ?_
    rotate_left
    · intro w hSw; (try dsimp only at hSw); go_simp; try with_reducible rfl
    refine wpAnyH_take (i := 9) (v := undef) rfl (by kernel_rfl) (by kernel_rfl) (by kernel_rfl) (fun _ _ _ h => h) (Or.inr ⟨by kernel_rfl, rfl⟩) (by assumption) ?_
    refine wpAnyH_take (i := 10) (v := undef) rfl (by kernel_rfl) (by kernel_rfl) (by kernel_rfl) (fun _ _ _ h => h) (Or.inr ⟨by kernel_rfl, rfl⟩) (by assumption) ?_
    refine wpAnyH_take (i := 11) (v := undef) rfl (by kernel_rfl) (by kernel_rfl) (by kernel_rfl) (fun _ _ _ h => h) (Or.inr ⟨by kernel_rfl, rfl⟩) (by assumption) ?_
    refine wpAnyH_take (i := 12) (v := undef) rfl (by kernel_rfl) (by kernel_rfl) (by kernel_rfl) (fun _ _ _ h => h) (Or.inr ⟨by kernel_rfl, rfl⟩) (by assumption) ?_
    refine wpAnyH_take (i := 13) (v := undef) rfl (by kernel_rfl) (by kernel_rfl) (by kernel_rfl) (fun _ _ _ h => h) (Or.inr ⟨by kernel_rfl, rfl⟩) (by assumption) ?_
    refine wpAnyH_take (i := 14) (v := undef) rfl (by kernel_rfl) (by kernel_rfl) (by kernel_rfl) (fun _ _ _ h => h) (Or.inr ⟨by kernel_rfl, rfl⟩) (by assumption) ?_
    refine wpAnyH_take (i := 15) (v := undef) rfl (by kernel_rfl) (by kernel_rfl) (by kernel_rfl) (fun _ _ _ h => h) (Or.inr ⟨by kernel_rfl, rfl⟩) (by assumption) ?_
    refine wpAnyH_take (i := 16) (v := ?_) rfl (by kernel_rfl) (by kernel_rfl) (by kernel_rfl) (fun _ _ _ h => h) (Or.inl ⟨by kernel_rfl, ?_⟩) (by assumption) ?_
    rotate_left
    · intro w hSw; (try dsimp only at hSw); go_simp; try with_reducible rfl
    refine wpAnyH_take (i := 17) (v := ?_) rfl (by kernel_rfl) (by kernel_rfl) (by kernel_rfl) (fun _ _ _ h => h) (Or.inl ⟨by kernel_rfl, ?_⟩) (by assumption) ?_
    rotate_left
    · intro w hSw; (try dsimp only at hSw); go_simp; try with_reducible rfl
    refine wpAnyH_take (i := 18) (v := undef) rfl (by kernel_rfl) (by kernel_rfl) (by kernel_rfl) (fun _ _ _ h => h) (Or.inr ⟨by kernel_rfl, rfl⟩) (by assumption) ?_
    refine wpAnyH_take (i := 19) (v := undef) rfl (by kernel_rfl) (by kernel_rfl) (by kernel_rfl) (fun _ _ _ h => h) (Or.inr ⟨by kernel_rfl, rfl⟩) (by assumption) ?_
    refine wpAnyH_take (i := 20) (v := undef) rfl (by kernel_rfl) (by kernel_rfl) (by kernel_rfl) (fun _ _ _ h => h) (Or.inr ⟨by kernel_rfl, rfl⟩) (by assumption) ?_
    refine wpAnyH_take (i := 21) (v := undef) rfl (by kernel_rfl) (by kernel_rfl) (by kernel_rfl) (fun _ _ _ h => h) (Or.inr ⟨by kernel_rfl, rfl⟩) (by assumption) ?_
    refine wpAnyH_take (i := 22) (v := undef) rfl (by kernel_rfl) (by kernel_rfl) (by kernel_rfl) (fun _ _ _ h => h) (Or.inr ⟨by kernel_rfl, rfl⟩) (by assumption) ?_
    refine wpAnyH_take (i := 23) (v := undef) rfl (by kernel_rfl) (by kernel_rfl) (by kernel_rfl) (fun _ _ _ h => h) (Or.inr ⟨by kernel_rfl, rfl⟩) (by assumption) ?_
    refine wpAnyH_take (i := 24) (v := undef) rfl (by kernel_rfl) (by kernel_rfl) (by kernel_rfl) (fun _ _ _ h => h) (Or.inr ⟨by kernel_rfl, rfl⟩) (by assumption) ?_
    refine wpAnyH_take (i := 25) (v := ?_) rfl (by kernel_rfl) (by kernel_rfl) (by kernel_rfl) (fun _ _ _ h => h) (Or.inl ⟨by kernel_rfl, ?_⟩) (by assumption) ?_
    rotate_left
    · intro w hSw; (try dsimp only at hSw); go_simp; try with_reducible rfl
    refine wpAnyH_done (by kernel_rfl) ?_ _
    try simp only [Act.put, List.setIfInBounds_toArray, List.set_cons_zero, List.set_cons_succ, List.getElem_toArray, List.getElem_cons_zero, List.getElem_cons_succ]
    obtain ⟨y0, y1⟩ := R3.out.now.two
    obtain ⟨f0, f1⟩ := R3.out.now.frees
    go_wp2_with fail
    refine bodyPost_ret (v := .tuple #[.agg #[.slice none 0 0, .slice none 0 0], .bool false]) (by simp [results, Try.results29, go_sem, *]) rfl ⟨_, _, by rw [HR.out]; rfl, ?_, below_two B3.out _ (by omega) _ _⟩
    rw [HR.out]
    exact own2_nil _ (by rw [set2_size]; exact B3.out.size)
  rw [g2] at C2
  have G2 := Lib.hid g2
  obtain ⟨p1, p2, _⟩ := patchOk_iff.1 G1.out
  obtain ⟨q1, q2, _⟩ := patchOk_iff.1 g2
  have la1 : n1 ≤ 80 := by have := graphOk_len p1; have := HL.out.1.1; omega
  have la2 : n2 ≤ 80 := by have := graphOk_len p2; have := HL.out.1.2; omega
  have la3 : m1 ≤ 80 := by have := graphOk_len q1; have := HL.out.2.1; omega
  have la4 : m2 ≤ 80 := by have := graphOk_len q2; have := HL.out.2.2; omega
  obtain ⟨Z1, hZ1⟩ : ∃ R, unionO (outT d1 e2) (outT e1 d2) = R := ⟨_, rfl⟩
  obtain ⟨Z2, hZ2⟩ : ∃ R, unionO (outT d2 e1) (outT e2 d1) = R := ⟨_, rfl⟩
  have HZ1 := Lib.hid hZ1
  have HZ2 := Lib.hid hZ2
  have HV : Hid (anyT d1 e1 = false → anyT d2 e2 = false → chainedO d1 d2 e1 e2 = Z1.bind fun x => Z2.map fun y => (x, y)) := Lib.hid (fun g3 g4 => by
    rw [← hZ1, ← hZ2, unionO_outs p1 q1, unionO_outs p2 q2]
    unfold chainedO chDrop chAdd
    by_cases h1 : (unionT (outT d1 e2) (outT e1 d2)).length ≤ 80
    · by_cases h2 : (unionT (outT d2 e1) (outT e2 d1)).length ≤ 80
      · rw [if_pos ⟨⟨G1.out, g2, g3, g4⟩, h1, h2⟩, if_pos h1, if_pos h2]; rfl
      · rw [if_neg (fun c => h2 c.2.2), if_pos h1, if_neg h2]; rfl
    · rw [if_neg (fun c => h1 c.2.1), if_neg h1]; rfl)
  clear g2 p1 p2 q1 q2 hZ1 hZ2
  cases g3 : anyT d1 e1
  rotate_left
  · have HR : Hid (chainedO d1 d2 e1 e2 = none) := Lib.hid (chained_no (fun c => by have := c.2.2.1; rw [g3] at this; cases this))
    have GG := Lib.hid g3
    clear g3
    go_enter Try.func29, Try.ntmps29
    go_wp2_with fail
    rw [HW.out.1, HW.out.2.1, HW.out.2.2]
    have B1 := Lib.hid B0.out.drew
    have X1 := Lib.hid X0.out.drew
    have Y1 := Lib.hid Y0.out.drew
    have R1 := Lib.hid R0.out.drew
    clear B0 X0 Y0 R0
    refine wp_region_held_drew (S := (fun w' => (w'.cell? ⟨w.heap.size, 0, none⟩ = some (.slice a1 n1 c1) ∧ w'.cell? ⟨w.heap.size, 1, none⟩ = some (.slice a2 n2 c2)) ∧ (w'.cell? ⟨w.heap.size + 1, 0, none⟩ = some (.slice b1 m1 k1) ∧ w'.cell? ⟨w.heap.size + 1, 1, none⟩ = some (.slice b2 m2 k2)))) (by kernel_rfl) ?_ (fun hHeld => ?_)
    · exact ⟨X1.out.now.two, Y1.out.now.two⟩
    refine wpAnyH_take (i := 0) (v := ?_) rfl (by kernel_rfl) (by kernel_rfl) (by kernel_rfl) (fun _ _ _ h => h) (Or.inl ⟨by kernel_rfl, ?_⟩) (by assumption) ?_
    rotate_left
    · intro w hSw; (try dsimp only at hSw); go_simp; try with_reducible rfl
    refine wpAnyH_ready (rs := [1]) (by kernel_rfl) (by simp) ?_
    refine AllReadyH.cons rfl (fun KK hK => ?_) AllReadyH.nil
    go_simp
    refine (C1.out _ B1.out).mono ?_
    rintro e u_1 ⟨rfl, hb⟩
    have B2 := Lib.hid (B1.out.trans (hb.mono B1.out.size))
    have X2 := Lib.hid (X1.out.next hb)
    have Y2 := Lib.hid (Y1.out.next hb)
    have R2 := Lib.hid (R1.out.next hb)
    clear B1 X1 Y1 R1
    clear hb
    go_wp2_with fail
    clear hHeld
    refine hK.out _ _ ?_ (fun hHeld => ?_)
    · exact ⟨X2.out.now.two, Y2.out.now.two⟩
    clear hK KK
    refine wpAnyH_take (i := 2) (v := ?_) rfl (by kernel_rfl) (by kernel_rfl) (by kernel_rfl) (fun _ _ _ h => h) (Or.inl ⟨by kernel_rfl, ?_⟩) (by assumption) ?_
    rotate_left
    · intro w hSw; (try dsimp only at hSw); go_simp; try with_reducible rfl
    refine wpAnyH_take (i := 3) (v := ?_) rfl (by kernel_rfl) (by kernel_rfl) (by kernel_rfl) (fun _ _ _ h => h) (Or.inl ⟨by kernel_rfl, ?_⟩) (by assumption) ?_
    rotate_left
    · intro w hSw; (try dsimp only at hSw); go_simp; try with_reducible rfl
    refine wpAnyH_take (i := 4) (v := ?_) rfl (by kernel_rfl) (by kernel_rfl) (by kernel_rfl) (fun _ _ _ h => h) (Or.inl ⟨by kernel_rfl, ?_⟩) (by assumption) ?_
    rotate_left
    · intro w hSw; (try dsimp only at hSw); go_simp; try with_reducible rfl
    refine wpAnyH_ready (rs := [5]) (by kernel_rfl) (by simp) ?_
    refine AllReadyH.cons rfl (fun KK hK => ?_) AllReadyH.nil
    go_simp
    refine (C2.out _ B2.out).mono ?_
    rintro e u_5 ⟨rfl, hb⟩
    have B3 := Lib.hid (B2.out.trans (hb.mono B2.out.size))
    have X3 := Lib.hid (X2.out.next hb)
    have Y3 := Lib.hid (Y2.out.next hb)
    have R3 := Lib.hid (R2.out.next hb)
    clear B2 X2 Y2 R2
    clear hb
    go_wp2_with fail
    clear hHeld
    refine hK.out _ _ ?_ (fun hHeld => ?_)
    · exact ⟨X3.out.now.two, Y3.out.now.two⟩
    clear hK KK
    refine wpAnyH_take (i := 6) (v := ?_) rfl (by kernel_rfl) (by kernel_rfl) (by kernel_rfl) (fun _ _ _ h => h) (Or.inl ⟨by kernel_rfl, ?_⟩) (by assumption) ?_
    rotate_left
    · intro w hSw; (try dsimp only at hSw); go_simp; try with_reducible rfl
    refine wpAnyH_take (i := 7) (v := ?_) rfl (by kernel_rfl) (by kernel_rfl) (by kernel_rfl) (fun _ _ _ h => h) (Or.inl ⟨by kernel_rfl, ?_⟩) (by assumption) ?_
    rotate_left
    · intro w hSw; (try dsimp only at hSw); go_simp; try with_reducible rfl
    refine wpAnyH_take (i := 8) (v := ?_) rfl (by kernel_rfl) (by kernel_rfl) (by kernel_rfl) (fun _ _ _ h => h) (Or.inl ⟨by kernel_rfl, ?_⟩) (by assumption) ?_
    rotate_left
    · intro w hSw; (try dsimp only at hSw); go_simp; try with_reducible rfl
    refine wpAnyH_take (i := 9) (v := ?_) rfl (by kernel_rfl) (by kernel_rfl) (by kernel_rfl) (fun _ _ _ h => h) (Or.inl ⟨by kernel_rfl, ?_⟩) (by assumption) ?_
    rotate_left
    · intro w hSw; (try dsimp only at hSw); go_simp; try with_reducible rfl
    refine wpAnyH_take (i := 10) (v := ?_) rfl (by kernel_rfl) (by kernel_rfl) (by kernel_rfl) (fun _ _ _ h => h) (Or.inl ⟨by kernel_rfl, ?_⟩) (by assumption) ?_
    rotate_left
    · intro w hSw; (try dsimp only at hSw); go_simp; try with_reducible rfl
    refine wpAnyH_take (i := 13) (v := ?_) rfl (by kernel_rfl) (by kernel_rfl) (by kernel_rfl) (fun _ _ _ h => h) (Or.inl ⟨by kernel_rfl, ?_⟩) (by assumption) ?_
    rotate_left
    · intro w hSw; (try dsimp only at hSw); go_simp; try with_reducible rfl
    refine wpAnyH_take (i := 14) (v := ?_) rfl (by kernel_rfl) (by kernel_rfl) (by kernel_rfl) (fun _ _ _ h => h) (Or.inl ⟨by kernel_rfl, ?_⟩) (by assumption) ?_
    rotate_left
    · intro w hSw; (try dsimp only at hSw); go_simp; try with_reducible rfl
    refine wpAnyH_ready (rs := [11]) (by kernel_rfl) (by simp) ?_
    refine AllReadyH.cons rfl (fun KK hK => ?_) AllReadyH.nil
    go_simp
    have B4 := Lib.hid (B3.out.alloc B3.out.size (.cells #[.slice a1 n1 c1] 27))
    have X4 := Lib.hid (X3.out.alloc (.cells #[.slice a1 n1 c1] 27))
    have Y4 := Lib.hid (Y3.out.alloc (.cells #[.slice a1 n1 c1] 27))
    have R4 := Lib.hid (R3.out.alloc (.cells #[.slice a1 n1 c1] 27))
    clear B3 X3 Y3 R3
    have tz := cells_new u_5 #[.slice a1 n1 c1] 27
    try simp only [World.size_alloc] at tz
    have N4 := Lib.hid (tz)
    clear tz
    clear hHeld
    refine hK.out _ _ ?_ (fun hHeld => ?_)
    · exact ⟨X4.out.now.two, Y4.out.now.two⟩
    clear hK KK
    refine wpAnyH_ready (rs := [12]) (by kernel_rfl) (by simp) ?_
    refine AllReadyH.cons rfl (fun KK hK => ?_) AllReadyH.nil
    go_simp
    refine (implSetAt _ a1 n1 c1 d1 _ N4.out.le (N4.out.now.at 0) (HP.out.1.next B4.out) (by omega)).mono ?_
    rintro e u_12 ⟨bba, mma, uua, rfl, _, ho, hm, hb⟩
    clear N4
    have B5 := Lib.hid (B4.out.trans (hb.mono B4.out.size))
    have X5 := Lib.hid (X4.out.next hb)
    have Y5 := Lib.hid (Y4.out.next hb)
    have R5 := Lib.hid (R4.out.next hb)
    clear B4 X4 Y4 R4
    have Oa5 := Lib.hid (ho)
    have Ma := Lib.hid hm
    clear hb ho hm
    go_wp2_with fail
    clear hHeld
    refine hK.out _ _ ?_ (fun hHeld => ?_)
    · exact ⟨X5.out.now.two, Y5.out.now.two⟩
    clear hK KK
    refine wpAnyH_ready (rs := [15]) (by kernel_rfl) (by simp) ?_
    refine AllReadyH.cons rfl (fun KK hK => ?_) AllReadyH.nil
    go_simp
    have AA := implHasAny bba mma uua b1 m1 k1 e1 _ Oa5.out.now (HQ.out.1.next B5.out) (by omega)
    rw [anyT_same Ma.out, show anyT d1 e1 = true from by first | assumption | exact GG.out] at AA
    refine AA.mono ?_
    rintro e u_15 ⟨rfl, hb⟩
    clear Oa5
    have B6 := Lib.hid (B5.out.trans (hb.mono B5.out.size))
    have X6 := Lib.hid (X5.out.next hb)
    have Y6 := Lib.hid (Y5.out.next hb)
    have R6 := Lib.hid (R5.out.next hb)
    clear B5 X5 Y5 R5
    clear hb AA
    go_wp2_with fail
    clear hHeld
    refine hK.out _ _ ?_ (fun hHeld => ?_)
    · exact ⟨X6.out.now.two, Y6.out.now.two⟩
    clear hK KK
    refine wpAnyH_take (i := 16) (v := ?_) rfl (by kernel_rfl) (by kernel_rfl) (by kernel_rfl) (fun _ _ _ h => h) (Or.inl ⟨by kernel_rfl, ?_⟩) (by assumption) ?_
    rotate_left
    · intro w hSw; (try dsimp only at hSw); go_simp; try with_reducible rfl
    refine wpAnyH_take (i := 17) (v := ?_) rfl (by kernel_rfl) (by kernel_rfl) (by kernel_rfl) (fun _ _ _ h => h) (Or.inl ⟨by kernel_rfl, ?_⟩) (by assumption) ?_
    rotate_left
    · intro w hSw; (try dsimp only at hSw); go_simp; try with_reducible rfl
    refine wpAnyH_take (i := 18) (v := undef) rfl (by kernel_rfl) (by kernel_rfl) (by kernel_rfl) (fun _ _ _ h => h) (Or.inr ⟨by kernel_rfl, rfl⟩) (by assumption) ?_
    refine wpAnyH_take (i := 19) (v := undef) rfl (by kernel_rfl) (by kernel_rfl) (by kernel_rfl) (fun _ _ _ h => h) (Or.inr ⟨by kernel_rfl, rfl⟩) (by assumption) ?_
    refine wpAnyH_take (i := 20) (v := undef) rfl (by kernel_rfl) (by kernel_rfl) (by kernel_rfl) (fun _ _ _ h => h) (Or.inr ⟨by kernel_rfl, rfl⟩) (by assumption) ?_
    refine wpAnyH_take (i := 21) (v := undef) rfl (by kernel_rfl) (by kernel_rfl) (by kernel_rfl) (fun _ _ _ h => h) (Or.inr ⟨by kernel_rfl, rfl⟩) (by assumption) ?_
    refine wpAnyH_take (i := 22) (v := undef) rfl (by kernel_rfl) (by kernel_rfl) (by kernel_rfl) (fun _ _ _ h => h) (Or.inr ⟨by kernel_rfl, rfl⟩) (by assumption) ?_
    refine wpAnyH_take (i := 23) (v := undef) rfl (by kernel_rfl) (by kernel_rfl) (by kernel_rfl) (fun _ _ _ h => h) (Or.inr ⟨by kernel_rfl, rfl⟩) (by assumption) ?_
    refine wpAnyH_take (i := 24) (v := undef) rfl (by kernel_rfl) (by kernel_rfl) (by kernel_rfl) (fun _ _ _ h => h) (Or.inr ⟨by kernel_rfl, rfl⟩) (by assumption) ?_
    refine wpAnyH_take (i := 25) (v := ?_) rfl (by kernel_rfl) (by kernel_rfl) (by kernel_rfl) (fun _ _ _ h => h) (Or.inl ⟨by kernel_rfl, ?_⟩) (by assumption) ?_
    rotate_left
    · intro w hSw; (try dsimp only at hSw); go_simp; try with_reducible rfl
    refine wpAnyH_done (by kernel_rfl) ?_ _
    try simp only [Act.put, List.setIfInBounds_toArray, List.set_cons_zero, List.set_cons_succ, List.getElem_toArray, List.getElem_cons_zero, List.getElem_cons_succ]
    obtain ⟨y0, y1⟩ := R6.out.now.two
    obtain ⟨f0, f1⟩ := R6.out.now.frees
    go_wp2_with fail
    refine bodyPost_ret (v := .tuple #[.agg #[.slice none 0 0, .slice none 0 0], .bool false]) (by simp [results, Try.results29, go_sem, *]) rfl ⟨_, _, by rw [HR.out]; rfl, ?_, below_two B6.out _ (by omega) _ _⟩
    rw [HR.out]
    exact own2_nil _ (by rw [set2_size]; exact B6.out.size)
  have GG := Lib.hid g3
  clear g3
  cases g4 : anyT d2 e2
  rotate_left
  · have HR : Hid (chainedO d1 d2 e1 e2 = none) := Lib.hid (chained_no (fun c => by have := c.2.2.2; rw [g4] at this; cases this))
    go_enter Try.func29, Try.ntmps29
    go_wp2_with fail
    rw [HW.out.1, HW.out.2.1, HW.out.2.2]
    have B1 := Lib.hid B0.out.drew
    have X1 := Lib.hid X0.out.drew
    have Y1 := Lib.hid Y0.out.drew
    have R1 := Lib.hid R0.out.drew
    clear B0 X0 Y0 R0
    refine wp_region_held_drew (S := (fun w' => (w'.cell? ⟨w.heap.size, 0, none⟩ = some (.slice a1 n1 c1) ∧ w'.cell? ⟨w.heap.size, 1, none⟩ = some (.slice a2 n2 c2)) ∧ (w'.cell? ⟨w.heap.size + 1, 0, none⟩ = some (.slice b1 m1 k1) ∧ w'.cell? ⟨w.heap.size + 1, 1, none⟩ = some (.slice b2 m2 k2)))) (by kernel_rfl) ?_ (fun hHeld => ?_)
    · exact ⟨X1.out.now.two, Y1.out.now.two⟩
    refine wpAnyH_take (i := 0) (v := ?_) rfl (by kernel_rfl) (by kernel_rfl) (by kernel_rfl) (fun _ _ _ h => h) (Or.inl ⟨by kernel_rfl, ?_⟩) (by assumption) ?_
    rotate_left
    · intro w hSw; (try dsimp only at hSw); go_simp; try with_reducible rfl
    refine wpAnyH_ready (rs := [1]) (by kernel_rfl) (by simp) ?_
    refine AllReadyH.cons rfl (fun KK hK => ?_) AllReadyH.nil
    go_simp
    refine (C1.out _ B1.out).mono ?_
    rintro e u_1 ⟨rfl, hb⟩
    have B2 := Lib.hid (B1.out.trans (hb.mono B1.out.size))
    have X2 := Lib.hid (X1.out.next hb)
    have Y2 := Lib.hid (Y1.out.next hb)
    have R2 := Lib.hid (R1.out.next hb)
    clear B1 X1 Y1 R1
    clear hb
    go_wp2_with fail
    clear hHeld
    refine hK.out _ _ ?_ (fun hHeld => ?_)
    · exact ⟨X2.out.now.two, Y2.out.now.two⟩
    clear hK KK
    refine wpAnyH_take (i := 2) (v := ?_) rfl (by kernel_rfl) (by kernel_rfl) (by kernel_rfl) (fun _ _ _ h => h) (Or.inl ⟨by kernel_rfl, ?_⟩) (by assumption) ?_
    rotate_left
    · intro w hSw; (try dsimp only at hSw); go_simp; try with_reducible rfl
    refine wpAnyH_take (i := 3) (v := ?_) rfl (by kernel_rfl) (by kernel_rfl) (by kernel_rfl) (fun _ _ _ h => h) (Or.inl ⟨by kernel_rfl, ?_⟩) (by assumption) ?_
    rotate_left
    · intro w hSw; (try dsimp only at hSw); go_simp; try with_reducible rfl
    refine wpAnyH_take (i := 4) (v := ?_) rfl (by kernel_rfl) (by kernel_rfl) (by kernel_rfl) (fun _ _ _ h => h) (Or.inl ⟨by kernel_rfl, ?_⟩) (by assumption) ?_
    rotate_left
    · intro w hSw; (try dsimp only at hSw); go_simp; try with_reducible rfl
    refine wpAnyH_ready (rs := [5]) (by kernel_rfl) (by simp) ?_
    refine AllReadyH.cons rfl (fun KK hK => ?_) AllReadyH.nil
    go_simp
    refine (C2.out _ B2.out).mono ?_
    rintro e u_5 ⟨rfl, hb⟩
    have B3 := Lib.hid (B2.out.trans (hb.mono B2.out.size))
    have X3 := Lib.hid (X2.out.next hb)
    have Y3 := Lib.hid (Y2.out.next hb)
    have R3 := Lib.hid (R2.out.next hb)
    clear B2 X2 Y2 R2
    clear hb
    go_wp2_with fail
    clear hHeld
    refine hK.out _ _ ?_ (fun hHeld => ?_)
    · exact ⟨X3.out.now.two, Y3.out.now.two⟩
    clear hK KK
    refine wpAnyH_take (i := 6) (v := ?_) rfl (by kernel_rfl) (by kernel_rfl) (by kernel_rfl) (fun _ _ _ h => h) (Or.inl ⟨by kernel_rfl, ?_⟩) (by assumption) ?_
    rotate_left
    · intro w hSw; (try dsimp only at hSw); go_simp; try with_reducible rfl
    refine wpAnyH_take (i := 7) (v := ?_) rfl (by kernel_rfl) (by kernel_rfl) (by kernel_rfl) (fun _ _ _ h => h) (Or.inl ⟨by kernel_rfl, ?_⟩) (by assumption) ?_
    rotate_left
    · intro w hSw; (try dsimp only at hSw); go_simp; try with_reducible rfl
    refine wpAnyH_take (i := 8) (v := ?_) rfl (by kernel_rfl) (by kernel_rfl) (by kernel_rfl) (fun _ _ _ h => h) (Or.inl ⟨by kernel_rfl, ?_⟩) (by assumption) ?_
    rotate_left
    · intro w hSw; (try dsimp only at hSw); go_simp; try with_reducible rfl
    refine wpAnyH_take (i := 9) (v := ?_) rfl (by kernel_rfl) (by kernel_rfl) (by kernel_rfl) (fun _ _ _ h => h) (Or.inl ⟨by kernel_rfl, ?_⟩) (by assumption) ?_
    rotate_left
    · intro w hSw; (try dsimp only at hSw); go_simp; try with_reducible rfl
    refine wpAnyH_take (i := 10) (v := ?_) rfl (by kernel_rfl) (by kernel_rfl) (by kernel_rfl) (fun _ _ _ h => h) (Or.inl ⟨by kernel_rfl, ?_⟩) (by assumption) ?_
    rotate_left
    · intro w hSw; (try dsimp only at hSw); go_simp; try with_reducible rfl
    refine wpAnyH_take (i := 13) (v := ?_) rfl (by kernel_rfl) (by kernel_rfl) (by kernel_rfl) (fun _ _ _ h => h) (Or.inl ⟨by kernel_rfl, ?_⟩) (by assumption) ?_
    rotate_left
    · intro w hSw; (try dsimp only at hSw); go_simp; try with_reducible rfl
    refine wpAnyH_take (i := 14) (v := ?_) rfl (by kernel_rfl) (by kernel_rfl) (by kernel_rfl) (fun _ _ _ h => h) (Or.inl ⟨by kernel_rfl, ?_⟩) (by assumption) ?_
    rotate_left
    · intro w hSw; (try dsimp only at hSw); go_simp; try with_reducible rfl
    refine wpAnyH_ready (rs := [11]) (by kernel_rfl) (by simp) ?_
    refine AllReadyH.cons rfl (fun KK hK => ?_) AllReadyH.nil
    go_simp
    have B4 := Lib.hid (B3.out.alloc B3.out.size (.cells #[.slice a1 n1 c1] 27))
    have X4 := Lib.hid (X3.out.alloc (.cells #[.slice a1 n1 c1] 27))
    have Y4 := Lib.hid (Y3.out.alloc (.cells #[.slice a1 n1 c1] 27))
    have R4 := Lib.hid (R3.out.alloc (.cells #[.slice a1 n1 c1] 27))
    clear B3 X3 Y3 R3
    have tz := cells_new u_5 #[.slice a1 n1 c1] 27
    try simp only [World.size_alloc] at tz
    have N4 := Lib.hid (tz)
    clear tz
    clear hHeld
    refine hK.out _ _ ?_ (fun hHeld => ?_)
    · exact ⟨X4.out.now.two, Y4.out.now.two⟩
    clear hK KK
    refine wpAnyH_ready (rs := [12]) (by kernel_rfl) (by simp) ?_
    refine AllReadyH.cons rfl (fun KK hK => ?_) AllReadyH.nil
    go_simp
    refine (implSetAt _ a1 n1 c1 d1 _ N4.out.le (N4.out.now.at 0) (HP.out.1.next B4.out) (by omega)).mono ?_
    rintro e u_12 ⟨bba, mma, uua, rfl, _, ho, hm, hb⟩
    clear N4
    have B5 := Lib.hid (B4.out.trans (hb.mono B4.out.size))
    have X5 := Lib.hid (X4.out.next hb)
    have Y5 := Lib.hid (Y4.out.next hb)
    have R5 := Lib.hid (R4.out.next hb)
    clear B4 X4 Y4 R4
    have Oa5 := Lib.hid (ho)
    have Ma := Lib.hid hm
    clear hb ho hm
    go_wp2_with fail
    clear hHeld
    refine hK.out _ _ ?_ (fun hHeld => ?_)
    · exact ⟨X5.out.now.two, Y5.out.now.two⟩
    clear hK KK
    refine wpAnyH_ready (rs := [15]) (by kernel_rfl) (by simp) ?_
    refine AllReadyH.cons rfl (fun KK hK => ?_) AllReadyH.nil
    go_simp
    have AA := implHasAny bba mma uua b1 m1 k1 e1 _ Oa5.out.now (HQ.out.1.next B5.out) (by omega)
    rw [anyT_same Ma.out, show anyT d1 e1 = false from by first | assumption | exact GG.out] at AA
    refine AA.mono ?_
    rintro e u_15 ⟨rfl, hb⟩
    clear Oa5
    have B6 := Lib.hid (B5.out.trans (hb.mono B5.out.size))
    have X6 := Lib.hid (X5.out.next hb)
    have Y6 := Lib.hid (Y5.out.next hb)
    have R6 := Lib.hid (R5.out.next hb)
    clear B5 X5 Y5 R5
    clear hb AA
    go_wp2_with fail
    clear hHeld
    refine hK.out _ _ ?_ (fun hHeld => ?_)
    · exact ⟨X6.out.now.two, Y6.out.now.two⟩
    clear hK KK
    refine wpAnyH_take (i := 16) (v := ?_) rfl (by kernel_rfl) (by kernel_rfl) (by kernel_rfl) (fun _ _ _ h => h) (Or.inl ⟨by kernel_rfl, ?_⟩) (by assumption) ?_
    rotate_left
    · intro w hSw; (try dsimp only at hSw); go_simp; try with_reducible rfl
    refine wpAnyH_take (i := 17) (v := ?_) rfl (by kernel_rfl) (by kernel_rfl) (by kernel_rfl) (fun _ _ _ h => h) (Or.inl ⟨by kernel_rfl, ?_⟩) (by assumption) ?_
    rotate_left
    · intro w hSw; (try dsimp only at hSw); go_simp; try with_reducible rfl
    refine wpAnyH_take (i := 18) (v := ?_) rfl (by kernel_rfl) (by kernel_rfl) (by kernel_rfl) (fun _ _ _ h => h) (Or.inl ⟨by kernel_rfl, ?_⟩) (by assumption) ?_
    rotate_left
    · intro w hSw; (try dsimp only at hSw); go_simp; try with_reducible rfl
    refine wpAnyH_take (i := 19) (v := ?_) rfl (by kernel_rfl) (by kernel_rfl) (by kernel_rfl) (fun _ _ _ h => h) (Or.inl ⟨by kernel_rfl, ?_⟩) (by assumption) ?_
    rotate_left
    · intro w hSw; (try dsimp only at hSw); go_simp; try with_reducible rfl
    refine wpAnyH_take (i := 22) (v := ?_) rfl (by kernel_rfl) (by kernel_rfl) (by kernel_rfl) (fun _ _ _ h => h) (Or.inl ⟨by kernel_rfl, ?_⟩) (by assumption) ?_
    rotate_left
    · intro w hSw; (try dsimp only at hSw); go_simp; try with_reducible rfl
    refine wpAnyH_take (i := 23) (v := ?_) rfl (by kernel_rfl) (by kernel_rfl) (by kernel_rfl) (fun _ _ _ h => h) (Or.inl ⟨by kernel_rfl, ?_⟩) (by assumption) ?_
    rotate_left
    · intro w hSw; (try dsimp only at hSw); go_simp; try with_reducible rfl
    refine wpAnyH_ready (rs := [20]) (by kernel_rfl) (by simp) ?_
    refine AllReadyH.cons rfl (fun KK hK => ?_) AllReadyH.nil
    go_simp
    have B7 := Lib.hid (B6.out.alloc B6.out.size (.cells #[.slice a2 n2 c2] 27))
    have X7 := Lib.hid (X6.out.alloc (.cells #[.slice a2 n2 c2] 27))
    have Y7 := Lib.hid (Y6.out.alloc (.cells #[.slice a2 n2 c2] 27))
    have R7 := Lib.hid (R6.out.alloc (.cells #[.slice a2 n2 c2] 27))
    clear B6 X6 Y6 R6
    have tz := cells_new u_15 #[.slice a2 n2 c2] 27
    try simp only [World.size_alloc] at tz
    have N7 := Lib.hid (tz)
    clear tz
    clear hHeld
    refine hK.out _ _ ?_ (fun hHeld => ?_)
    · exact ⟨X7.out.now.two, Y7.out.now.two⟩
    clear hK KK
    refine wpAnyH_ready (rs := [21]) (by kernel_rfl) (by simp) ?_
    refine AllReadyH.cons rfl (fun KK hK => ?_) AllReadyH.nil
    go_simp
    refine (implSetAt _ a2 n2 c2 d2 _ N7.out.le (N7.out.now.at 0) (HP.out.2.next B7.out) (by omega)).mono ?_
    rintro e u_21 ⟨bbb, mmb, uub, rfl, _, ho, hm, hb⟩
    clear N7
    have B8 := Lib.hid (B7.out.trans (hb.mono B7.out.size))
    have X8 := Lib.hid (X7.out.next hb)
    have Y8 := Lib.hid (Y7.out.next hb)
    have R8 := Lib.hid (R7.out.next hb)
    clear B7 X7 Y7 R7
    have Ob8 := Lib.hid (ho)
    have Mb := Lib.hid hm
    clear hb ho hm
    go_wp2_with fail
    clear hHeld
    refine hK.out _ _ ?_ (fun hHeld => ?_)
    · exact ⟨X8.out.now.two, Y8.out.now.two⟩
    clear hK KK
    refine wpAnyH_ready (rs := [24]) (by kernel_rfl) (by simp) ?_
    refine AllReadyH.cons rfl (fun KK hK => ?_) AllReadyH.nil
    go_simp
    have AA := implHasAny bbb mmb uub b2 m2 k2 e2 _ Ob8.out.now (HQ.out.2.next B8.out) (by omega)
    rw [anyT_same Mb.out, show anyT d2 e2 = true from by first | assumption | exact GG.out] at AA
    refine AA.mono ?_
    rintro e u_24 ⟨rfl, hb⟩
    clear Ob8
    have B9 := Lib.hid (B8.out.trans (hb.mono B8.out.size))
    have X9 := Lib.hid (X8.out.next hb)
    have Y9 := Lib.hid (Y8.out.next hb)
    have R9 := Lib.hid (R8.out.next hb)
    clear B8 X8 Y8 R8
    clear hb AA
    go_wp2_with fail
    clear hHeld
    refine hK.out _ _ ?_ (fun hHeld => ?_)
    · exact ⟨X9.out.now.two, Y9.out.now.two⟩
    clear hK KK
    refine wpAnyH_take (i := 25) (v := ?_) rfl (by kernel_rfl) (by kernel_rfl) (by kernel_rfl) (fun _ _ _ h => h) (Or.inl ⟨by kernel_rfl, ?_⟩) (by assumption) ?_
    rotate_left
    · intro w hSw; (try dsimp only at hSw); go_simp; try with_reducible rfl
    refine wpAnyH_done (by kernel_rfl) ?_ _
    try simp only [Act.put, List.setIfInBounds_toArray, List.set_cons_zero, List.set_cons_succ, List.getElem_toArray, List.getElem_cons_zero, List.getElem_cons_succ]
    obtain ⟨y0, y1⟩ := R9.out.now.two
    obtain ⟨f0, f1⟩ := R9.out.now.frees
    go_wp2_with fail
    refine bodyPost_ret (v := .tuple #[.agg #[.slice none 0 0, .slice none 0 0], .bool false]) (by simp [results, Try.results29, go_sem, *]) rfl ⟨_, _, by rw [HR.out]; rfl, ?_, below_two B9.out _ (by omega) _ _⟩
    rw [HR.out]
    exact own2_nil _ (by rw [set2_size]; exact B9.out.size)
  exact absurd ⟨G1.out, G2.out, GG.out, g4⟩ HCH.out
set_option maxRecDepth 100000 in
set_option maxHeartbeats 6400000 in
theorem implChainedYes (a1 a2 b1 b2 : Option Addr) (n1 n2 c1 c2 m1 m2 k1 k2 : Nat) (d1 d2 e1 e2 : List Tri3) (w : World) (h : Is2 w a1 a2 n1 n2 c1 c2 d1 d2) (k : Is2 w b1 b2 m1 m2 k1 k2 e1 e2) (s1 : Sm d1) (s2 : Sm d2) (s3 : Sm e1) (s4 : Sm e2) (hch : chainable d1 d2 e1 e2) :
    Calls Try.prog 29 #[.agg #[.slice a1 n1 c1, .slice a2 n2 c2], .agg #[.slice b1 m1 k1, .slice b2 m2 k2]] w (Res2 (chainedO d1 d2 e1 e2) w) := by
  obtain ⟨W1, hW1⟩ : ∃ W, w.alloc (.cells #[.slice a1 n1 c1, .slice a2 n2 c2] 29) = W := ⟨_, rfl⟩
  obtain ⟨W2, hW2⟩ : ∃ W, W1.alloc (.cells #[.slice b1 m1 k1, .slice b2 m2 k2] 29) = W := ⟨_, rfl⟩
  obtain ⟨W3, hW3⟩ : ∃ W, W2.alloc (.cells #[.slice none 0 0, .slice none 0 0] 29) = W := ⟨_, rfl⟩
  have z1 : W1.heap.size = w.heap.size + 1 := by rw [← hW1]; simp
  have z2 : W2.heap.size = w.heap.size + 2 := by rw [← hW2]; simp [z1]
  have z3 : W3.heap.size = w.heap.size + 3 := by rw [← hW3]; simp [z2]
  have B0 : Hid (Below w.heap.size w W3) := Lib.hid (by rw [← hW3, ← hW2, ← hW1]; exact (((Below.refl w.heap.size w).alloc (Nat.le_refl _) _).alloc (by simp) _).alloc (by simp; omega) _)
  have X0 : Hid (Holds w.heap.size (w.heap.size + 1) W3 (Cells w.heap.size #[.slice a1 n1 c1, .slice a2 n2 c2] 29)) := Lib.hid (by rw [← hW3, ← hW2, ← hW1]; exact ((cells_new w _ _).alloc _).alloc _)
  have Y0 : Hid (Holds (w.heap.size + 1) (w.heap.size + 2) W3 (Cells (w.heap.size + 1) #[.slice b1 m1 k1, .slice b2 m2 k2] 29)) := Lib.hid (by
    have := (cells_new W1 #[.slice b1 m1 k1, .slice b2 m2 k2] 29).alloc (.cells #[.slice none 0 0, .slice none 0 0] 29)
    rw [hW2, hW3, z1] at this; exact this)
  have R0 : Hid (Holds (w.heap.size + 2) (w.heap.size + 3) W3 (Cells (w.heap.size + 2) #[.slice none 0 0, .slice none 0 0] 29)) := Lib.hid (by
    have := cells_new W2 #[.slice none 0 0, .slice none 0 0] 29
    rw [hW3, z2] at this; exact this)
  have HW := Lib.hid (And.intro hW1 (And.intro hW2 hW3))
  have HP := Lib.hid h
  have HQ := Lib.hid k
  have S := Lib.hid (And.intro (And.intro s1 s2) (And.intro s3 s4))
  have HL := Lib.hid (And.intro (And.intro h.1.len h.2.len) (And.intro k.1.len k.2.len))
  have HCH := Lib.hid hch
  clear hch
  have C1 : Hid (∀ W, Below w.heap.size w W → Calls Try.prog 13 #[.agg #[.slice a1 n1 c1, .slice a2 n2 c2]] W fun e w' => e = .returned (.bool (patchOk d1 d2)) ∧ Below W.heap.size W w') := Lib.hid (fun W hb => implPatchOk a1 a2 n1 n2 c1 c2 d1 d2 W (h.next hb) s1 s2)
  have C2 : Hid (∀ W, Below w.heap.size w W → Calls Try.prog 13 #[.agg #[.slice b1 m1 k1, .slice b2 m2 k2]] W fun e w' => e = .returned (.bool (patchOk e1 e2)) ∧ Below W.heap.size W w') := Lib.hid (fun W hb => implPatchOk b1 b2 m1 m2 k1 k2 e1 e2 W (k.next hb) s3 s4)
  clear h k s1 s2 s3 s4 z1 z2 z3 hW1 hW2 hW3
  have g2 := HCH.out.2.1
  have g1 := HCH.out.1
  have GG := Lib.hid HCH.out.2.2.1
  have g4 := HCH.out.2.2.2
  have G1 := Lib.hid g1
  rw [g1] at C1
  rw [g2] at C2
  have G2 := Lib.hid g2
  obtain ⟨p1, p2, _⟩ := patchOk_iff.1 G1.out
  obtain ⟨q1, q2, _⟩ := patchOk_iff.1 g2
  have la1 : n1 ≤ 80 := by have := graphOk_len p1; have := HL.out.1.1; omega
  have la2 : n2 ≤ 80 := by have := graphOk_len p2; have := HL.out.1.2; omega
  have la3 : m1 ≤ 80 := by have := graphOk_len q1; have := HL.out.2.1; omega
  have la4 : m2 ≤ 80 := by have := graphOk_len q2; have := HL.out.2.2; omega
  obtain ⟨Z1, hZ1⟩ : ∃ R, unionO (outT d1 e2) (outT e1 d2) = R := ⟨_, rfl⟩
  obtain ⟨Z2, hZ2⟩ : ∃ R, unionO (outT d2 e1) (outT e2 d1) = R := ⟨_, rfl⟩
  have HZ1 := Lib.hid hZ1
  have HZ2 := Lib.hid hZ2
  have HV : Hid (anyT d1 e1 = false → anyT d2 e2 = false → chainedO d1 d2 e1 e2 = Z1.bind fun x => Z2.map fun y => (x, y)) := Lib.hid (fun g3 g4 => by
    rw [← hZ1, ← hZ2, unionO_outs p1 q1, unionO_outs p2 q2]
    unfold chainedO chDrop chAdd
    by_cases h1 : (unionT (outT d1 e2) (outT e1 d2)).length ≤ 80
    · by_cases h2 : (unionT (outT d2 e1) (outT e2 d1)).length ≤ 80
      · rw [if_pos ⟨⟨G1.out, g2, g3, g4⟩, h1, h2⟩, if_pos h1, if_pos h2]; rfl
      · rw [if_neg (fun c => h2 c.2.2), if_pos h1, if_neg h2]; rfl
    · rw [if_neg (fun c => h1 c.2.1), if_neg h1]; rfl)
  clear g2 p1 p2 q1 q2 hZ1 hZ2
  have HR := Lib.hid (HV.out GG.out g4)
  clear g1
  go_enter Try.func29, Try.ntmps29
  go_wp2_with fail
  rw [HW.out.1, HW.out.2.1, HW.out.2.2]
  have B1 := Lib.hid B0.out.drew
  have X1 := Lib.hid X0.out.drew
  have Y1 := Lib.hid Y0.out.drew
  have R1 := Lib.hid R0.out.drew
  clear B0 X0 Y0 R0
  refine wp_region_held_drew (S := (fun w' => (w'.cell? ⟨w.heap.size, 0, none⟩ = some (.slice a1 n1 c1) ∧ w'.cell? ⟨w.heap.size, 1, none⟩ = some (.slice a2 n2 c2)) ∧ (w'.cell? ⟨w.heap.size + 1, 0, none⟩ = some (.slice b1 m1 k1) ∧ w'.cell? ⟨w.heap.size + 1, 1, none⟩ = some (.slice b2 m2 k2)))) (by kernel_rfl) ?_ (fun hHeld => ?_)
  · exact ⟨X1.out.now.two, Y1.out.now.two⟩
  refine wpAnyH_take (i := 0) (v := ?_) rfl (by kernel_rfl) (by kernel_rfl) (by kernel_rfl) (fun _ _ _ h => h) (Or.inl ⟨by kernel_rfl, ?_⟩) (by assumption) ?_
  rotate_left
  · intro w hSw; (try dsimp only at hSw); go_simp; try with_reducible rfl
  refine wpAnyH_ready (rs := [1]) (by kernel_rfl) (by simp) ?_
  refine AllReadyH.cons rfl (fun KK hK => ?_) AllReadyH.nil
  go_simp
  refine (C1.out _ B1.out).mono ?_
  rintro e u_1 ⟨rfl, hb⟩
  have B2 := Lib.hid (B1.out.trans (hb.mono B1.out.size))
  have X2 := Lib.hid (X1.out.next hb)
  have Y2 := Lib.hid (Y1.out.next hb)
  have R2 := Lib.hid (R1.out.next hb)
  clear B1 X1 Y1 R1
  clear hb
  go_wp2_with fail
  clear hHeld
  refine hK.out _ _ ?_ (fun hHeld => ?_)
  · exact ⟨X2.out.now.two, Y2.out.now.two⟩
  clear hK KK
  refine wpAnyH_take (i := 2) (v := ?_) rfl (by kernel_rfl) (by kernel_rfl) (by kernel_rfl) (fun _ _ _ h => h) (Or.inl ⟨by kernel_rfl, ?_⟩) (by assumption) ?_
  rotate_left
  · intro w hSw; (try dsimp only at hSw); go_simp; try with_reducible rfl
  refine wpAnyH_take (i := 3) (v := ?_) rfl (by kernel_rfl) (by kernel_rfl) (by kernel_rfl) (fun _ _ _ h => h) (Or.inl ⟨by kernel_rfl, ?_⟩) (by assumption) ?_
  rotate_left
  · intro w hSw; (try dsimp only at hSw); go_simp; try with_reducible rfl
  refine wpAnyH_take (i := 4) (v := ?_) rfl (by kernel_rfl) (by kernel_rfl) (by kernel_rfl) (fun _ _ _ h => h) (Or.inl ⟨by kernel_rfl, ?_⟩) (by assumption) ?_
  rotate_left
  · intro w hSw; (try dsimp only at hSw); go_simp; try with_reducible rfl
  refine wpAnyH_ready (rs := [5]) (by kernel_rfl) (by simp) ?_
  refine AllReadyH.cons rfl (fun KK hK => ?_) AllReadyH.nil
  go_simp
  refine (C2.out _ B2.out).mono ?_
  rintro e u_5 ⟨rfl, hb⟩
  have B3 := Lib.hid (B2.out.trans (hb.mono B2.out.size))
  have X3 := Lib.hid (X2.out.next hb)
  have Y3 := Lib.hid (Y2.out.next hb)
  have R3 := Lib.hid (R2.out.next hb)
  clear B2 X2 Y2 R2
  clear hb
  go_wp2_with fail
  clear hHeld
  refine hK.out _ _ ?_ (fun hHeld => ?_)
  · exact ⟨X3.out.now.two, Y3.out.now.two⟩
  clear hK KK
  refine wpAnyH_take (i := 6) (v := ?_) rfl (by kernel_rfl) (by kernel_rfl) (by kernel_rfl) (fun _ _ _ h => h) (Or.inl ⟨by kernel_rfl, ?_⟩) (by assumption) ?_
  rotate_left
  · intro w hSw; (try dsimp only at hSw); go_simp; try with_reducible rfl
  refine wpAnyH_take (i := 7) (v := ?_) rfl (by kernel_rfl) (by kernel_rfl) (by kernel_rfl) (fun _ _ _ h => h) (Or.inl ⟨by kernel_rfl, ?_⟩) (by assumption) ?_
  rotate_left
  · intro w hSw; (try dsimp only at hSw); go_simp; try with_reducible rfl
  refine wpAnyH_take (i := 8) (v := ?_) rfl (by kernel_rfl) (by kernel_rfl) (by kernel_rfl) (fun _ _ _ h => h) (Or.inl ⟨by kernel_rfl, ?_⟩) (by assumption) ?_
  rotate_left
  · intro w hSw; (try dsimp only at hSw); go_simp; try with_reducible rfl
  refine wpAnyH_take (i := 9) (v := ?_) rfl (by kernel_rfl) (by kernel_rfl) (by kernel_rfl) (fun _ _ _ h => h) (Or.inl ⟨by kernel_rfl, ?_⟩) (by assumption) ?_
  rotate_left
  · intro w hSw; (try dsimp only at hSw); go_simp; try with_reducible rfl
  refine wpAnyH_take (i := 10) (v := ?_) rfl (by kernel_rfl) (by kernel_rfl) (by kernel_rfl) (fun _ _ _ h => h) (Or.inl ⟨by kernel_rfl, ?_⟩) (by assumption) ?_
  rotate_left
  · intro w hSw; (try dsimp only at hSw); go_simp; try with_reducible rfl
  refine wpAnyH_take (i := 13) (v := ?_) rfl (by kernel_rfl) (by kernel_rfl) (by kernel_rfl) (fun _ _ _ h => h) (Or.inl ⟨by kernel_rfl, ?_⟩) (by assumption) ?_
  rotate_left
  · intro w hSw; (try dsimp only at hSw); go_simp; try with_reducible rfl
  refine wpAnyH_take (i := 14) (v := ?_) rfl (by kernel_rfl) (by kernel_rfl) (by kernel_rfl) (fun _ _ _ h => h) (Or.inl ⟨by kernel_rfl, ?_⟩) (by assumption) ?_
  rotate_left
  · intro w hSw; (try dsimp only at hSw); go_simp; try with_reducible rfl
  refine wpAnyH_ready (rs := [11]) (by kernel_rfl) (by simp) ?_
  refine AllReadyH.cons rfl (fun KK hK => ?_) AllReadyH.nil
  go_simp
  have B4 := Lib.hid (B3.out.alloc B3.out.size (.cells #[.slice a1 n1 c1] 27))
  have X4 := Lib.hid (X3.out.alloc (.cells #[.slice a1 n1 c1] 27))
  have Y4 := Lib.hid (Y3.out.alloc (.cells #[.slice a1 n1 c1] 27))
  have R4 := Lib.hid (R3.out.alloc (.cells #[.slice a1 n1 c1] 27))
  clear B3 X3 Y3 R3
  have tz := cells_new u_5 #[.slice a1 n1 c1] 27
  try simp only [World.size_alloc] at tz
  have N4 := Lib.hid (tz)
  clear tz
  clear hHeld
  refine hK.out _ _ ?_ (fun hHeld => ?_)
  · exact ⟨X4.out.now.two, Y4.out.now.two⟩
  clear hK KK
  refine wpAnyH_ready (rs := [12]) (by kernel_rfl) (by simp) ?_
  refine AllReadyH.cons rfl (fun KK hK => ?_) AllReadyH.nil
  go_simp
  refine (implSetAt _ a1 n1 c1 d1 _ N4.out.le (N4.out.now.at 0) (HP.out.1.next B4.out) (by omega)).mono ?_
  rintro e u_12 ⟨bba, mma, uua, rfl, _, ho, hm, hb⟩
  clear N4
  have B5 := Lib.hid (B4.out.trans (hb.mono B4.out.size))
  have X5 := Lib.hid (X4.out.next hb)
  have Y5 := Lib.hid (Y4.out.next hb)
  have R5 := Lib.hid (R4.out.next hb)
  clear B4 X4 Y4 R4
  have Oa5 := Lib.hid (ho)
  have Ma := Lib.hid hm
  clear hb ho hm
  go_wp2_with fail
  clear hHeld
  refine hK.out _ _ ?_ (fun hHeld => ?_)
  · exact ⟨X5.out.now.two, Y5.out.now.two⟩
  clear hK KK
  refine wpAnyH_ready (rs := [15]) (by kernel_rfl) (by simp) ?_
  refine AllReadyH.cons rfl (fun KK hK => ?_) AllReadyH.nil
  go_simp
  have AA := implHasAny bba mma uua b1 m1 k1 e1 _ Oa5.out.now (HQ.out.1.next B5.out) (by omega)
  rw [anyT_same Ma.out, show anyT d1 e1 = false from by first | assumption | exact GG.out] at AA
  refine AA.mono ?_
  rintro e u_15 ⟨rfl, hb⟩
  clear Oa5
  have B6 := Lib.hid (B5.out.trans (hb.mono B5.out.size))
  have X6 := Lib.hid (X5.out.next hb)
  have Y6 := Lib.hid (Y5.out.next hb)
  have R6 := Lib.hid (R5.out.next hb)
  clear B5 X5 Y5 R5
  clear hb AA
  go_wp2_with fail
  clear hHeld
  refine hK.out _ _ ?_ (fun hHeld => ?_)
  · exact ⟨X6.out.now.two, Y6.out.now.two⟩
  clear hK KK
  refine wpAnyH_take (i := 16) (v := ?_) rfl (by kernel_rfl) (by kernel_rfl) (by kernel_rfl) (fun _ _ _ h => h) (Or.inl ⟨by kernel_rfl, ?_⟩) (by assumption) ?_
  rotate_left
  · intro w hSw; (try dsimp only at hSw); go_simp; try with_reducible rfl
  refine wpAnyH_take (i := 17) (v := ?_) rfl (by kernel_rfl) (by kernel_rfl) (by kernel_rfl) (fun _ _ _ h => h) (Or.inl ⟨by kernel_rfl, ?_⟩) (by assumption) ?_
  rotate_left
  · intro w hSw; (try dsimp only at hSw); go_simp; try with_reducible rfl
  refine wpAnyH_take (i := 18) (v := ?_) rfl (by kernel_rfl) (by kernel_rfl) (by kernel_rfl) (fun _ _ _ h => h) (Or.inl ⟨by kernel_rfl, ?_⟩) (by assumption) ?_
  rotate_left
  · intro w hSw; (try dsimp only at hSw); go_simp; try with_reducible rfl
  refine wpAnyH_take (i := 19) (v := ?_) rfl (by kernel_rfl) (by kernel_rfl) (by kernel_rfl) (fun _ _ _ h => h) (Or.inl ⟨by kernel_rfl, ?_⟩) (by assumption) ?_
  rotate_left
  · intro w hSw; (try dsimp only at hSw); go_simp; try with_reducible rfl
  refine wpAnyH_take (i := 22) (v := ?_) rfl (by kernel_rfl) (by kernel_rfl) (by kernel_rfl) (fun _ _ _ h => h) (Or.inl ⟨by kernel_rfl, ?_⟩) (by assumption) ?_
  rotate_left
  · intro w hSw; (try dsimp only at hSw); go_simp; try with_reducible rfl
  refine wpAnyH_take (i := 23) (v := ?_) rfl (by kernel_rfl) (by kernel_rfl) (by kernel_rfl) (fun _ _ _ h => h) (Or.inl ⟨by kernel_rfl, ?_⟩) (by assumption) ?_
  rotate_left
  · intro w hSw; (try dsimp only at hSw); go_simp; try with_reducible rfl
  refine wpAnyH_ready (rs := [20]) (by kernel_rfl) (by simp) ?_
  refine AllReadyH.cons rfl (fun KK hK => ?_) AllReadyH.nil
  go_simp
  have B7 := Lib.hid (B6.out.alloc B6.out.size (.cells #[.slice a2 n2 c2] 27))
  have X7 := Lib.hid (X6.out.alloc (.cells #[.slice a2 n2 c2] 27))
  have Y7 := Lib.hid (Y6.out.alloc (.cells #[.slice a2 n2 c2] 27))
  have R7 := Lib.hid (R6.out.alloc (.cells #[.slice a2 n2 c2] 27))
  clear B6 X6 Y6 R6
  have tz := cells_new u_15 #[.slice a2 n2 c2] 27
  try simp only [World.size_alloc] at tz
  have N7 := Lib.hid (tz)
  clear tz
  clear hHeld
  refine hK.out _ _ ?_ (fun hHeld => ?_)
  · exact ⟨X7.out.now.two, Y7.out.now.two⟩
  clear hK KK
  refine wpAnyH_ready (rs := [21]) (by kernel_rfl) (by simp) ?_
  refine AllReadyH.cons rfl (fun KK hK => ?_) AllReadyH.nil
  go_simp
  refine (implSetAt _ a2 n2 c2 d2 _ N7.out.le (N7.out.now.at 0) (HP.out.2.next B7.out) (by omega)).mono ?_
  rintro e u_21 ⟨bbb, mmb, uub, rfl, _, ho, hm, hb⟩
  clear N7
  have B8 := Lib.hid (B7.out.trans (hb.mono B7.out.size))
  have X8 := Lib.hid (X7.out.next hb)
  have Y8 := Lib.hid (Y7.out.next hb)
  have R8 := Lib.hid (R7.out.next hb)
  clear B7 X7 Y7 R7
  have Ob8 := Lib.hid (ho)
  have Mb := Lib.hid hm
  clear hb ho hm
  go_wp2_with fail
  clear hHeld
  refine hK.out _ _ ?_ (fun hHeld => ?_)
  · exact ⟨X8.out.now.two, Y8.out.now.two⟩
  clear hK KK
  refine wpAnyH_ready (rs := [24]) (by kernel_rfl) (by simp) ?_
  refine AllReadyH.cons rfl (fun KK hK => ?_) AllReadyH.nil
  go_simp
  have AA := implHasAny bbb mmb uub b2 m2 k2 e2 _ Ob8.out.now (HQ.out.2.next B8.out) (by omega)
  rw [anyT_same Mb.out, show anyT d2 e2 = false from by first | assumption | exact GG.out] at AA
  refine AA.mono ?_
  rintro e u_24 ⟨rfl, hb⟩
  clear Ob8
  have B9 := Lib.hid (B8.out.trans (hb.mono B8.out.size))
  have X9 := Lib.hid (X8.out.next hb)
  have Y9 := Lib.hid (Y8.out.next hb)
  have R9 := Lib.hid (R8.out.next hb)
  clear B8 X8 Y8 R8
  clear hb AA
  go_wp2_with fail
  clear hHeld
  refine hK.out _ _ ?_ (fun hHeld => ?_)
  · exact ⟨X9.out.now.two, Y9.out.now.two⟩
  clear hK KK
  refine wpAnyH_take (i := 25) (v := ?_) rfl (by kernel_rfl) (by kernel_rfl) (by kernel_rfl) (fun _ _ _ h => h) (Or.inl ⟨by kernel_rfl, ?_⟩) (by assumption) ?_
  rotate_left
  · intro w hSw; (try dsimp only at hSw); go_simp; try with_reducible rfl
  refine wpAnyH_done (by kernel_rfl) ?_ _
  try simp only [Act.put, List.setIfInBounds_toArray, List.set_cons_zero, List.set_cons_succ, List.getElem_toArray, List.getElem_cons_zero, List.getElem_cons_succ]
  go_wp2_with fail
  go_cut [6, 7] from 10 (fun s6 s7 wx => ∃ px qx, s6 = .slice px (Z1.getD []).length qx ∧ s7 = .bool Z1.isSome ∧ Hid (Below w.heap.size w wx) ∧ Hid (Holds w.heap.size (w.heap.size + 1) wx (Cells w.heap.size #[.slice a1 n1 c1, .slice a2 n2 c2] 29)) ∧ Hid (Holds (w.heap.size + 1) (w.heap.size + 2) wx (Cells (w.heap.size + 1) #[.slice b1 m1 k1, .slice b2 m2 k2] 29)) ∧ Hid (Holds (w.heap.size + 2) (w.heap.size + 3) wx (Cells (w.heap.size + 2) #[.slice none 0 0, .slice none 0 0] 29)) ∧ ∃ B C, Hid (Holds B C wx (OwnC B C (.slice px (Z1.getD []).length qx) (Z1.getD []))) ∧ Hid (w.heap.size + 3 ≤ B ∧ B ≤ C))
  case first =>
    have B10 := Lib.hid B9.out.drew
    have X10 := Lib.hid X9.out.drew
    have Y10 := Lib.hid Y9.out.drew
    have R10 := Lib.hid R9.out.drew
    clear B9 X9 Y9 R9
    refine wp_region_held_drew (S := (fun w' => (w'.cell? ⟨w.heap.size, 0, none⟩ = some (.slice a1 n1 c1) ∧ w'.cell? ⟨w.heap.size, 1, none⟩ = some (.slice a2 n2 c2)) ∧ (w'.cell? ⟨w.heap.size + 1, 0, none⟩ = some (.slice b1 m1 k1) ∧ w'.cell? ⟨w.heap.size + 1, 1, none⟩ = some (.slice b2 m2 k2)))) (by kernel_rfl) ?_ (fun hHeld => ?_)
    · exact ⟨X10.out.now.two, Y10.out.now.two⟩
    refine wpAnyH_take (i := 0) (v := ?_) rfl (by kernel_rfl) (by kernel_rfl) (by kernel_rfl) (fun _ _ _ h => h) (Or.inl ⟨by kernel_rfl, ?_⟩) (by assumption) ?_
    rotate_left
    · intro w hSw; (try dsimp only at hSw); go_simp; try with_reducible rfl
    refine wpAnyH_take (i := 1) (v := ?_) rfl (by kernel_rfl) (by kernel_rfl) (by kernel_rfl) (fun _ _ _ h => h) (Or.inl ⟨by kernel_rfl, ?_⟩) (by assumption) ?_
    rotate_left
    · intro w hSw; (try dsimp only at hSw); go_simp; try with_reducible rfl
    refine wpAnyH_take (i := 4) (v := ?_) rfl (by kernel_rfl) (by kernel_rfl) (by kernel_rfl) (fun _ _ _ h => h) (Or.inl ⟨by kernel_rfl, ?_⟩) (by assumption) ?_
    rotate_left
    · intro w hSw; (try dsimp only at hSw); go_simp; try with_reducible rfl
    refine wpAnyH_take (i := 5) (v := ?_) rfl (by kernel_rfl) (by kernel_rfl) (by kernel_rfl) (fun _ _ _ h => h) (Or.inl ⟨by kernel_rfl, ?_⟩) (by assumption) ?_
    rotate_left
    · intro w hSw; (try dsimp only at hSw); go_simp; try with_reducible rfl
    refine wpAnyH_take (i := 7) (v := ?_) rfl (by kernel_rfl) (by kernel_rfl) (by kernel_rfl) (fun _ _ _ h => h) (Or.inl ⟨by kernel_rfl, ?_⟩) (by assumption) ?_
    rotate_left
    · intro w hSw; (try dsimp only at hSw); go_simp; try with_reducible rfl
    refine wpAnyH_take (i := 8) (v := ?_) rfl (by kernel_rfl) (by kernel_rfl) (by kernel_rfl) (fun _ _ _ h => h) (Or.inl ⟨by kernel_rfl, ?_⟩) (by assumption) ?_
    rotate_left
    · intro w hSw; (try dsimp only at hSw); go_simp; try with_reducible rfl
    refine wpAnyH_take (i := 11) (v := ?_) rfl (by kernel_rfl) (by kernel_rfl) (by kernel_rfl) (fun _ _ _ h => h) (Or.inl ⟨by kernel_rfl, ?_⟩) (by assumption) ?_
    rotate_left
    · intro w hSw; (try dsimp only at hSw); go_simp; try with_reducible rfl
    refine wpAnyH_take (i := 12) (v := ?_) rfl (by kernel_rfl) (by kernel_rfl) (by kernel_rfl) (fun _ _ _ h => h) (Or.inl ⟨by kernel_rfl, ?_⟩) (by assumption) ?_
    rotate_left
    · intro w hSw; (try dsimp only at hSw); go_simp; try with_reducible rfl
    refine wpAnyH_ready (rs := [2, 9]) (by kernel_rfl) (by simp) ?_
    refine AllReadyH.cons rfl (fun KK hK => ?g1_2) (AllReadyH.cons rfl (fun KK hK => ?g1_9) AllReadyH.nil)
    case' g1_2 =>
      go_simp
      have B11 := Lib.hid (B10.out.alloc B10.out.size (.cells #[.slice b2 m2 k2] 27))
      have X11 := Lib.hid (X10.out.alloc (.cells #[.slice b2 m2 k2] 27))
      have Y11 := Lib.hid (Y10.out.alloc (.cells #[.slice b2 m2 k2] 27))
      have R11 := Lib.hid (R10.out.alloc (.cells #[.slice b2 m2 k2] 27))
      clear B10 X10 Y10 R10
      have tz := cells_new u_24.drew #[.slice b2 m2 k2] 27
      try simp only [World.size_alloc] at tz
      have N11 := Lib.hid (tz)
      clear tz
      clear hHeld
      refine hK.out _ _ ?_ (fun hHeld => ?_)
      · exact ⟨X11.out.now.two, Y11.out.now.two⟩
      clear hK KK
      refine wpAnyH_ready (rs := [3, 9]) (by kernel_rfl) (by simp) ?_
      refine AllReadyH.cons rfl (fun KK hK => ?g2_3) (AllReadyH.cons rfl (fun KK hK => ?g2_9) AllReadyH.nil)
      case' g2_3 =>
        go_simp
        refine (implSetAt _ b2 m2 k2 e2 _ N11.out.le (N11.out.now.at 0) (HQ.out.2.next B11.out) (by omega)).mono ?_
        rintro e r_3 ⟨bbc, mmc, uuc, rfl, _, ho, hm, hb⟩
        clear N11
        have B12 := Lib.hid (B11.out.trans (hb.mono B11.out.size))
        have X12 := Lib.hid (X11.out.next hb)
        have Y12 := Lib.hid (Y11.out.next hb)
        have R12 := Lib.hid (R11.out.next hb)
        clear B11 X11 Y11 R11
        have Oc12 := Lib.hid (ho)
        have Mc := Lib.hid hm
        clear hb ho hm
        go_wp2_with fail
        clear hHeld
        refine hK.out _ _ ?_ (fun hHeld => ?_)
        · exact ⟨X12.out.now.two, Y12.out.now.two⟩
        clear hK KK
        refine wpAnyH_ready (rs := [6, 9]) (by kernel_rfl) (by simp) ?_
        refine AllReadyH.cons rfl (fun KK hK => ?g3_6) (AllReadyH.cons rfl (fun KK hK => ?g3_9) AllReadyH.nil)
        case' g3_6 =>
          go_simp
          have AA := implOutOf bbc mmc uuc a1 n1 c1 d1 _ Oc12.out.now (HP.out.1.next B12.out) (by omega)
          rw [outT_same Mc.out] at AA
          refine AA.mono ?_
          rintro e r_6 ⟨v, rfl, ho, hb⟩
          obtain ⟨p1, q1, rfl, hh⟩ := ownC_shape ho hb rfl
          clear Oc12
          have B13 := Lib.hid (B12.out.trans (hb.mono B12.out.size))
          have X13 := Lib.hid (X12.out.next hb)
          have Y13 := Lib.hid (Y12.out.next hb)
          have R13 := Lib.hid (R12.out.next hb)
          clear B12 X12 Y12 R12
          have T113 := Lib.hid (hh)
          clear hb AA ho hh
          go_wp2_with fail
          clear hHeld
          refine hK.out _ _ ?_ (fun hHeld => ?_)
          · exact ⟨X13.out.now.two, Y13.out.now.two⟩
          clear hK KK
          refine wpAnyH_ready (rs := [9]) (by kernel_rfl) (by simp) ?_
          refine AllReadyH.cons rfl (fun KK hK => ?_) AllReadyH.nil
          go_simp
          have B14 := Lib.hid (B13.out.alloc B13.out.size (.cells #[.slice a2 n2 c2] 27))
          have X14 := Lib.hid (X13.out.alloc (.cells #[.slice a2 n2 c2] 27))
          have Y14 := Lib.hid (Y13.out.alloc (.cells #[.slice a2 n2 c2] 27))
          have R14 := Lib.hid (R13.out.alloc (.cells #[.slice a2 n2 c2] 27))
          have T114 := Lib.hid (T113.out.alloc (.cells #[.slice a2 n2 c2] 27))
          clear B13 X13 Y13 R13 T113
          have tz := cells_new r_6 #[.slice a2 n2 c2] 27
          try simp only [World.size_alloc] at tz
          have L14 := Lib.hid (tz)
          clear tz
          clear hHeld
          refine hK.out _ _ ?_ (fun hHeld => ?_)
          · exact ⟨X14.out.now.two, Y14.out.now.two⟩
          clear hK KK
          refine wpAnyH_ready (rs := [10]) (by kernel_rfl) (by simp) ?_
          refine AllReadyH.cons rfl (fun KK hK => ?_) AllReadyH.nil
          go_simp
          refine (implSetAt _ a2 n2 c2 d2 _ L14.out.le (L14.out.now.at 0) (HP.out.2.next B14.out) (by omega)).mono ?_
          rintro e r_10 ⟨bbd, mmd, uud, rfl, _, ho, hm, hb⟩
          clear L14
          have B15 := Lib.hid (B14.out.trans (hb.mono B14.out.size))
          have X15 := Lib.hid (X14.out.next hb)
          have Y15 := Lib.hid (Y14.out.next hb)
          have R15 := Lib.hid (R14.out.next hb)
          have T115 := Lib.hid (T114.out.next hb)
          clear B14 X14 Y14 R14 T114
          have Od15 := Lib.hid (ho)
          have Md := Lib.hid hm
          clear hb ho hm
          go_wp2_with fail
          clear hHeld
          refine hK.out _ _ ?_ (fun hHeld => ?_)
          · exact ⟨X15.out.now.two, Y15.out.now.two⟩
          clear hK KK
          refine wpAnyH_ready (rs := [13]) (by kernel_rfl) (by simp) ?_
          refine AllReadyH.cons rfl (fun KK hK => ?_) AllReadyH.nil
          go_simp
          have AA := implOutOf bbd mmd uud b1 m1 k1 e1 _ Od15.out.now (HQ.out.1.next B15.out) (by omega)
          rw [outT_same Md.out] at AA
          refine AA.mono ?_
          rintro e r_13 ⟨v, rfl, ho, hb⟩
          obtain ⟨p2, q2, rfl, hh⟩ := ownC_shape ho hb rfl
          clear Od15
          have B16 := Lib.hid (B15.out.trans (hb.mono B15.out.size))
          have X16 := Lib.hid (X15.out.next hb)
          have Y16 := Lib.hid (Y15.out.next hb)
          have R16 := Lib.hid (R15.out.next hb)
          have T116 := Lib.hid (T115.out.next hb)
          clear B15 X15 Y15 R15 T115
          have T216 := Lib.hid (hh)
          clear hb AA ho hh
          go_wp2_with fail
          clear hHeld
          refine hK.out _ _ ?_ (fun hHeld => ?_)
          · exact ⟨X16.out.now.two, Y16.out.now.two⟩
          clear hK KK
          refine wpAnyH_ready (rs := [14]) (by kernel_rfl) (by simp) ?_
          refine AllReadyH.cons rfl (fun KK hK => ?_) AllReadyH.nil
          go_simp
          have AA := implUnion p1 p2 _ q1 _ q2 (outT d1 e2) (outT e1 d2) _ (T116.out.now.read (sm_most (outT_sm S.out.1.1)) rfl) (T216.out.now.read (sm_most (outT_sm S.out.2.1)) rfl) (outT_sm S.out.1.1) (outT_sm S.out.2.1)
          rw [HZ1.out] at AA
          refine AA.mono ?_
          rintro e r_14 ⟨v, rfl, ho, hb⟩
          obtain ⟨px, qx, rfl, hh⟩ := ownC_shape ho hb rfl
          clear T116
          clear T216
          have LWx := Lib.hid (And.intro R16.out.le hb.size)
          have B17 := Lib.hid (B16.out.trans (hb.mono B16.out.size))
          have X17 := Lib.hid (X16.out.next hb)
          have Y17 := Lib.hid (Y16.out.next hb)
          have R17 := Lib.hid (R16.out.next hb)
          clear B16 X16 Y16 R16
          have Vx17 := Lib.hid (hh)
          clear hb AA ho hh
          go_wp2_with fail
          clear hHeld
          refine hK.out _ _ ?_ (fun hHeld => ?_)
          · exact ⟨X17.out.now.two, Y17.out.now.two⟩
          clear hK KK
          refine wpAnyH_take (i := 15) (v := ?_) rfl (by kernel_rfl) (by kernel_rfl) (by kernel_rfl) (fun _ _ _ h => h) (Or.inl ⟨by kernel_rfl, ?_⟩) (by assumption) ?_
          rotate_left
          · intro w hSw; (try dsimp only at hSw); go_simp; try with_reducible rfl
          refine wpAnyH_take (i := 16) (v := ?_) rfl (by kernel_rfl) (by kernel_rfl) (by kernel_rfl) (fun _ _ _ h => h) (Or.inl ⟨by kernel_rfl, ?_⟩) (by assumption) ?_
          rotate_left
          · intro w hSw; (try dsimp only at hSw); go_simp; try with_reducible rfl
          refine wpAnyH_take (i := 17) (v := ?_) rfl (by kernel_rfl) (by kernel_rfl) (by kernel_rfl) (fun _ _ _ h => h) (Or.inl ⟨by kernel_rfl, ?_⟩) (by assumption) ?_
          rotate_left
          · intro w hSw; (try dsimp only at hSw); go_simp; try with_reducible rfl
          refine wpAnyH_take (i := 18) (v := ?_) rfl (by kernel_rfl) (by kernel_rfl) (by kernel_rfl) (fun _ _ _ h => h) (Or.inl ⟨by kernel_rfl, ?_⟩) (by assumption) ?_
          rotate_left
          · intro w hSw; (try dsimp only at hSw); go_simp; try with_reducible rfl
          refine wpAnyH_take (i := 19) (v := ?_) rfl (by kernel_rfl) (by kernel_rfl) (by kernel_rfl) (fun _ _ _ h => h) (Or.inl ⟨by kernel_rfl, ?_⟩) (by assumption) ?_
          rotate_left
          · intro w hSw; (try dsimp only at hSw); go_simp; try with_reducible rfl
          refine wpAnyH_done (by kernel_rfl) ?_ _
          try simp only [Act.put, List.setIfInBounds_toArray, List.set_cons_zero, List.set_cons_succ, List.getElem_toArray, List.getElem_cons_zero, List.getElem_cons_succ]
        case' g3_9 =>
          go_simp
          have B13 := Lib.hid (B12.out.alloc B12.out.size (.cells #[.slice a2 n2 c2] 27))
          have X13 := Lib.hid (X12.out.alloc (.cells #[.slice a2 n2 c2] 27))
          have Y13 := Lib.hid (Y12.out.alloc (.cells #[.slice a2 n2 c2] 27))
          have R13 := Lib.hid (R12.out.alloc (.cells #[.slice a2 n2 c2] 27))
          have Oc13 := Lib.hid (Oc12.out.alloc (.cells #[.slice a2 n2 c2] 27))
          clear B12 X12 Y12 R12 Oc12
          have tz := cells_new r_3 #[.slice a2 n2 c2] 27
          try simp only [World.size_alloc] at tz
          have L13 := Lib.hid (tz)
          clear tz
          clear hHeld
          refine hK.out _ _ ?_ (fun hHeld => ?_)
          · exact ⟨X13.out.now.two, Y13.out.now.two⟩
          clear hK KK
          refine wpAnyH_ready (rs := [6]) (by kernel_rfl) (by simp) ?_
          refine AllReadyH.cons rfl (fun KK hK => ?_) AllReadyH.nil
          go_simp
          have AA := implOutOf bbc mmc uuc a1 n1 c1 d1 _ Oc13.out.now (HP.out.1.next B13.out) (by omega)
          rw [outT_same Mc.out] at AA
          refine AA.mono ?_
          rintro e r_6 ⟨v, rfl, ho, hb⟩
          obtain ⟨p1, q1, rfl, hh⟩ := ownC_shape ho hb rfl
          clear Oc13
          have B14 := Lib.hid (B13.out.trans (hb.mono B13.out.size))
          have X14 := Lib.hid (X13.out.next hb)
          have Y14 := Lib.hid (Y13.out.next hb)
          have R14 := Lib.hid (R13.out.next hb)
          have L14 := Lib.hid (L13.out.next hb)
          clear B13 X13 Y13 R13 L13
          have T114 := Lib.hid (hh)
          clear hb AA ho hh
          go_wp2_with fail
          clear hHeld
          refine hK.out _ _ ?_ (fun hHeld => ?_)
          · exact ⟨X14.out.now.two, Y14.out.now.two⟩
          clear hK KK
          refine wpAnyH_ready (rs := [10]) (by kernel_rfl) (by simp) ?_
          refine AllReadyH.cons rfl (fun KK hK => ?_) AllReadyH.nil
          go_simp
          refine (implSetAt _ a2 n2 c2 d2 _ L14.out.le (L14.out.now.at 0) (HP.out.2.next B14.out) (by omega)).mono ?_
          rintro e r_10 ⟨bbd, mmd, uud, rfl, _, ho, hm, hb⟩
          clear L14
          have B15 := Lib.hid (B14.out.trans (hb.mono B14.out.size))
          have X15 := Lib.hid (X14.out.next hb)
          have Y15 := Lib.hid (Y14.out.next hb)
          have R15 := Lib.hid (R14.out.next hb)
          have T115 := Lib.hid (T114.out.next hb)
          clear B14 X14 Y14 R14 T114
          have Od15 := Lib.hid (ho)
          have Md := Lib.hid hm
          clear hb ho hm
          go_wp2_with fail
          clear hHeld
          refine hK.out _ _ ?_ (fun hHeld => ?_)
          · exact ⟨X15.out.now.two, Y15.out.now.two⟩
          clear hK KK
          refine wpAnyH_ready (rs := [13]) (by kernel_rfl) (by simp) ?_
          refine AllReadyH.cons rfl (fun KK hK => ?_) AllReadyH.nil
          go_simp
          have AA := implOutOf bbd mmd uud b1 m1 k1 e1 _ Od15.out.now (HQ.out.1.next B15.out) (by omega)
          rw [outT_same Md.out] at AA
          refine AA.mono ?_
          rintro e r_13 ⟨v, rfl, ho, hb⟩
          obtain ⟨p2, q2, rfl, hh⟩ := ownC_shape ho hb rfl
          clear Od15
          have B16 := Lib.hid (B15.out.trans (hb.mono B15.out.size))
          have X16 := Lib.hid (X15.out.next hb)
          have Y16 := Lib.hid (Y15.out.next hb)
          have R16 := Lib.hid (R15.out.next hb)
          have T116 := Lib.hid (T115.out.next hb)
          clear B15 X15 Y15 R15 T115
          have T216 := Lib.hid (hh)
          clear hb AA ho hh
          go_wp2_with fail
          clear hHeld
          refine hK.out _ _ ?_ (fun hHeld => ?_)
          · exact ⟨X16.out.now.two, Y16.out.now.two⟩
          clear hK KK
          refine wpAnyH_ready (rs := [14]) (by kernel_rfl) (by simp) ?_
          refine AllReadyH.cons rfl (fun KK hK => ?_) AllReadyH.nil
          go_simp
          have AA := implUnion p1 p2 _ q1 _ q2 (outT d1 e2) (outT e1 d2) _ (T116.out.now.read (sm_most (outT_sm S.out.1.1)) rfl) (T216.out.now.read (sm_most (outT_sm S.out.2.1)) rfl) (outT_sm S.out.1.1) (outT_sm S.out.2.1)
          rw [HZ1.out] at AA
          refine AA.mono ?_
          rintro e r_14 ⟨v, rfl, ho, hb⟩
          obtain ⟨px, qx, rfl, hh⟩ := ownC_shape ho hb rfl
          clear T116
          clear T216
          have LWx := Lib.hid (And.intro R16.out.le hb.size)
          have B17 := Lib.hid (B16.out.trans (hb.mono B16.out.size))
          have X17 := Lib.hid (X16.out.next hb)
          have Y17 := Lib.hid (Y16.out.next hb)
          have R17 := Lib.hid (R16.out.next hb)
          clear B16 X16 Y16 R16
          have Vx17 := Lib.hid (hh)
          clear hb AA ho hh
          go_wp2_with fail
          clear hHeld
          refine hK.out _ _ ?_ (fun hHeld => ?_)
          · exact ⟨X17.out.now.two, Y17.out.now.two⟩
          clear hK KK
          refine wpAnyH_take (i := 15) (v := ?_) rfl (by kernel_rfl) (by kernel_rfl) (by kernel_rfl) (fun _ _ _ h => h) (Or.inl ⟨by kernel_rfl, ?_⟩) (by assumption) ?_
          rotate_left
          · intro w hSw; (try dsimp only at hSw); go_simp; try with_reducible rfl
          refine wpAnyH_take (i := 16) (v := ?_) rfl (by kernel_rfl) (by kernel_rfl) (by kernel_rfl) (fun _ _ _ h => h) (Or.inl ⟨by kernel_rfl, ?_⟩) (by assumption) ?_
          rotate_left
          · intro w hSw; (try dsimp only at hSw); go_simp; try with_reducible rfl
          refine wpAnyH_take (i := 17) (v := ?_) rfl (by kernel_rfl) (by kernel_rfl) (by kernel_rfl) (fun _ _ _ h => h) (Or.inl ⟨by kernel_rfl, ?_⟩) (by assumption) ?_
          rotate_left
          · intro w hSw; (try dsimp only at hSw); go_simp; try with_reducible rfl
          refine wpAnyH_take (i := 18) (v := ?_) rfl (by kernel_rfl) (by kernel_rfl) (by kernel_rfl) (fun _ _ _ h => h) (Or.inl ⟨by kernel_rfl, ?_⟩) (by assumption) ?_
          rotate_left
          · intro w hSw; (try dsimp only at hSw); go_simp; try with_reducible rfl
          refine wpAnyH_take (i := 19) (v := ?_) rfl (by kernel_rfl) (by kernel_rfl) (by kernel_rfl) (fun _ _ _ h => h) (Or.inl ⟨by kernel_rfl, ?_⟩) (by assumption) ?_
          rotate_left
          · intro w hSw; (try dsimp only at hSw); go_simp; try with_reducible rfl
          refine wpAnyH_done (by kernel_rfl) ?_ _
          try simp only [Act.put, List.setIfInBounds_toArray, List.set_cons_zero, List.set_cons_succ, List.getElem_toArray, List.getElem_cons_zero, List.getElem_cons_succ]
      case' g2_9 =>
        go_simp
        have B12 := Lib.hid (B11.out.alloc B11.out.size (.cells #[.slice a2 n2 c2] 27))
        have X12 := Lib.hid (X11.out.alloc (.cells #[.slice a2 n2 c2] 27))
        have Y12 := Lib.hid (Y11.out.alloc (.cells #[.slice a2 n2 c2] 27))
        have R12 := Lib.hid (R11.out.alloc (.cells #[.slice a2 n2 c2] 27))
        have N12 := Lib.hid (N11.out.alloc (.cells #[.slice a2 n2 c2] 27))
        clear B11 X11 Y11 R11 N11
        have tz := cells_new (u_24.drew.alloc (.cells #[.slice b2 m2 k2] 27)) #[.slice a2 n2 c2] 27
        try simp only [World.size_alloc] at tz
        have L12 := Lib.hid (tz)
        clear tz
        clear hHeld
        refine hK.out _ _ ?_ (fun hHeld => ?_)
        · exact ⟨X12.out.now.two, Y12.out.now.two⟩
        clear hK KK
        refine wpAnyH_ready (rs := [3]) (by kernel_rfl) (by simp) ?_
        refine AllReadyH.cons rfl (fun KK hK => ?_) AllReadyH.nil
        go_simp
        refine (implSetAt _ b2 m2 k2 e2 _ N12.out.le (N12.out.now.at 0) (HQ.out.2.next B12.out) (by omega)).mono ?_
        rintro e r_3 ⟨bbc, mmc, uuc, rfl, _, ho, hm, hb⟩
        clear N12
        have B13 := Lib.hid (B12.out.trans (hb.mono B12.out.size))
        have X13 := Lib.hid (X12.out.next hb)
        have Y13 := Lib.hid (Y12.out.next hb)
        have R13 := Lib.hid (R12.out.next hb)
        have L13 := Lib.hid (L12.out.next hb)
        clear B12 X12 Y12 R12 L12
        have Oc13 := Lib.hid (ho)
        have Mc := Lib.hid hm
        clear hb ho hm
        go_wp2_with fail
        clear hHeld
        refine hK.out _ _ ?_ (fun hHeld => ?_)
        · exact ⟨X13.out.now.two, Y13.out.now.two⟩
        clear hK KK
        refine wpAnyH_ready (rs := [6]) (by kernel_rfl) (by simp) ?_
        refine AllReadyH.cons rfl (fun KK hK => ?_) AllReadyH.nil
        go_simp
        have AA := implOutOf bbc mmc uuc a1 n1 c1 d1 _ Oc13.out.now (HP.out.1.next B13.out) (by omega)
        rw [outT_same Mc.out] at AA
        refine AA.mono ?_
        rintro e r_6 ⟨v, rfl, ho, hb⟩
        obtain ⟨p1, q1, rfl, hh⟩ := ownC_shape ho hb rfl
        clear Oc13
        have B14 := Lib.hid (B13.out.trans (hb.mono B13.out.size))
        have X14 := Lib.hid (X13.out.next hb)
        have Y14 := Lib.hid (Y13.out.next hb)
        have R14 := Lib.hid (R13.out.next hb)
        have L14 := Lib.hid (L13.out.next hb)
        clear B13 X13 Y13 R13 L13
        have T114 := Lib.hid (hh)
        clear hb AA ho hh
        go_wp2_with fail
        clear hHeld
        refine hK.out _ _ ?_ (fun hHeld => ?_)
        · exact ⟨X14.out.now.two, Y14.out.now.two⟩
        clear hK KK
        refine wpAnyH_ready (rs := [10]) (by kernel_rfl) (by simp) ?_
        refine AllReadyH.cons rfl (fun KK hK => ?_) AllReadyH.nil
        go_simp
        refine (implSetAt _ a2 n2 c2 d2 _ L14.out.le (L14.out.now.at 0) (HP.out.2.next B14.out) (by omega)).mono ?_
        rintro e r_10 ⟨bbd, mmd, uud, rfl, _, ho, hm, hb⟩
        clear L14
        have B15 := Lib.hid (B14.out.trans (hb.mono B14.out.size))
        have X15 := Lib.hid (X14.out.next hb)
        have Y15 := Lib.hid (Y14.out.next hb)
        have R15 := Lib.hid (R14.out.next hb)
        have T115 := Lib.hid (T114.out.next hb)
        clear B14 X14 Y14 R14 T114
        have Od15 := Lib.hid (ho)
        have Md := Lib.hid hm
        clear hb ho hm
        go_wp2_with fail
        clear hHeld
        refine hK.out _ _ ?_ (fun hHeld => ?_)
        · exact ⟨X15.out.now.two, Y15.out.now.two⟩
        clear hK KK
        refine wpAnyH_ready (rs := [13]) (by kernel_rfl) (by simp) ?_
        refine AllReadyH.cons rfl (fun KK hK => ?_) AllReadyH.nil
        go_simp
        have AA := implOutOf bbd mmd uud b1 m1 k1 e1 _ Od15.out.now (HQ.out.1.next B15.out) (by omega)
        rw [outT_same Md.out] at AA
        refine AA.mono ?_
        rintro e r_13 ⟨v, rfl, ho, hb⟩
        obtain ⟨p2, q2, rfl, hh⟩ := ownC_shape ho hb rfl
        clear Od15
        have B16 := Lib.hid (B15.out.trans (hb.mono B15.out.size))
        have X16 := Lib.hid (X15.out.next hb)
        have Y16 := Lib.hid (Y15.out.next hb)
        have R16 := Lib.hid (R15.out.next hb)
        have T116 := Lib.hid (T115.out.next hb)
        clear B15 X15 Y15 R15 T115
        have T216 := Lib.hid (hh)
        clear hb AA ho hh
        go_wp2_with fail
        clear hHeld
        refine hK.out _ _ ?_ (fun hHeld => ?_)
        · exact ⟨X16.out.now.two, Y16.out.now.two⟩
        clear hK KK
        refine wpAnyH_ready (rs := [14]) (by kernel_rfl) (by simp) ?_
        refine AllReadyH.cons rfl (fun KK hK => ?_) AllReadyH.nil
        go_simp
        have AA := implUnion p1 p2 _ q1 _ q2 (outT d1 e2) (outT e1 d2) _ (T116.out.now.read (sm_most (outT_sm S.out.1.1)) rfl) (T216.out.now.read (sm_most (outT_sm S.out.2.1)) rfl) (outT_sm S.out.1.1) (outT_sm S.out.2.1)
        rw [HZ1.out] at AA
        refine AA.mono ?_
        rintro e r_14 ⟨v, rfl, ho, hb⟩
        obtain ⟨px, qx, rfl, hh⟩ := ownC_shape ho hb rfl
        clear T116
        clear T216
        have LWx := Lib.hid (And.intro R16.out.le hb.size)
        have B17 := Lib.hid (B16.out.trans (hb.mono B16.out.size))
        have X17 := Lib.hid (X16.out.next hb)
        have Y17 := Lib.hid (Y16.out.next hb)
        have R17 := Lib.hid (R16.out.next hb)
        clear B16 X16 Y16 R16
        have Vx17 := Lib.hid (hh)
        clear hb AA ho hh
        go_wp2_with fail
        clear hHeld
        refine hK.out _ _ ?_ (fun hHeld => ?_)
        · exact ⟨X17.out.now.two, Y17.out.now.two⟩
        clear hK KK
        refine wpAnyH_take (i := 15) (v := ?_) rfl (by kernel_rfl) (by kernel_rfl) (by kernel_rfl) (fun _ _ _ h => h) (Or.inl ⟨by kernel_rfl, ?_⟩) (by assumption) ?_
        rotate_left
        · intro w hSw; (try dsimp only at hSw); go_simp; try with_reducible rfl
        refine wpAnyH_take (i := 16) (v := ?_) rfl (by kernel_rfl) (by kernel_rfl) (by kernel_rfl) (fun _ _ _ h => h) (Or.inl ⟨by kernel_rfl, ?_⟩) (by assumption) ?_
        rotate_left
        · intro w hSw; (try dsimp only at hSw); go_simp; try with_reducible rfl
        refine wpAnyH_take (i := 17) (v := ?_) rfl (by kernel_rfl) (by kernel_rfl) (by kernel_rfl) (fun _ _ _ h => h) (Or.inl ⟨by kernel_rfl, ?_⟩) (by assumption) ?_
        rotate_left
        · intro w hSw; (try dsimp only at hSw); go_simp; try with_reducible rfl
        refine wpAnyH_take (i := 18) (v := ?_) rfl (by kernel_rfl) (by kernel_rfl) (by kernel_rfl) (fun _ _ _ h => h) (Or.inl ⟨by kernel_rfl, ?_⟩) (by assumption) ?_
        rotate_left
        · intro w hSw; (try dsimp only at hSw); go_simp; try with_reducible rfl
        refine wpAnyH_take (i := 19) (v := ?_) rfl (by kernel_rfl) (by kernel_rfl) (by kernel_rfl) (fun _ _ _ h => h) (Or.inl ⟨by kernel_rfl, ?_⟩) (by assumption) ?_
        rotate_left
        · intro w hSw; (try dsimp only at hSw); go_simp; try with_reducible rfl
        refine wpAnyH_done (by kernel_rfl) ?_ _
        try simp only [Act.put, List.setIfInBounds_toArray, List.set_cons_zero, List.set_cons_succ, List.getElem_toArray, List.getElem_cons_zero, List.getElem_cons_succ]
    case' g1_9 =>
      go_simp
      have B11 := Lib.hid (B10.out.alloc B10.out.size (.cells #[.slice a2 n2 c2] 27))
      have X11 := Lib.hid (X10.out.alloc (.cells #[.slice a2 n2 c2] 27))
      have Y11 := Lib.hid (Y10.out.alloc (.cells #[.slice a2 n2 c2] 27))
      have R11 := Lib.hid (R10.out.alloc (.cells #[.slice a2 n2 c2] 27))
      clear B10 X10 Y10 R10
      have tz := cells_new u_24.drew #[.slice a2 n2 c2] 27
      try simp only [World.size_alloc] at tz
      have L11 := Lib.hid (tz)
      clear tz
      clear hHeld
      refine hK.out _ _ ?_ (fun hHeld => ?_)
      · exact ⟨X11.out.now.two, Y11.out.now.two⟩
      clear hK KK
      refine wpAnyH_ready (rs := [2]) (by kernel_rfl) (by simp) ?_
      refine AllReadyH.cons rfl (fun KK hK => ?_) AllReadyH.nil
      go_simp
      have B12 := Lib.hid (B11.out.alloc B11.out.size (.cells #[.slice b2 m2 k2] 27))
      have X12 := Lib.hid (X11.out.alloc (.cells #[.slice b2 m2 k2] 27))
      have Y12 := Lib.hid (Y11.out.alloc (.cells #[.slice b2 m2 k2] 27))
      have R12 := Lib.hid (R11.out.alloc (.cells #[.slice b2 m2 k2] 27))
      have L12 := Lib.hid (L11.out.alloc (.cells #[.slice b2 m2 k2] 27))
      clear B11 X11 Y11 R11 L11
      have tz := cells_new (u_24.drew.alloc (.cells #[.slice a2 n2 c2] 27)) #[.slice b2 m2 k2] 27
      try simp only [World.size_alloc] at tz
      have N12 := Lib.hid (tz)
      clear tz
      clear hHeld
      refine hK.out _ _ ?_ (fun hHeld => ?_)
      · exact ⟨X12.out.now.two, Y12.out.now.two⟩
      clear hK KK
      refine wpAnyH_ready (rs := [3]) (by kernel_rfl) (by simp) ?_
      refine AllReadyH.cons rfl (fun KK hK => ?_) AllReadyH.nil
      go_simp
      refine (implSetAt _ b2 m2 k2 e2 _ N12.out.le (N12.out.now.at 0) (HQ.out.2.next B12.out) (by omega)).mono ?_
      rintro e r_3 ⟨bbc, mmc, uuc, rfl, _, ho, hm, hb⟩
      clear N12
      have B13 := Lib.hid (B12.out.trans (hb.mono B12.out.size))
      have X13 := Lib.hid (X12.out.next hb)
      have Y13 := Lib.hid (Y12.out.next hb)
      have R13 := Lib.hid (R12.out.next hb)
      have L13 := Lib.hid (L12.out.next hb)
      clear B12 X12 Y12 R12 L12
      have Oc13 := Lib.hid (ho)
      have Mc := Lib.hid hm
      clear hb ho hm
      go_wp2_with fail
      clear hHeld
      refine hK.out _ _ ?_ (fun hHeld => ?_)
      · exact ⟨X13.out.now.two, Y13.out.now.two⟩
      clear hK KK
      refine wpAnyH_ready (rs := [6]) (by kernel_rfl) (by simp) ?_
      refine AllReadyH.cons rfl (fun KK hK => ?_) AllReadyH.nil
      go_simp
      have AA := implOutOf bbc mmc uuc a1 n1 c1 d1 _ Oc13.out.now (HP.out.1.next B13.out) (by omega)
      rw [outT_same Mc.out] at AA
      refine AA.mono ?_
      rintro e r_6 ⟨v, rfl, ho, hb⟩
      obtain ⟨p1, q1, rfl, hh⟩ := ownC_shape ho hb rfl
      clear Oc13
      have B14 := Lib.hid (B13.out.trans (hb.mono B13.out.size))
      have X14 := Lib.hid (X13.out.next hb)
      have Y14 := Lib.hid (Y13.out.next hb)
      have R14 := Lib.hid (R13.out.next hb)
      have L14 := Lib.hid (L13.out.next hb)
      clear B13 X13 Y13 R13 L13
      have T114 := Lib.hid (hh)
      clear hb AA ho hh
      go_wp2_with fail
      clear hHeld
      refine hK.out _ _ ?_ (fun hHeld => ?_)
      · exact ⟨X14.out.now.two, Y14.out.now.two⟩
      clear hK KK
      refine wpAnyH_ready (rs := [10]) (by kernel_rfl) (by simp) ?_
      refine AllReadyH.cons rfl (fun KK hK => ?_) AllReadyH.nil
      go_simp
      refine (implSetAt _ a2 n2 c2 d2 _ L14.out.le (L14.out.now.at 0) (HP.out.2.next B14.out) (by omega)).mono ?_
      rintro e r_10 ⟨bbd, mmd, uud, rfl, _, ho, hm, hb⟩
      clear L14
      have B15 := Lib.hid (B14.out.trans (hb.mono B14.out.size))
      have X15 := Lib.hid (X14.out.next hb)
      have Y15 := Lib.hid (Y14.out.next hb)
      have R15 := Lib.hid (R14.out.next hb)
      have T115 := Lib.hid (T114.out.next hb)
      clear B14 X14 Y14 R14 T114
      have Od15 := Lib.hid (ho)
      have Md := Lib.hid hm
      clear hb ho hm
      go_wp2_with fail
      clear hHeld
      refine hK.out _ _ ?_ (fun hHeld => ?_)
      · exact ⟨X15.out.now.two, Y15.out.now.two⟩
      clear hK KK
      refine wpAnyH_ready (rs := [13]) (by kernel_rfl) (by simp) ?_
      refine AllReadyH.cons rfl (fun KK hK => ?_) AllReadyH.nil
      go_simp
      have AA := implOutOf bbd mmd uud b1 m1 k1 e1 _ Od15.out.now (HQ.out.1.next B15.out) (by omega)
      rw [outT_same Md.out] at AA
      refine AA.mono ?_
      rintro e r_13 ⟨v, rfl, ho, hb⟩
      obtain ⟨p2, q2, rfl, hh⟩ := ownC_shape ho hb rfl
      clear Od15
      have B16 := Lib.hid (B15.out.trans (hb.mono B15.out.size))
      have X16 := Lib.hid (X15.out.next hb)
      have Y16 := Lib.hid (Y15.out.next hb)
      have R16 := Lib.hid (R15.out.next hb)
      have T116 := Lib.hid (T115.out.next hb)
      clear B15 X15 Y15 R15 T115
      have T216 := Lib.hid (hh)
      clear hb AA ho hh
      go_wp2_with fail
      clear hHeld
      refine hK.out _ _ ?_ (fun hHeld => ?_)
      · exact ⟨X16.out.now.two, Y16.out.now.two⟩
      clear hK KK
      refine wpAnyH_ready (rs := [14]) (by kernel_rfl) (by simp) ?_
      refine AllReadyH.cons rfl (fun KK hK => ?_) AllReadyH.nil
      go_simp
      have AA := implUnion p1 p2 _ q1 _ q2 (outT d1 e2) (outT e1 d2) _ (T116.out.now.read (sm_most (outT_sm S.out.1.1)) rfl) (T216.out.now.read (sm_most (outT_sm S.out.2.1)) rfl) (outT_sm S.out.1.1) (outT_sm S.out.2.1)
      rw [HZ1.out] at AA
      refine AA.mono ?_
      rintro e r_14 ⟨v, rfl, ho, hb⟩
      obtain ⟨px, qx, rfl, hh⟩ := ownC_shape ho hb rfl
      clear T116
      clear T216
      have LWx := Lib.hid (And.intro R16.out.le hb.size)
      have B17 := Lib.hid (B16.out.trans (hb.mono B16.out.size))
      have X17 := Lib.hid (X16.out.next hb)
      have Y17 := Lib.hid (Y16.out.next hb)
      have R17 := Lib.hid (R16.out.next hb)
      clear B16 X16 Y16 R16
      have Vx17 := Lib.hid (hh)
      clear hb AA ho hh
      go_wp2_with fail
      clear hHeld
      refine hK.out _ _ ?_ (fun hHeld => ?_)
      · exact ⟨X17.out.now.two, Y17.out.now.two⟩
      clear hK KK
      refine wpAnyH_take (i := 15) (v := ?_) rfl (by kernel_rfl) (by kernel_rfl) (by kernel_rfl) (fun _ _ _ h => h) (Or.inl ⟨by kernel_rfl, ?_⟩) (by assumption) ?_
      rotate_left
      · intro w hSw; (try dsimp only at hSw); go_simp; try with_reducible rfl
      refine wpAnyH_take (i := 16) (v := ?_) rfl (by kernel_rfl) (by kernel_rfl) (by kernel_rfl) (fun _ _ _ h => h) (Or.inl ⟨by kernel_rfl, ?_⟩) (by assumption) ?_
      rotate_left
      · intro w hSw; (try dsimp only at hSw); go_simp; try with_reducible rfl
      refine wpAnyH_take (i := 17) (v := ?_) rfl (by kernel_rfl) (by kernel_rfl) (by kernel_rfl) (fun _ _ _ h => h) (Or.inl ⟨by kernel_rfl, ?_⟩) (by assumption) ?_
      rotate_left
      · intro w hSw; (try dsimp only at hSw); go_simp; try with_reducible rfl
      refine wpAnyH_take (i := 18) (v := ?_) rfl (by kernel_rfl) (by kernel_rfl) (by kernel_rfl) (fun _ _ _ h => h) (Or.inl ⟨by kernel_rfl, ?_⟩) (by assumption) ?_
      rotate_left
      · intro w hSw; (try dsimp only at hSw); go_simp; try with_reducible rfl
      refine wpAnyH_take (i := 19) (v := ?_) rfl (by kernel_rfl) (by kernel_rfl) (by kernel_rfl) (fun _ _ _ h => h) (Or.inl ⟨by kernel_rfl, ?_⟩) (by assumption) ?_
      rotate_left
      · intro w hSw; (try dsimp only at hSw); go_simp; try with_reducible rfl
      refine wpAnyH_done (by kernel_rfl) ?_ _
      try simp only [Act.put, List.setIfInBounds_toArray, List.set_cons_zero, List.set_cons_succ, List.getElem_toArray, List.getElem_cons_zero, List.getElem_cons_succ]
    all_goals
      go_wp2_with fail
      go_meet
      exact ⟨px, qx, rfl, rfl, B17, X17, Y17, R17, _, _, Vx17, LWx⟩
  case rest =>
    obtain ⟨px, qx, rfl, rfl, B50, X50, Y50, R50, BV, CV, Vx50, LV⟩ := hcut
    go_wp2_with fail
    go_cut [8, 9] from 10 (fun s8 s9 wx => ∃ py qy, s8 = .slice py (Z2.getD []).length qy ∧ s9 = .bool Z2.isSome ∧ Hid (Below w.heap.size w wx) ∧ Hid (Holds (w.heap.size + 2) (w.heap.size + 3) wx (Cells (w.heap.size + 2) #[.slice none 0 0, .slice none 0 0] 29)) ∧ Hid (Holds BV CV wx (OwnC BV CV (.slice px (Z1.getD []).length qx) (Z1.getD []))) ∧ ∃ B C, Hid (Holds B C wx (OwnC B C (.slice py (Z2.getD []).length qy) (Z2.getD []))) ∧ Hid (CV ≤ B))
    case first =>
      have B51 := Lib.hid B50.out.drew
      have X51 := Lib.hid X50.out.drew
      have Y51 := Lib.hid Y50.out.drew
      have R51 := Lib.hid R50.out.drew
      have Vx51 := Lib.hid Vx50.out.drew
      clear B50 X50 Y50 R50 Vx50
      refine wp_region_held_drew (S := (fun w' => (w'.cell? ⟨w.heap.size, 0, none⟩ = some (.slice a1 n1 c1) ∧ w'.cell? ⟨w.heap.size, 1, none⟩ = some (.slice a2 n2 c2)) ∧ (w'.cell? ⟨w.heap.size + 1, 0, none⟩ = some (.slice b1 m1 k1) ∧ w'.cell? ⟨w.heap.size + 1, 1, none⟩ = some (.slice b2 m2 k2)))) (by kernel_rfl) ?_ (fun hHeld => ?_)
      · exact ⟨X51.out.now.two, Y51.out.now.two⟩
      refine wpAnyH_take (i := 0) (v := ?_) rfl (by kernel_rfl) (by kernel_rfl) (by kernel_rfl) (fun _ _ _ h => h) (Or.inl ⟨by kernel_rfl, ?_⟩) (by assumption) ?_
      rotate_left
      · intro w hSw; (try dsimp only at hSw); go_simp; try with_reducible rfl
      refine wpAnyH_take (i := 1) (v := ?_) rfl (by kernel_rfl) (by kernel_rfl) (by kernel_rfl) (fun _ _ _ h => h) (Or.inl ⟨by kernel_rfl, ?_⟩) (by assumption) ?_
      rotate_left
      · intro w hSw; (try dsimp only at hSw); go_simp; try with_reducible rfl
      refine wpAnyH_take (i := 4) (v := ?_) rfl (by kernel_rfl) (by kernel_rfl) (by kernel_rfl) (fun _ _ _ h => h) (Or.inl ⟨by kernel_rfl, ?_⟩) (by assumption) ?_
      rotate_left
      · intro w hSw; (try dsimp only at hSw); go_simp; try with_reducible rfl
      refine wpAnyH_take (i := 5) (v := ?_) rfl (by kernel_rfl) (by kernel_rfl) (by kernel_rfl) (fun _ _ _ h => h) (Or.inl ⟨by kernel_rfl, ?_⟩) (by assumption) ?_
      rotate_left
      · intro w hSw; (try dsimp only at hSw); go_simp; try with_reducible rfl
      refine wpAnyH_take (i := 7) (v := ?_) rfl (by kernel_rfl) (by kernel_rfl) (by kernel_rfl) (fun _ _ _ h => h) (Or.inl ⟨by kernel_rfl, ?_⟩) (by assumption) ?_
      rotate_left
      · intro w hSw; (try dsimp only at hSw); go_simp; try with_reducible rfl
      refine wpAnyH_take (i := 8) (v := ?_) rfl (by kernel_rfl) (by kernel_rfl) (by kernel_rfl) (fun _ _ _ h => h) (Or.inl ⟨by kernel_rfl, ?_⟩) (by assumption) ?_
      rotate_left
      · intro w hSw; (try dsimp only at hSw); go_simp; try with_reducible rfl
      refine wpAnyH_take (i := 11) (v := ?_) rfl (by kernel_rfl) (by kernel_rfl) (by kernel_rfl) (fun _ _ _ h => h) (Or.inl ⟨by kernel_rfl, ?_⟩) (by assumption) ?_
      rotate_left
      · intro w hSw; (try dsimp only at hSw); go_simp; try with_reducible rfl
      refine wpAnyH_take (i := 12) (v := ?_) rfl (by kernel_rfl) (by kernel_rfl) (by kernel_rfl) (fun _ _ _ h => h) (Or.inl ⟨by kernel_rfl, ?_⟩) (by assumption) ?_
      rotate_left
      · intro w hSw; (try dsimp only at hSw); go_simp; try with_reducible rfl
      refine wpAnyH_ready (rs := [2, 9]) (by kernel_rfl) (by simp) ?_
      refine AllReadyH.cons rfl (fun KK hK => ?g4_2) (AllReadyH.cons rfl (fun KK hK => ?g4_9) AllReadyH.nil)
      case' g4_2 =>
        go_simp
        have B52 := Lib.hid (B51.out.alloc B51.out.size (.cells #[.slice b1 m1 k1] 27))
        have X52 := Lib.hid (X51.out.alloc (.cells #[.slice b1 m1 k1] 27))
        have Y52 := Lib.hid (Y51.out.alloc (.cells #[.slice b1 m1 k1] 27))
        have R52 := Lib.hid (R51.out.alloc (.cells #[.slice b1 m1 k1] 27))
        have Vx52 := Lib.hid (Vx51.out.alloc (.cells #[.slice b1 m1 k1] 27))
        clear B51 X51 Y51 R51 Vx51
        have tz := cells_new wc.drew #[.slice b1 m1 k1] 27
        try simp only [World.size_alloc] at tz
        have N52 := Lib.hid (tz)
        clear tz
        clear hHeld
        refine hK.out _ _ ?_ (fun hHeld => ?_)
        · exact ⟨X52.out.now.two, Y52.out.now.two⟩
        clear hK KK
        refine wpAnyH_ready (rs := [3, 9]) (by kernel_rfl) (by simp) ?_
        refine AllReadyH.cons rfl (fun KK hK => ?g5_3) (AllReadyH.cons rfl (fun KK hK => ?g5_9) AllReadyH.nil)
        case' g5_3 =>
          go_simp
          refine (implSetAt _ b1 m1 k1 e1 _ N52.out.le (N52.out.now.at 0) (HQ.out.1.next B52.out) (by omega)).mono ?_
          rintro e s_3 ⟨bbc, mmc, uuc, rfl, _, ho, hm, hb⟩
          clear N52
          have B53 := Lib.hid (B52.out.trans (hb.mono B52.out.size))
          have X53 := Lib.hid (X52.out.next hb)
          have Y53 := Lib.hid (Y52.out.next hb)
          have R53 := Lib.hid (R52.out.next hb)
          have Vx53 := Lib.hid (Vx52.out.next hb)
          clear B52 X52 Y52 R52 Vx52
          have Oc53 := Lib.hid (ho)
          have Mc := Lib.hid hm
          clear hb ho hm
          go_wp2_with fail
          clear hHeld
          refine hK.out _ _ ?_ (fun hHeld => ?_)
          · exact ⟨X53.out.now.two, Y53.out.now.two⟩
          clear hK KK
          refine wpAnyH_ready (rs := [6, 9]) (by kernel_rfl) (by simp) ?_
          refine AllReadyH.cons rfl (fun KK hK => ?g6_6) (AllReadyH.cons rfl (fun KK hK => ?g6_9) AllReadyH.nil)
          case' g6_6 =>
            go_simp
            have AA := implOutOf bbc mmc uuc a2 n2 c2 d2 _ Oc53.out.now (HP.out.2.next B53.out) (by omega)
            rw [outT_same Mc.out] at AA
            refine AA.mono ?_
            rintro e s_6 ⟨v, rfl, ho, hb⟩
            obtain ⟨p1, q1, rfl, hh⟩ := ownC_shape ho hb rfl
            clear Oc53
            have B54 := Lib.hid (B53.out.trans (hb.mono B53.out.size))
            have X54 := Lib.hid (X53.out.next hb)
            have Y54 := Lib.hid (Y53.out.next hb)
            have R54 := Lib.hid (R53.out.next hb)
            have Vx54 := Lib.hid (Vx53.out.next hb)
            clear B53 X53 Y53 R53 Vx53
            have T154 := Lib.hid (hh)
            clear hb AA ho hh
            go_wp2_with fail
            clear hHeld
            refine hK.out _ _ ?_ (fun hHeld => ?_)
            · exact ⟨X54.out.now.two, Y54.out.now.two⟩
            clear hK KK
            refine wpAnyH_ready (rs := [9]) (by kernel_rfl) (by simp) ?_
            refine AllReadyH.cons rfl (fun KK hK => ?_) AllReadyH.nil
            go_simp
            have B55 := Lib.hid (B54.out.alloc B54.out.size (.cells #[.slice a1 n1 c1] 27))
            have X55 := Lib.hid (X54.out.alloc (.cells #[.slice a1 n1 c1] 27))
            have Y55 := Lib.hid (Y54.out.alloc (.cells #[.slice a1 n1 c1] 27))
            have R55 := Lib.hid (R54.out.alloc (.cells #[.slice a1 n1 c1] 27))
            have Vx55 := Lib.hid (Vx54.out.alloc (.cells #[.slice a1 n1 c1] 27))
            have T155 := Lib.hid (T154.out.alloc (.cells #[.slice a1 n1 c1] 27))
            clear B54 X54 Y54 R54 Vx54 T154
            have tz := cells_new s_6 #[.slice a1 n1 c1] 27
            try simp only [World.size_alloc] at tz
            have L55 := Lib.hid (tz)
            clear tz
            clear hHeld
            refine hK.out _ _ ?_ (fun hHeld => ?_)
            · exact ⟨X55.out.now.two, Y55.out.now.two⟩
            clear hK KK
            refine wpAnyH_ready (rs := [10]) (by kernel_rfl) (by simp) ?_
            refine AllReadyH.cons rfl (fun KK hK => ?_) AllReadyH.nil
            go_simp
            refine (implSetAt _ a1 n1 c1 d1 _ L55.out.le (L55.out.now.at 0) (HP.out.1.next B55.out) (by omega)).mono ?_
            rintro e s_10 ⟨bbd, mmd, uud, rfl, _, ho, hm, hb⟩
            clear L55
            have B56 := Lib.hid (B55.out.trans (hb.mono B55.out.size))
            have X56 := Lib.hid (X55.out.next hb)
            have Y56 := Lib.hid (Y55.out.next hb)
            have R56 := Lib.hid (R55.out.next hb)
            have Vx56 := Lib.hid (Vx55.out.next hb)
            have T156 := Lib.hid (T155.out.next hb)
            clear B55 X55 Y55 R55 Vx55 T155
            have Od56 := Lib.hid (ho)
            have Md := Lib.hid hm
            clear hb ho hm
            go_wp2_with fail
            clear hHeld
            refine hK.out _ _ ?_ (fun hHeld => ?_)
            · exact ⟨X56.out.now.two, Y56.out.now.two⟩
            clear hK KK
            refine wpAnyH_ready (rs := [13]) (by kernel_rfl) (by simp) ?_
            refine AllReadyH.cons rfl (fun KK hK => ?_) AllReadyH.nil
            go_simp
            have AA := implOutOf bbd mmd uud b2 m2 k2 e2 _ Od56.out.now (HQ.out.2.next B56.out) (by omega)
            rw [outT_same Md.out] at AA
            refine AA.mono ?_
            rintro e s_13 ⟨v, rfl, ho, hb⟩
            obtain ⟨p2, q2, rfl, hh⟩ := ownC_shape ho hb rfl
            clear Od56
            have B57 := Lib.hid (B56.out.trans (hb.mono B56.out.size))
            have X57 := Lib.hid (X56.out.next hb)
            have Y57 := Lib.hid (Y56.out.next hb)
            have R57 := Lib.hid (R56.out.next hb)
            have Vx57 := Lib.hid (Vx56.out.next hb)
            have T157 := Lib.hid (T156.out.next hb)
            clear B56 X56 Y56 R56 Vx56 T156
            have T257 := Lib.hid (hh)
            clear hb AA ho hh
            go_wp2_with fail
            clear hHeld
            refine hK.out _ _ ?_ (fun hHeld => ?_)
            · exact ⟨X57.out.now.two, Y57.out.now.two⟩
            clear hK KK
            refine wpAnyH_ready (rs := [14]) (by kernel_rfl) (by simp) ?_
            refine AllReadyH.cons rfl (fun KK hK => ?_) AllReadyH.nil
            go_simp
            have AA := implUnion p1 p2 _ q1 _ q2 (outT d2 e1) (outT e2 d1) _ (T157.out.now.read (sm_most (outT_sm S.out.1.2)) rfl) (T257.out.now.read (sm_most (outT_sm S.out.2.2)) rfl) (outT_sm S.out.1.2) (outT_sm S.out.2.2)
            rw [HZ2.out] at AA
            refine AA.mono ?_
            rintro e s_14 ⟨v, rfl, ho, hb⟩
            obtain ⟨py, qy, rfl, hh⟩ := ownC_shape ho hb rfl
            clear T157
            clear T257
            have LXY := Lib.hid Vx57.out.le
            have B58 := Lib.hid (B57.out.trans (hb.mono B57.out.size))
            have X58 := Lib.hid (X57.out.next hb)
            have Y58 := Lib.hid (Y57.out.next hb)
            have R58 := Lib.hid (R57.out.next hb)
            have Vx58 := Lib.hid (Vx57.out.next hb)
            clear B57 X57 Y57 R57 Vx57
            have Vy58 := Lib.hid (hh)
            clear hb AA ho hh
            go_wp2_with fail
            clear hHeld
            refine hK.out _ _ ?_ (fun hHeld => ?_)
            · exact ⟨X58.out.now.two, Y58.out.now.two⟩
            clear hK KK
            refine wpAnyH_take (i := 15) (v := ?_) rfl (by kernel_rfl) (by kernel_rfl) (by kernel_rfl) (fun _ _ _ h => h) (Or.inl ⟨by kernel_rfl, ?_⟩) (by assumption) ?_
            rotate_left
            · intro w hSw; (try dsimp only at hSw); go_simp; try with_reducible rfl
            refine wpAnyH_take (i := 16) (v := ?_) rfl (by kernel_rfl) (by kernel_rfl) (by kernel_rfl) (fun _ _ _ h => h) (Or.inl ⟨by kernel_rfl, ?_⟩) (by assumption) ?_
            rotate_left
            · intro w hSw; (try dsimp only at hSw); go_simp; try with_reducible rfl
            refine wpAnyH_take (i := 17) (v := ?_) rfl (by kernel_rfl) (by kernel_rfl) (by kernel_rfl) (fun _ _ _ h => h) (Or.inl ⟨by kernel_rfl, ?_⟩) (by assumption) ?_
            rotate_left
            · intro w hSw; (try dsimp only at hSw); go_simp; try with_reducible rfl
            refine wpAnyH_take (i := 18) (v := ?_) rfl (by kernel_rfl) (by kernel_rfl) (by kernel_rfl) (fun _ _ _ h => h) (Or.inl ⟨by kernel_rfl, ?_⟩) (by assumption) ?_
            rotate_left
            · intro w hSw; (try dsimp only at hSw); go_simp; try with_reducible rfl
            refine wpAnyH_take (i := 19) (v := ?_) rfl (by kernel_rfl) (by kernel_rfl) (by kernel_rfl) (fun _ _ _ h => h) (Or.inl ⟨by kernel_rfl, ?_⟩) (by assumption) ?_
            rotate_left
            · intro w hSw; (try dsimp only at hSw); go_simp; try with_reducible rfl
            refine wpAnyH_done (by kernel_rfl) ?_ _
            try simp only [Act.put, List.setIfInBounds_toArray, List.set_cons_zero, List.set_cons_succ, List.getElem_toArray, List.getElem_cons_zero, List.getElem_cons_succ]
          case' g6_9 =>
            go_simp
            have B54 := Lib.hid (B53.out.alloc B53.out.size (.cells #[.slice a1 n1 c1] 27))
            have X54 := Lib.hid (X53.out.alloc (.cells #[.slice a1 n1 c1] 27))
            have Y54 := Lib.hid (Y53.out.alloc (.cells #[.slice a1 n1 c1] 27))
            have R54 := Lib.hid (R53.out.alloc (.cells #[.slice a1 n1 c1] 27))
            have Vx54 := Lib.hid (Vx53.out.alloc (.cells #[.slice a1 n1 c1] 27))
            have Oc54 := Lib.hid (Oc53.out.alloc (.cells #[.slice a1 n1 c1] 27))
            clear B53 X53 Y53 R53 Vx53 Oc53
            have tz := cells_new s_3 #[.slice a1 n1 c1] 27
            try simp only [World.size_alloc] at tz
            have L54 := Lib.hid (tz)
            clear tz
            clear hHeld
            refine hK.out _ _ ?_ (fun hHeld => ?_)
            · exact ⟨X54.out.now.two, Y54.out.now.two⟩
            clear hK KK
            refine wpAnyH_ready (rs := [6]) (by kernel_rfl) (by simp) ?_
            refine AllReadyH.cons rfl (fun KK hK => ?_) AllReadyH.nil
            go_simp
            have AA := implOutOf bbc mmc uuc a2 n2 c2 d2 _ Oc54.out.now (HP.out.2.next B54.out) (by omega)
            rw [outT_same Mc.out] at AA
            refine AA.mono ?_
            rintro e s_6 ⟨v, rfl, ho, hb⟩
            obtain ⟨p1, q1, rfl, hh⟩ := ownC_shape ho hb rfl
            clear Oc54
            have B55 := Lib.hid (B54.out.trans (hb.mono B54.out.size))
            have X55 := Lib.hid (X54.out.next hb)
            have Y55 := Lib.hid (Y54.out.next hb)
            have R55 := Lib.hid (R54.out.next hb)
            have Vx55 := Lib.hid (Vx54.out.next hb)
            have L55 := Lib.hid (L54.out.next hb)
            clear B54 X54 Y54 R54 Vx54 L54
            have T155 := Lib.hid (hh)
            clear hb AA ho hh
            go_wp2_with fail
            clear hHeld
            refine hK.out _ _ ?_ (fun hHeld => ?_)
            · exact ⟨X55.out.now.two, Y55.out.now.two⟩
            clear hK KK
            refine wpAnyH_ready (rs := [10]) (by kernel_rfl) (by simp) ?_
            refine AllReadyH.cons rfl (fun KK hK => ?_) AllReadyH.nil
            go_simp
            refine (implSetAt _ a1 n1 c1 d1 _ L55.out.le (L55.out.now.at 0) (HP.out.1.next B55.out) (by omega)).mono ?_
            rintro e s_10 ⟨bbd, mmd, uud, rfl, _, ho, hm, hb⟩
            clear L55
            have B56 := Lib.hid (B55.out.trans (hb.mono B55.out.size))
            have X56 := Lib.hid (X55.out.next hb)
            have Y56 := Lib.hid (Y55.out.next hb)
            have R56 := Lib.hid (R55.out.next hb)
            have Vx56 := Lib.hid (Vx55.out.next hb)
            have T156 := Lib.hid (T155.out.next hb)
            clear B55 X55 Y55 R55 Vx55 T155
            have Od56 := Lib.hid (ho)
            have Md := Lib.hid hm
            clear hb ho hm
            go_wp2_with fail
            clear hHeld
            refine hK.out _ _ ?_ (fun hHeld => ?_)
            · exact ⟨X56.out.now.two, Y56.out.now.two⟩
            clear hK KK
            refine wpAnyH_ready (rs := [13]) (by kernel_rfl) (by simp) ?_
            refine AllReadyH.cons rfl (fun KK hK => ?_) AllReadyH.nil
            go_simp
            have AA := implOutOf bbd mmd uud b2 m2 k2 e2 _ Od56.out.now (HQ.out.2.next B56.out) (by omega)
            rw [outT_same Md.out] at AA
            refine AA.mono ?_
            rintro e s_13 ⟨v, rfl, ho, hb⟩
            obtain ⟨p2, q2, rfl, hh⟩ := ownC_shape ho hb rfl
            clear Od56
            have B57 := Lib.hid (B56.out.trans (hb.mono B56.out.size))
            have X57 := Lib.hid (X56.out.next hb)
            have Y57 := Lib.hid (Y56.out.next hb)
            have R57 := Lib.hid (R56.out.next hb)
            have Vx57 := Lib.hid (Vx56.out.next hb)
            have T157 := Lib.hid (T156.out.next hb)
            clear B56 X56 Y56 R56 Vx56 T156
            have T257 := Lib.hid (hh)
            clear hb AA ho hh
            go_wp2_with fail
            clear hHeld
            refine hK.out _ _ ?_ (fun hHeld => ?_)
            · exact ⟨X57.out.now.two, Y57.out.now.two⟩
            clear hK KK
            refine wpAnyH_ready (rs := [14]) (by kernel_rfl) (by simp) ?_
            refine AllReadyH.cons rfl (fun KK hK => ?_) AllReadyH.nil
            go_simp
            have AA := implUnion p1 p2 _ q1 _ q2 (outT d2 e1) (outT e2 d1) _ (T157.out.now.read (sm_most (outT_sm S.out.1.2)) rfl) (T257.out.now.read (sm_most (outT_sm S.out.2.2)) rfl) (outT_sm S.out.1.2) (outT_sm S.out.2.2)
            rw [HZ2.out] at AA
            refine AA.mono ?_
            rintro e s_14 ⟨v, rfl, ho, hb⟩
            obtain ⟨py, qy, rfl, hh⟩ := ownC_shape ho hb rfl
            clear T157
            clear T257
            have LXY := Lib.hid Vx57.out.le
            have B58 := Lib.hid (B57.out.trans (hb.mono B57.out.size))
            have X58 := Lib.hid (X57.out.next hb)
            have Y58 := Lib.hid (Y57.out.next hb)
            have R58 := Lib.hid (R57.out.next hb)
            have Vx58 := Lib.hid (Vx57.out.next hb)
            clear B57 X57 Y57 R57 Vx57
            have Vy58 := Lib.hid (hh)
            clear hb AA ho hh
            go_wp2_with fail
            clear hHeld
            refine hK.out _ _ ?_ (fun hHeld => ?_)
            · exact ⟨X58.out.now.two, Y58.out.now.two⟩
            clear hK KK
            refine wpAnyH_take (i := 15) (v := ?_) rfl (by kernel_rfl) (by kernel_rfl) (by kernel_rfl) (fun _ _ _ h => h) (Or.inl ⟨by kernel_rfl, ?_⟩) (by assumption) ?_
            rotate_left
            · intro w hSw; (try dsimp only at hSw); go_simp; try with_reducible rfl
            refine wpAnyH_take (i := 16) (v := ?_) rfl (by kernel_rfl) (by kernel_rfl) (by kernel_rfl) (fun _ _ _ h => h) (Or.inl ⟨by kernel_rfl, ?_⟩) (by assumption) ?_
            rotate_left
            · intro w hSw; (try dsimp only at hSw); go_simp; try with_reducible rfl
            refine wpAnyH_take (i := 17) (v := ?_) rfl (by kernel_rfl) (by kernel_rfl) (by kernel_rfl) (fun _ _ _ h => h) (Or.inl ⟨by kernel_rfl, ?_⟩) (by assumption) ?_
            rotate_left
            · intro w hSw; (try dsimp only at hSw); go_simp; try with_reducible rfl
            refine wpAnyH_take (i := 18) (v := ?_) rfl (by kernel_rfl) (by kernel_rfl) (by kernel_rfl) (fun _ _ _ h => h) (Or.inl ⟨by kernel_rfl, ?_⟩) (by assumption) ?_
            rotate_left
            · intro w hSw; (try dsimp only at hSw); go_simp; try with_reducible rfl
            refine wpAnyH_take (i := 19) (v := ?_) rfl (by kernel_rfl) (by kernel_rfl) (by kernel_rfl) (fun _ _ _ h => h) (Or.inl ⟨by kernel_rfl, ?_⟩) (by assumption) ?_
            rotate_left
            · intro w hSw; (try dsimp only at hSw); go_simp; try with_reducible rfl
            refine wpAnyH_done (by kernel_rfl) ?_ _
            try simp only [Act.put, List.setIfInBounds_toArray, List.set_cons_zero, List.set_cons_succ, List.getElem_toArray, List.getElem_cons_zero, List.getElem_cons_succ]
        case' g5_9 =>
          go_simp
          have B53 := Lib.hid (B52.out.alloc B52.out.size (.cells #[.slice a1 n1 c1] 27))
          have X53 := Lib.hid (X52.out.alloc (.cells #[.slice a1 n1 c1] 27))
          have Y53 := Lib.hid (Y52.out.alloc (.cells #[.slice a1 n1 c1] 27))
          have R53 := Lib.hid (R52.out.alloc (.cells #[.slice a1 n1 c1] 27))
          have Vx53 := Lib.hid (Vx52.out.alloc (.cells #[.slice a1 n1 c1] 27))
          have N53 := Lib.hid (N52.out.alloc (.cells #[.slice a1 n1 c1] 27))
          clear B52 X52 Y52 R52 Vx52 N52
          have tz := cells_new (wc.drew.alloc (.cells #[.slice b1 m1 k1] 27)) #[.slice a1 n1 c1] 27
          try simp only [World.size_alloc] at tz
          have L53 := Lib.hid (tz)
          clear tz
          clear hHeld
          refine hK.out _ _ ?_ (fun hHeld => ?_)
          · exact ⟨X53.out.now.two, Y53.out.now.two⟩
          clear hK KK
          refine wpAnyH_ready (rs := [3]) (by kernel_rfl) (by simp) ?_
          refine AllReadyH.cons rfl (fun KK hK => ?_) AllReadyH.nil
          go_simp
          refine (implSetAt _ b1 m1 k1 e1 _ N53.out.le (N53.out.now.at 0) (HQ.out.1.next B53.out) (by omega)).mono ?_
          rintro e s_3 ⟨bbc, mmc, uuc, rfl, _, ho, hm, hb⟩
          clear N53
          have B54 := Lib.hid (B53.out.trans (hb.mono B53.out.size))
          have X54 := Lib.hid (X53.out.next hb)
          have Y54 := Lib.hid (Y53.out.next hb)
          have R54 := Lib.hid (R53.out.next hb)
          have Vx54 := Lib.hid (Vx53.out.next hb)
          have L54 := Lib.hid (L53.out.next hb)
          clear B53 X53 Y53 R53 Vx53 L53
          have Oc54 := Lib.hid (ho)
          have Mc := Lib.hid hm
          clear hb ho hm
          go_wp2_with fail
          clear hHeld
          refine hK.out _ _ ?_ (fun hHeld => ?_)
          · exact ⟨X54.out.now.two, Y54.out.now.two⟩
          clear hK KK
          refine wpAnyH_ready (rs := [6]) (by kernel_rfl) (by simp) ?_
          refine AllReadyH.cons rfl (fun KK hK => ?_) AllReadyH.nil
          go_simp
          have AA := implOutOf bbc mmc uuc a2 n2 c2 d2 _ Oc54.out.now (HP.out.2.next B54.out) (by omega)
          rw [outT_same Mc.out] at AA
          refine AA.mono ?_
          rintro e s_6 ⟨v, rfl, ho, hb⟩
          obtain ⟨p1, q1, rfl, hh⟩ := ownC_shape ho hb rfl
          clear Oc54
          have B55 := Lib.hid (B54.out.trans (hb.mono B54.out.size))
          have X55 := Lib.hid (X54.out.next hb)
          have Y55 := Lib.hid (Y54.out.next hb)
          have R55 := Lib.hid (R54.out.next hb)
          have Vx55 := Lib.hid (Vx54.out.next hb)
          have L55 := Lib.hid (L54.out.next hb)
          clear B54 X54 Y54 R54 Vx54 L54
          have T155 := Lib.hid (hh)
          clear hb AA ho hh
          go_wp2_with fail
          clear hHeld
          refine hK.out _ _ ?_ (fun hHeld => ?_)
          · exact ⟨X55.out.now.two, Y55.out.now.two⟩
          clear hK KK
          refine wpAnyH_ready (rs := [10]) (by kernel_rfl) (by simp) ?_
          refine AllReadyH.cons rfl (fun KK hK => ?_) AllReadyH.nil
          go_simp
          refine (implSetAt _ a1 n1 c1 d1 _ L55.out.le (L55.out.now.at 0) (HP.out.1.next B55.out) (by omega)).mono ?_
          rintro e s_10 ⟨bbd, mmd, uud, rfl, _, ho, hm, hb⟩
          clear L55
          have B56 := Lib.hid (B55.out.trans (hb.mono B55.out.size))
          have X56 := Lib.hid (X55.out.next hb)
          have Y56 := Lib.hid (Y55.out.next hb)
          have R56 := Lib.hid (R55.out.next hb)
          have Vx56 := Lib.hid (Vx55.out.next hb)
          have T156 := Lib.hid (T155.out.next hb)
          clear B55 X55 Y55 R55 Vx55 T155
          have Od56 := Lib.hid (ho)
          have Md := Lib.hid hm
          clear hb ho hm
          go_wp2_with fail
          clear hHeld
          refine hK.out _ _ ?_ (fun hHeld => ?_)
          · exact ⟨X56.out.now.two, Y56.out.now.two⟩
          clear hK KK
          refine wpAnyH_ready (rs := [13]) (by kernel_rfl) (by simp) ?_
          refine AllReadyH.cons rfl (fun KK hK => ?_) AllReadyH.nil
          go_simp
          have AA := implOutOf bbd mmd uud b2 m2 k2 e2 _ Od56.out.now (HQ.out.2.next B56.out) (by omega)
          rw [outT_same Md.out] at AA
          refine AA.mono ?_
          rintro e s_13 ⟨v, rfl, ho, hb⟩
          obtain ⟨p2, q2, rfl, hh⟩ := ownC_shape ho hb rfl
          clear Od56
          have B57 := Lib.hid (B56.out.trans (hb.mono B56.out.size))
          have X57 := Lib.hid (X56.out.next hb)
          have Y57 := Lib.hid (Y56.out.next hb)
          have R57 := Lib.hid (R56.out.next hb)
          have Vx57 := Lib.hid (Vx56.out.next hb)
          have T157 := Lib.hid (T156.out.next hb)
          clear B56 X56 Y56 R56 Vx56 T156
          have T257 := Lib.hid (hh)
          clear hb AA ho hh
          go_wp2_with fail
          clear hHeld
          refine hK.out _ _ ?_ (fun hHeld => ?_)
          · exact ⟨X57.out.now.two, Y57.out.now.two⟩
          clear hK KK
          refine wpAnyH_ready (rs := [14]) (by kernel_rfl) (by simp) ?_
          refine AllReadyH.cons rfl (fun KK hK => ?_) AllReadyH.nil
          go_simp
          have AA := implUnion p1 p2 _ q1 _ q2 (outT d2 e1) (outT e2 d1) _ (T157.out.now.read (sm_most (outT_sm S.out.1.2)) rfl) (T257.out.now.read (sm_most (outT_sm S.out.2.2)) rfl) (outT_sm S.out.1.2) (outT_sm S.out.2.2)
          rw [HZ2.out] at AA
          refine AA.mono ?_
          rintro e s_14 ⟨v, rfl, ho, hb⟩
          obtain ⟨py, qy, rfl, hh⟩ := ownC_shape ho hb rfl
          clear T157
          clear T257
          have LXY := Lib.hid Vx57.out.le
          have B58 := Lib.hid (B57.out.trans (hb.mono B57.out.size))
          have X58 := Lib.hid (X57.out.next hb)
          have Y58 := Lib.hid (Y57.out.next hb)
          have R58 := Lib.hid (R57.out.next hb)
          have Vx58 := Lib.hid (Vx57.out.next hb)
          clear B57 X57 Y57 R57 Vx57
          have Vy58 := Lib.hid (hh)
          clear hb AA ho hh
          go_wp2_with fail
          clear hHeld
          refine hK.out _ _ ?_ (fun hHeld => ?_)
          · exact ⟨X58.out.now.two, Y58.out.now.two⟩
          clear hK KK
          refine wpAnyH_take (i := 15) (v := ?_) rfl (by kernel_rfl) (by kernel_rfl) (by kernel_rfl) (fun _ _ _ h => h) (Or.inl ⟨by kernel_rfl, ?_⟩) (by assumption) ?_
          rotate_left
          · intro w hSw; (try dsimp only at hSw); go_simp; try with_reducible rfl
          refine wpAnyH_take (i := 16) (v := ?_) rfl (by kernel_rfl) (by kernel_rfl) (by kernel_rfl) (fun _ _ _ h => h) (Or.inl ⟨by kernel_rfl, ?_⟩) (by assumption) ?_
          rotate_left
          · intro w hSw; (try dsimp only at hSw); go_simp; try with_reducible rfl
          refine wpAnyH_take (i := 17) (v := ?_) rfl (by kernel_rfl) (by kernel_rfl) (by kernel_rfl) (fun _ _ _ h => h) (Or.inl ⟨by kernel_rfl, ?_⟩) (by assumption) ?_
          rotate_left
          · intro w hSw; (try dsimp only at hSw); go_simp; try with_reducible rfl
          refine wpAnyH_take (i := 18) (v := ?_) rfl (by kernel_rfl) (by kernel_rfl) (by kernel_rfl) (fun _ _ _ h => h) (Or.inl ⟨by kernel_rfl, ?_⟩) (by assumption) ?_
          rotate_left
          · intro w hSw; (try dsimp only at hSw); go_simp; try with_reducible rfl
          refine wpAnyH_take (i := 19) (v := ?_) rfl (by kernel_rfl) (by kernel_rfl) (by kernel_rfl) (fun _ _ _ h => h) (Or.inl ⟨by kernel_rfl, ?_⟩) (by assumption) ?_
          rotate_left
          · intro w hSw; (try dsimp only at hSw); go_simp; try with_reducible rfl
          refine wpAnyH_done (by kernel_rfl) ?_ _
          try simp only [Act.put, List.setIfInBounds_toArray, List.set_cons_zero, List.set_cons_succ, List.getElem_toArray, List.getElem_cons_zero, List.getElem_cons_succ]
      case' g4_9 =>
        go_simp
        have B52 := Lib.hid (B51.out.alloc B51.out.size (.cells #[.slice a1 n1 c1] 27))
        have X52 := Lib.hid (X51.out.alloc (.cells #[.slice a1 n1 c1] 27))
        have Y52 := Lib.hid (Y51.out.alloc (.cells #[.slice a1 n1 c1] 27))
        have R52 := Lib.hid (R51.out.alloc (.cells #[.slice a1 n1 c1] 27))
        have Vx52 := Lib.hid (Vx51.out.alloc (.cells #[.slice a1 n1 c1] 27))
        clear B51 X51 Y51 R51 Vx51
        have tz := cells_new wc.drew #[.slice a1 n1 c1] 27
        try simp only [World.size_alloc] at tz
        have L52 := Lib.hid (tz)
        clear tz
        clear hHeld
        refine hK.out _ _ ?_ (fun hHeld => ?_)
        · exact ⟨X52.out.now.two, Y52.out.now.two⟩
        clear hK KK
        refine wpAnyH_ready (rs := [2]) (by kernel_rfl) (by simp) ?_
        refine AllReadyH.cons rfl (fun KK hK => ?_) AllReadyH.nil
        go_simp
        have B53 := Lib.hid (B52.out.alloc B52.out.size (.cells #[.slice b1 m1 k1] 27))
        have X53 := Lib.hid (X52.out.alloc (.cells #[.slice b1 m1 k1] 27))
        have Y53 := Lib.hid (Y52.out.alloc (.cells #[.slice b1 m1 k1] 27))
        have R53 := Lib.hid (R52.out.alloc (.cells #[.slice b1 m1 k1] 27))
        have Vx53 := Lib.hid (Vx52.out.alloc (.cells #[.slice b1 m1 k1] 27))
        have L53 := Lib.hid (L52.out.alloc (.cells #[.slice b1 m1 k1] 27))
        clear B52 X52 Y52 R52 Vx52 L52
        have tz := cells_new (wc.drew.alloc (.cells #[.slice a1 n1 c1] 27)) #[.slice b1 m1 k1] 27
        try simp only [World.size_alloc] at tz
        have N53 := Lib.hid (tz)
        clear tz
        clear hHeld
        refine hK.out _ _ ?_ (fun hHeld => ?_)
        · exact ⟨X53.out.now.two, Y53.out.now.two⟩
        clear hK KK
        refine wpAnyH_ready (rs := [3]) (by kernel_rfl) (by simp) ?_
        refine AllReadyH.cons rfl (fun KK hK => ?_) AllReadyH.nil
        go_simp
        refine (implSetAt _ b1 m1 k1 e1 _ N53.out.le (N53.out.now.at 0) (HQ.out.1.next B53.out) (by omega)).mono ?_
        rintro e s_3 ⟨bbc, mmc, uuc, rfl, _, ho, hm, hb⟩
        clear N53
        have B54 := Lib.hid (B53.out.trans (hb.mono B53.out.size))
        have X54 := Lib.hid (X53.out.next hb)
        have Y54 := Lib.hid (Y53.out.next hb)
        have R54 := Lib.hid (R53.out.next hb)
        have Vx54 := Lib.hid (Vx53.out.next hb)
        have L54 := Lib.hid (L53.out.next hb)
        clear B53 X53 Y53 R53 Vx53 L53
        have Oc54 := Lib.hid (ho)
        have Mc := Lib.hid hm
        clear hb ho hm
        go_wp2_with fail
        clear hHeld
        refine hK.out _ _ ?_ (fun hHeld => ?_)
        · exact ⟨X54.out.now.two, Y54.out.now.two⟩
        clear hK KK
        refine wpAnyH_ready (rs := [6]) (by kernel_rfl) (by simp) ?_
        refine AllReadyH.cons rfl (fun KK hK => ?_) AllReadyH.nil
        go_simp
        have AA := implOutOf bbc mmc uuc a2 n2 c2 d2 _ Oc54.out.now (HP.out.2.next B54.out) (by omega)
        rw [outT_same Mc.out] at AA
        refine AA.mono ?_
        rintro e s_6 ⟨v, rfl, ho, hb⟩
        obtain ⟨p1, q1, rfl, hh⟩ := ownC_shape ho hb rfl
        clear Oc54
        have B55 := Lib.hid (B54.out.trans (hb.mono B54.out.size))
        have X55 := Lib.hid (X54.out.next hb)
        have Y55 := Lib.hid (Y54.out.next hb)
        have R55 := Lib.hid (R54.out.next hb)
        have Vx55 := Lib.hid (Vx54.out.next hb)
        have L55 := Lib.hid (L54.out.next hb)
        clear B54 X54 Y54 R54 Vx54 L54
        have T155 := Lib.hid (hh)
        clear hb AA ho hh
        go_wp2_with fail
        clear hHeld
        refine hK.out _ _ ?_ (fun hHeld => ?_)
        · exact ⟨X55.out.now.two, Y55.out.now.two⟩
        clear hK KK
        refine wpAnyH_ready (rs := [10]) (by kernel_rfl) (by simp) ?_
        refine AllReadyH.cons rfl (fun KK hK => ?_) AllReadyH.nil
        go_simp
        refine (implSetAt _ a1 n1 c1 d1 _ L55.out.le (L55.out.now.at 0) (HP.out.1.next B55.out) (by omega)).mono ?_
        rintro e s_10 ⟨bbd, mmd, uud, rfl, _, ho, hm, hb⟩
        clear L55
        have B56 := Lib.hid (B55.out.trans (hb.mono B55.out.size))
        have X56 := Lib.hid (X55.out.next hb)
        have Y56 := Lib.hid (Y55.out.next hb)
        have R56 := Lib.hid (R55.out.next hb)
        have Vx56 := Lib.hid (Vx55.out.next hb)
        have T156 := Lib.hid (T155.out.next hb)
        clear B55 X55 Y55 R55 Vx55 T155
        have Od56 := Lib.hid (ho)
        have Md := Lib.hid hm
        clear hb ho hm
        go_wp2_with fail
        clear hHeld
        refine hK.out _ _ ?_ (fun hHeld => ?_)
        · exact ⟨X56.out.now.two, Y56.out.now.two⟩
        clear hK KK
        refine wpAnyH_ready (rs := [13]) (by kernel_rfl) (by simp) ?_
        refine AllReadyH.cons rfl (fun KK hK => ?_) AllReadyH.nil
        go_simp
        have AA := implOutOf bbd mmd uud b2 m2 k2 e2 _ Od56.out.now (HQ.out.2.next B56.out) (by omega)
        rw [outT_same Md.out] at AA
        refine AA.mono ?_
        rintro e s_13 ⟨v, rfl, ho, hb⟩
        obtain ⟨p2, q2, rfl, hh⟩ := ownC_shape ho hb rfl
        clear Od56
        have B57 := Lib.hid (B56.out.trans (hb.mono B56.out.size))
        have X57 := Lib.hid (X56.out.next hb)
        have Y57 := Lib.hid (Y56.out.next hb)
        have R57 := Lib.hid (R56.out.next hb)
        have Vx57 := Lib.hid (Vx56.out.next hb)
        have T157 := Lib.hid (T156.out.next hb)
        clear B56 X56 Y56 R56 Vx56 T156
        have T257 := Lib.hid (hh)
        clear hb AA ho hh
        go_wp2_with fail
        clear hHeld
        refine hK.out _ _ ?_ (fun hHeld => ?_)
        · exact ⟨X57.out.now.two, Y57.out.now.two⟩
        clear hK KK
        refine wpAnyH_ready (rs := [14]) (by kernel_rfl) (by simp) ?_
        refine AllReadyH.cons rfl (fun KK hK => ?_) AllReadyH.nil
        go_simp
        have AA := implUnion p1 p2 _ q1 _ q2 (outT d2 e1) (outT e2 d1) _ (T157.out.now.read (sm_most (outT_sm S.out.1.2)) rfl) (T257.out.now.read (sm_most (outT_sm S.out.2.2)) rfl) (outT_sm S.out.1.2) (outT_sm S.out.2.2)
        rw [HZ2.out] at AA
        refine AA.mono ?_
        rintro e s_14 ⟨v, rfl, ho, hb⟩
        obtain ⟨py, qy, rfl, hh⟩ := ownC_shape ho hb rfl
        clear T157
        clear T257
        have LXY := Lib.hid Vx57.out.le
        have B58 := Lib.hid (B57.out.trans (hb.mono B57.out.size))
        have X58 := Lib.hid (X57.out.next hb)
        have Y58 := Lib.hid (Y57.out.next hb)
        have R58 := Lib.hid (R57.out.next hb)
        have Vx58 := Lib.hid (Vx57.out.next hb)
        clear B57 X57 Y57 R57 Vx57
        have Vy58 := Lib.hid (hh)
        clear hb AA ho hh
        go_wp2_with fail
        clear hHeld
        refine hK.out _ _ ?_ (fun hHeld => ?_)
        · exact ⟨X58.out.now.two, Y58.out.now.two⟩
        clear hK KK
        refine wpAnyH_take (i := 15) (v := ?_) rfl (by kernel_rfl) (by kernel_rfl) (by kernel_rfl) (fun _ _ _ h => h) (Or.inl ⟨by kernel_rfl, ?_⟩) (by assumption) ?_
        rotate_left
        · intro w hSw; (try dsimp only at hSw); go_simp; try with_reducible rfl
        refine wpAnyH_take (i := 16) (v := ?_) rfl (by kernel_rfl) (by kernel_rfl) (by kernel_rfl) (fun _ _ _ h => h) (Or.inl ⟨by kernel_rfl, ?_⟩) (by assumption) ?_
        rotate_left
        · intro w hSw; (try dsimp only at hSw); go_simp; try with_reducible rfl
        refine wpAnyH_take (i := 17) (v := ?_) rfl (by kernel_rfl) (by kernel_rfl) (by kernel_rfl) (fun _ _ _ h => h) (Or.inl ⟨by kernel_rfl, ?_⟩) (by assumption) ?_
        rotate_left
        · intro w hSw; (try dsimp only at hSw); go_simp; try with_reducible rfl
        refine wpAnyH_take (i := 18) (v := ?_) rfl (by kernel_rfl) (by kernel_rfl) (by kernel_rfl) (fun _ _ _ h => h) (Or.inl ⟨by kernel_rfl, ?_⟩) (by assumption) ?_
        rotate_left
        · intro w hSw; (try dsimp only at hSw); go_simp; try with_reducible rfl
        refine wpAnyH_take (i := 19) (v := ?_) rfl (by kernel_rfl) (by kernel_rfl) (by kernel_rfl) (fun _ _ _ h => h) (Or.inl ⟨by kernel_rfl, ?_⟩) (by assumption) ?_
        rotate_left
        · intro w hSw; (try dsimp only at hSw); go_simp; try with_reducible rfl
        refine wpAnyH_done (by kernel_rfl) ?_ _
        try simp only [Act.put, List.setIfInBounds_toArray, List.set_cons_zero, List.set_cons_succ, List.getElem_toArray, List.getElem_cons_zero, List.getElem_cons_succ]
      all_goals
        go_wp2_with fail
        go_meet
        exact ⟨py, qy, rfl, rfl, B58, R58, Vx58, _, _, Vy58, LXY⟩
    case rest =>
      obtain ⟨py, qy, rfl, rfl, B90, R90, Vx90, BU, CU, Vy90, LU⟩ := hcut
      obtain ⟨y0, y1⟩ := R90.out.now.two
      obtain ⟨f0, f1⟩ := R90.out.now.frees
      cases Z1 with
      | none =>
        go_wp2_with fail
        refine bodyPost_ret (v := .tuple #[.agg #[.slice none 0 0, .slice none 0 0], .bool false]) (by simp [results, Try.results29, go_sem, *]) rfl ⟨_, _, by rw [HR.out]; rfl, ?_, below_two B90.out _ (by omega) _ _⟩
        rw [HR.out]
        exact own2_nil _ (by rw [set2_size]; exact B90.out.size)
      | some R1 =>
        cases Z2 with
        | none =>
          go_wp2_with fail
          refine bodyPost_ret (v := .tuple #[.agg #[.slice none 0 0, .slice none 0 0], .bool false]) (by simp [results, Try.results29, go_sem, *]) rfl ⟨_, _, by rw [HR.out]; rfl, ?_, below_two B90.out _ (by omega) _ _⟩
          rw [HR.out]
          exact own2_nil _ (by rw [set2_size]; exact B90.out.size)
        | some R2 =>
          go_wp2_with fail
          refine bodyPost_ret (v := .tuple #[.agg #[.slice px R1.length qx, .slice py R2.length qy], .bool true]) (by simp [results, Try.results29, go_sem, *]) rfl ⟨_, _, by rw [HR.out]; rfl, ?_, below_two B90.out _ (by omega) _ _⟩
          rw [HR.out]
          have hBU : w.heap.size + 3 ≤ BU := by have := LV.out; have := LU.out; omega
          exact ⟨own2_lives, Nat.le_refl _, ⟨own_base (ownT_off2 (g := w.heap.size + 2) Vx90.out.now.1 (by have := LV.out; omega)) (by have := LV.out; omega), fun j hj => by rw [set2_size]; exact (World.ownsRow.lt Vx90.out.now.1 j hj).2⟩, ⟨own_base (ownT_off2 (g := w.heap.size + 2) Vy90.out.now.1 (by omega)) (by omega), fun j hj => by rw [set2_size]; exact (World.ownsRow.lt Vy90.out.now.1 j hj).2⟩, fun j h1 h2 => by have := Vx90.out.now.2 j h1; have := (World.ownsRow.lt Vy90.out.now.1 j h2).1; have := LU.out; omega⟩
theorem implChained (a1 a2 b1 b2 : Option Addr) (n1 n2 c1 c2 m1 m2 k1 k2 : Nat) (d1 d2 e1 e2 : List Tri3) (w : World) (h : Is2 w a1 a2 n1 n2 c1 c2 d1 d2) (k : Is2 w b1 b2 m1 m2 k1 k2 e1 e2) (s1 : Sm d1) (s2 : Sm d2) (s3 : Sm e1) (s4 : Sm e2) :
    Calls Try.prog 29 #[.agg #[.slice a1 n1 c1, .slice a2 n2 c2], .agg #[.slice b1 m1 k1, .slice b2 m2 k2]] w (Res2 (chainedO d1 d2 e1 e2) w) := by
  by_cases c : chainable d1 d2 e1 e2
  · exact implChainedYes a1 a2 b1 b2 n1 n2 c1 c2 m1 m2 k1 k2 d1 d2 e1 e2 w h k s1 s2 s3 s4 c
  · exact implChainedNo a1 a2 b1 b2 n1 n2 c1 c2 m1 m2 k1 k2 d1 d2 e1 e2 w h k s1 s2 s3 s4 c
end Go.Proofs.Ytofkploffcplhaa
/- The specification's Chained. -/
namespace Go.Proofs.Ytofkploffcplhaa
open Go.RowKit Go.WideShapes Go.Maps
theorem chainedO_most (d1 d2 e1 e2 : List Tri3) (h1 : SmAll d1 ∧ SmAll d2) (h2 : SmAll e1 ∧ SmAll e2) : (((chainedO d1 d2 e1 e2).getD ([], [])).1.length ≤ 80 ∧ ((chainedO d1 d2 e1 e2).getD ([], [])).2.length ≤ 80) ∧ (SmAll ((chainedO d1 d2 e1 e2).getD ([], [])).1 ∧ SmAll ((chainedO d1 d2 e1 e2).getD ([], [])).2) := by
  unfold chainedO
  split
  · rename_i h
    refine ⟨h.2, fun t ht => ?_, fun t ht => ?_⟩
    · rcases unionT_mem.1 ht with c | c
      · exact h1.1 t (outT_mem.1 c).1
      · exact h2.1 t (outT_mem.1 c).1
    · rcases unionT_mem.1 ht with c | c
      · exact h1.2 t (outT_mem.1 c).1
      · exact h2.2 t (outT_mem.1 c).1
  · exact ⟨by simp, fun t ht => by simp at ht, fun t ht => by simp at ht⟩
theorem plain_of {B : Nat} {w : World} {a : Option Addr} {n c : Nat} {ts : List Tri3} (h : OwnT B w (.slice a n c) ts) : Plain a := by
  rcases h.2 with ⟨e, _⟩ | ⟨g, c', cur, e, _⟩
  · simp only [Value.slice.injEq] at e; exact .inl e.1
  · simp only [Value.slice.injEq] at e; exact .inr ⟨g, 0, e.1⟩
theorem turn_set2 (W : World) (g : Nat) (x y : Value) : Turn g (g + 1) W ((W.setCell ⟨g, 0, none⟩ x).setCell ⟨g, 1, none⟩ y) :=
  ⟨rfl, rfl, rfl, by rw [set2_size]; exact Nat.le_refl _, fun k _ hk => set2_else W g x y k (by omega)⟩
theorem cells_set2 {g : Nat} {a b : Value} {T : TypeId} {W : World} (h : Holds g (g + 1) W (Cells g #[a, b] T)) (x y : Value) : Holds g (g + 1) ((W.setCell ⟨g, 0, none⟩ x).setCell ⟨g, 1, none⟩ y) (Cells g #[x, y] T) :=
  ⟨cells_lives _ _ _, by rw [set2_size]; exact h.le, by have := h.now; unfold Cells at this ⊢; simp [World.setCell, Array.getElem?_modify, this]⟩
theorem holds_realloc {B C : Nat} {W : World} {o : Obj} {p : World → Prop} (h : Holds B C (W.alloc o) p) (hc : C ≤ W.heap.size) (o' : Obj) : Holds B C (W.alloc o') p :=
  ⟨h.lives, by have := h.le; simp at *; omega, h.lives _ _ (fun k _ hk => by rw [Below.heap_alloc _ _ _ (by omega), Below.heap_alloc _ _ _ (by omega)]) h.now⟩
theorem below_realloc {B : Nat} {w W : World} {o : Obj} (h : Below B w (W.alloc o)) (hB : B ≤ W.heap.size) (o' : Obj) : Below B w (W.alloc o') :=
  ⟨h.os, h.tape, h.output, by have := h.size; simp at *; exact this, fun k hk => by rw [Below.heap_alloc _ _ _ (by omega), ← h.block k hk, Below.heap_alloc _ _ _ (by omega)]⟩
theorem unionT_sm {a b : List Tri3} (ha : Sm a) (hb : Sm b) : Sm (unionT a b) := fun t ht => (unionT_mem.1 ht).elim (ha t) (hb t)
set_option maxRecDepth 100000 in
set_option maxHeartbeats 6400000 in
theorem specChained (a1 a2 b1 b2 : Option Addr) (n1 n2 c1 c2 m1 m2 k1 k2 : Nat) (d1 d2 e1 e2 : List Tri3) (w : World) (h : Is2 w a1 a2 n1 n2 c1 c2 d1 d2) (k : Is2 w b1 b2 m1 m2 k1 k2 e1 e2) (s1 : Sm d1) (s2 : Sm d2) (s3 : Sm e1) (s4 : Sm e2) (l1 : n1 ≤ 1048576 ∧ n2 ≤ 1048576) (l2 : m1 ≤ 1048576 ∧ m2 ≤ 1048576) :
    Calls Try.prog 28 #[.agg #[.slice a1 n1 c1, .slice a2 n2 c2], .agg #[.slice b1 m1 k1, .slice b2 m2 k2]] w (Res2 (chainedO d1 d2 e1 e2) w) := by
  obtain ⟨W1, hW1⟩ : ∃ W, w.alloc (.cells #[.slice a1 n1 c1, .slice a2 n2 c2] 29) = W := ⟨_, rfl⟩
  obtain ⟨W2, hW2⟩ : ∃ W, W1.alloc (.cells #[.slice b1 m1 k1, .slice b2 m2 k2] 29) = W := ⟨_, rfl⟩
  obtain ⟨W3, hW3⟩ : ∃ W, W2.alloc (.cells #[.slice none 0 0, .slice none 0 0] 29) = W := ⟨_, rfl⟩
  have z1 : W1.heap.size = w.heap.size + 1 := by rw [← hW1]; simp
  have z2 : W2.heap.size = w.heap.size + 2 := by rw [← hW2]; simp [z1]
  have z3 : W3.heap.size = w.heap.size + 3 := by rw [← hW3]; simp [z2]
  have B0 : Hid (Below w.heap.size w W3) := Lib.hid (by rw [← hW3, ← hW2, ← hW1]; exact (((Below.refl w.heap.size w).alloc (Nat.le_refl _) _).alloc (by simp) _).alloc (by simp; omega) _)
  have X0 : Hid (Holds w.heap.size (w.heap.size + 1) W3 (Cells w.heap.size #[.slice a1 n1 c1, .slice a2 n2 c2] 29)) := Lib.hid (by rw [← hW3, ← hW2, ← hW1]; exact ((cells_new w _ _).alloc _).alloc _)
  have Y0 : Hid (Holds (w.heap.size + 1) (w.heap.size + 2) W3 (Cells (w.heap.size + 1) #[.slice b1 m1 k1, .slice b2 m2 k2] 29)) := Lib.hid (by
    have := (cells_new W1 #[.slice b1 m1 k1, .slice b2 m2 k2] 29).alloc (.cells #[.slice none 0 0, .slice none 0 0] 29)
    rw [hW2, hW3, z1] at this; exact this)
  have R0 : Hid (Holds (w.heap.size + 2) (w.heap.size + 3) W3 (Cells (w.heap.size + 2) #[.slice none 0 0, .slice none 0 0] 29)) := Lib.hid (by
    have := cells_new W2 #[.slice none 0 0, .slice none 0 0] 29
    rw [hW3, z2] at this; exact this)
  have HW := Lib.hid (And.intro hW1 (And.intro hW2 hW3))
  have HP := Lib.hid h
  have HQ := Lib.hid k
  have S := Lib.hid (And.intro (And.intro s1 s2) (And.intro s3 s4))
  have HL := Lib.hid (And.intro (And.intro h.1.len h.2.len) (And.intro k.1.len k.2.len))
  have C1 : Hid (∀ W, Below w.heap.size w W → Calls Try.prog 11 #[.agg #[.slice a1 n1 c1, .slice a2 n2 c2]] W fun e w' => e = .returned (.bool (patchOk d1 d2)) ∧ Below W.heap.size W w') := Lib.hid (fun W hb => specPatchOk a1 a2 n1 n2 c1 c2 d1 d2 W (h.next hb) s1 s2 l1.1 l1.2)
  have C2 : Hid (∀ W, Below w.heap.size w W → Calls Try.prog 11 #[.agg #[.slice b1 m1 k1, .slice b2 m2 k2]] W fun e w' => e = .returned (.bool (patchOk e1 e2)) ∧ Below W.heap.size W w') := Lib.hid (fun W hb => specPatchOk b1 b2 m1 m2 k1 k2 e1 e2 W (k.next hb) s3 s4 l2.1 l2.2)
  clear h k s1 s2 s3 s4 z1 z2 z3 hW1 hW2 hW3
  cases g1 : patchOk d1 d2
  · rw [g1] at C1
    have HR : Hid (chainedO d1 d2 e1 e2 = none) := Lib.hid (if_neg (fun c => by have := c.1.1; rw [g1] at this; cases this))
    clear g1
    go_enter Try.func28, Try.ntmps28
    obtain ⟨x0, x1⟩ := X0.out.now.two
    go_wp2_with fail
    rw [HW.out.1, HW.out.2.1, HW.out.2.2]
    refine (C1.out _ B0.out).mono ?_
    rintro e w1 ⟨rfl, hb⟩
    clear x0 x1
    have B1 := Lib.hid (B0.out.trans (hb.mono B0.out.size))
    have X1 := Lib.hid (X0.out.next hb)
    have Y1 := Lib.hid (Y0.out.next hb)
    have R1 := Lib.hid (R0.out.next hb)
    clear B0 X0 Y0 R0
    clear hb
    obtain ⟨y0, y1⟩ := R1.out.now.two
    obtain ⟨f0, f1⟩ := R1.out.now.frees
    go_wp2_with fail
    refine bodyPost_ret (v := .tuple #[.agg #[.slice none 0 0, .slice none 0 0], .bool false]) (by simp [results, Try.results28, go_sem, *]) rfl ⟨_, _, by rw [HR.out]; rfl, ?_, below_two B1.out _ (by omega) _ _⟩
    rw [HR.out]
    exact own2_nil _ (by rw [set2_size]; exact B1.out.size)
  rw [g1] at C1
  have G1 := Lib.hid g1
  clear g1
  cases g2 : patchOk e1 e2
  · rw [g2] at C2
    have HR : Hid (chainedO d1 d2 e1 e2 = none) := Lib.hid (if_neg (fun c => by have := c.1.2.1; rw [g2] at this; cases this))
    clear g2
    go_enter Try.func28, Try.ntmps28
    obtain ⟨x0, x1⟩ := X0.out.now.two
    go_wp2_with fail
    rw [HW.out.1, HW.out.2.1, HW.out.2.2]
    refine (C1.out _ B0.out).mono ?_
    rintro e w1 ⟨rfl, hb⟩
    clear x0 x1
    have B1 := Lib.hid (B0.out.trans (hb.mono B0.out.size))
    have X1 := Lib.hid (X0.out.next hb)
    have Y1 := Lib.hid (Y0.out.next hb)
    have R1 := Lib.hid (R0.out.next hb)
    clear B0 X0 Y0 R0
    clear hb
    obtain ⟨x0, x1⟩ := Y1.out.now.two
    go_wp2_with fail
    refine (C2.out _ B1.out).mono ?_
    rintro e w2 ⟨rfl, hb⟩
    clear x0 x1
    have B2 := Lib.hid (B1.out.trans (hb.mono B1.out.size))
    have X2 := Lib.hid (X1.out.next hb)
    have Y2 := Lib.hid (Y1.out.next hb)
    have R2 := Lib.hid (R1.out.next hb)
    clear B1 X1 Y1 R1
    clear hb
    obtain ⟨y0, y1⟩ := R2.out.now.two
    obtain ⟨f0, f1⟩ := R2.out.now.frees
    go_wp2_with fail
    refine bodyPost_ret (v := .tuple #[.agg #[.slice none 0 0, .slice none 0 0], .bool false]) (by simp [results, Try.results28, go_sem, *]) rfl ⟨_, _, by rw [HR.out]; rfl, ?_, below_two B2.out _ (by omega) _ _⟩
    rw [HR.out]
    exact own2_nil _ (by rw [set2_size]; exact B2.out.size)
  rw [g2] at C2
  have G2 := Lib.hid g2
  obtain ⟨p1, p2, _⟩ := patchOk_iff.1 G1.out
  obtain ⟨q1, q2, _⟩ := patchOk_iff.1 g2
  have la1 : n1 ≤ 80 := by have := graphOk_len p1; have := HL.out.1.1; omega
  have la2 : n2 ≤ 80 := by have := graphOk_len p2; have := HL.out.1.2; omega
  have la3 : m1 ≤ 80 := by have := graphOk_len q1; have := HL.out.2.1; omega
  have la4 : m2 ≤ 80 := by have := graphOk_len q2; have := HL.out.2.2; omega
  have PG := Lib.hid (And.intro p1 (And.intro p2 (And.intro q1 q2)))
  clear g2 p1 p2 q1 q2
  go_enter Try.func28, Try.ntmps28
  obtain ⟨x0, x1⟩ := X0.out.now.two
  go_wp2_with fail
  rw [HW.out.1, HW.out.2.1, HW.out.2.2]
  refine (C1.out _ B0.out).mono ?_
  rintro e w1 ⟨rfl, hb⟩
  clear x0 x1
  have B1 := Lib.hid (B0.out.trans (hb.mono B0.out.size))
  have X1 := Lib.hid (X0.out.next hb)
  have Y1 := Lib.hid (Y0.out.next hb)
  have R1 := Lib.hid (R0.out.next hb)
  clear B0 X0 Y0 R0
  clear hb
  obtain ⟨x0, x1⟩ := Y1.out.now.two
  go_wp2_with fail
  refine (C2.out _ B1.out).mono ?_
  rintro e w2 ⟨rfl, hb⟩
  clear x0 x1
  have B2 := Lib.hid (B1.out.trans (hb.mono B1.out.size))
  have X2 := Lib.hid (X1.out.next hb)
  have Y2 := Lib.hid (Y1.out.next hb)
  have R2 := Lib.hid (R1.out.next hb)
  clear B1 X1 Y1 R1
  clear hb
  obtain ⟨x0, x1⟩ := X2.out.now.two
  obtain ⟨y0, y1⟩ := Y2.out.now.two
  go_wp2_with fail
  clear x0 x1 y0 y1
  go_loopw [6] (fun i wr => ∃ k : Nat, k ≤ m1 ∧ i = .int .i64 k ∧ Hid (anyT d1 (e1.take k) = false) ∧ Hid (Holds w.heap.size (w.heap.size + 1) wr (Cells w.heap.size #[.slice a1 n1 c1, .slice a2 n2 c2] 29)) ∧ Hid (Holds (w.heap.size + 1) (w.heap.size + 2) wr (Cells (w.heap.size + 1) #[.slice b1 m1 k1, .slice b2 m2 k2] 29)) ∧ Hid (Holds (w.heap.size + 2) (w.heap.size + 3) wr (Cells (w.heap.size + 2) #[.slice none 0 0, .slice none 0 0] 29)) ∧ Hid (Below w.heap.size w wr)) (fun i _ => m1 - (intOf i).toNat)
  case atStart => exact ⟨0, Nat.zero_le _, rfl, Lib.hid (by simp [anyT]), X2, Y2, R2, B2⟩
  case round =>
    clear X2 Y2 R2 B2
    obtain ⟨k, hk, rfl, hno, hX, hY, hR, hB⟩ := hrel
    have hk6 : (0 : Int) ≤ (k : Int) := by omega
    by_cases hlt : k < m1
    · have hk7 : (k : Int) < (m1 : Int) := by omega
      obtain ⟨bb, off, hbe, hb, hl', hm, hts, hcs⟩ := HQ.out.1.cells (by omega)
      subst hbe
      have ht : e1[k]? = some (e1[k]'(by omega)) := List.getElem?_eq_getElem (by omega)
      have HS : Hid (e1.take (k + 1) = e1.take k ++ [e1[k]'(by omega)]) := Lib.hid (List.take_succ_eq_append_getElem (by omega))
      obtain ⟨g0, g1, g2, q0, q1, q2⟩ := hcs k _ ht
      rw [← hB.out.cell (p := ⟨bb, _, none⟩) hb] at g0 g1 g2
      have HT1 := Lib.hid ht
      generalize e1[k]'(by omega) = u at ht g0 g1 g2 q0 q1 q2 HS HT1
      obtain ⟨u0, u1, u2⟩ := u
      simp only at g0 g1 g2
      have C := specHas2 a1 n1 c1 d1 u0 u1 u2 wr.drew (HP.out.1.next hB.out.drew) (by omega)
      have hbw : bb < wr.heap.size := Nat.lt_of_lt_of_le hb hB.out.size
      have DD : Hid (∀ W, Below wr.heap.size wr W → W.cell? ⟨bb, off + k * 3, none⟩ = some (.string u0) ∧ W.cell? ⟨bb, off + k * 3 + 1, none⟩ = some (.string u1) ∧ W.cell? ⟨bb, off + k * 3 + 2, none⟩ = some (.string u2)) := Lib.hid (fun W hW => ⟨(hW.cell (p := ⟨bb, _, none⟩) hbw).trans g0, (hW.cell (p := ⟨bb, _, none⟩) hbw).trans g1, (hW.cell (p := ⟨bb, _, none⟩) hbw).trans g2⟩)
      clear hts hcs hm q0 q1 q2 hl' ht g0 g1 g2
      have HX0 := Lib.hid (Below.drew (Below.refl wr.heap.size wr))
      cases hq : decide ((u0, u1, u2) ∈ d1)
      all_goals
        rw [hq] at C
        have HC := Lib.hid C
        have HQQ := Lib.hid hq
        clear C hq
        obtain ⟨y0, y1⟩ := hY.out.now.two
        go_wp2_with fail
        clear y0 y1
        go_region_held3 (fun w' => (w'.cell? ⟨w.heap.size, 0, none⟩ = some (.slice a1 n1 c1) ∧ w'.cell? ⟨w.heap.size, 1, none⟩ = some (.slice a2 n2 c2)) ∧ (w'.cell? ⟨w.heap.size + 1, 0, none⟩ = some (.slice (some ⟨bb, off, none⟩) m1 k1) ∧ w'.cell? ⟨w.heap.size + 1, 1, none⟩ = some (.slice b2 m2 k2)) ∧ w'.cell? ⟨bb, off + k * 3, none⟩ = some (.string u0) ∧ w'.cell? ⟨bb, off + k * 3 + 1, none⟩ = some (.string u1) ∧ w'.cell? ⟨bb, off + k * 3 + 2, none⟩ = some (.string u2))
          (first | with_reducible exact ⟨X1.out.now.two, Y1.out.now.two, DD.out _ D1.out⟩ | with_reducible exact ⟨hX.out.drew.now.two, hY.out.drew.now.two, DD.out _ HX0.out⟩)
          (first | (go_at_call 37; refine HC.out.mono ?_; rintro e w3 ⟨rfl, hb1⟩; have B1 := Lib.hid (hB.out.drew.trans (hb1.mono hB.out.size)); have X1 := Lib.hid (hX.out.drew.next hb1); have Y1 := Lib.hid (hY.out.drew.next hb1); have R1 := Lib.hid (hR.out.drew.next hb1); have D1 := Lib.hid (HX0.out.trans (hb1.mono (Nat.le_refl _))); clear hb1))
      · have HN : Hid (anyT d1 (e1.take (k + 1)) = false) := Lib.hid (by rw [HS.out, anyT_snoc, hno.out, HQQ.out]; rfl)
        clear hno HQQ DD HC
        go_wp2_with fail
        go_roundw
        case rel => exact ⟨k + 1, by omega, by go_num, HN, X1, Y1, R1, B1⟩
        case measure => simp [intOf]; omega
      · have HR : Hid (chainedO d1 d2 e1 e2 = none) := Lib.hid (if_neg (fun c => anyT_no.1 c.1.2.2.1 _ (of_decide_eq_true HQQ.out) (List.mem_of_getElem? HT1.out)))
        clear hno HQQ DD HC
        obtain ⟨y0, y1⟩ := R1.out.now.two
        obtain ⟨f0, f1⟩ := R1.out.now.frees
        go_wp2_with fail
        refine bodyPost_ret (v := .tuple #[.agg #[.slice none 0 0, .slice none 0 0], .bool false]) (by simp [results, Try.results28, go_sem, *]) rfl ⟨_, _, by rw [HR.out]; rfl, ?_, below_two B1.out _ (by omega) _ _⟩
        rw [HR.out]
        exact own2_nil _ (by rw [set2_size]; exact B1.out.size)
    obtain rfl : k = m1 := by omega
    have HANY6 : Hid (anyT d1 e1 = false) := Lib.hid (by
      have := hno.out
      rwa [List.take_of_length_le (by rw [HL.out.2.1]; exact Nat.le_refl _)] at this)
    clear hno hlt
    obtain ⟨y0, y1⟩ := hY.out.now.two
    go_wp2_with fail
    clear y0 y1
    go_loopw [7] (fun i wr => ∃ j : Nat, j ≤ m2 ∧ i = .int .i64 j ∧ Hid (anyT d2 (e2.take j) = false) ∧ Hid (Holds w.heap.size (w.heap.size + 1) wr (Cells w.heap.size #[.slice a1 n1 c1, .slice a2 n2 c2] 29)) ∧ Hid (Holds (w.heap.size + 1) (w.heap.size + 2) wr (Cells (w.heap.size + 1) #[.slice b1 k k1, .slice b2 m2 k2] 29)) ∧ Hid (Holds (w.heap.size + 2) (w.heap.size + 3) wr (Cells (w.heap.size + 2) #[.slice none 0 0, .slice none 0 0] 29)) ∧ Hid (Below w.heap.size w wr)) (fun i _ => m2 - (intOf i).toNat)
    case atStart => exact ⟨0, Nat.zero_le _, rfl, Lib.hid (by simp [anyT]), hX, hY, hR, hB⟩
    case round =>
      clear hX hY hR hB
      obtain ⟨j, hj, rfl, hno, hX, hY, hR, hB⟩ := hrel
      have hj6 : (0 : Int) ≤ (j : Int) := by omega
      by_cases hlt : j < m2
      · have hj7 : (j : Int) < (m2 : Int) := by omega
        obtain ⟨bb, off, hbe, hb, hl', hm, hts, hcs⟩ := HQ.out.2.cells (by omega)
        subst hbe
        have ht : e2[j]? = some (e2[j]'(by omega)) := List.getElem?_eq_getElem (by omega)
        have HS : Hid (e2.take (j + 1) = e2.take j ++ [e2[j]'(by omega)]) := Lib.hid (List.take_succ_eq_append_getElem (by omega))
        obtain ⟨g0, g1, g2, q0, q1, q2⟩ := hcs j _ ht
        rw [← hB.out.cell (p := ⟨bb, _, none⟩) hb] at g0 g1 g2
        have HT1 := Lib.hid ht
        generalize e2[j]'(by omega) = u at ht g0 g1 g2 q0 q1 q2 HS HT1
        obtain ⟨u0, u1, u2⟩ := u
        simp only at g0 g1 g2
        have C := specHas2 a2 n2 c2 d2 u0 u1 u2 wr.drew (HP.out.2.next hB.out.drew) (by omega)
        have hbw : bb < wr.heap.size := Nat.lt_of_lt_of_le hb hB.out.size
        have DD : Hid (∀ W, Below wr.heap.size wr W → W.cell? ⟨bb, off + j * 3, none⟩ = some (.string u0) ∧ W.cell? ⟨bb, off + j * 3 + 1, none⟩ = some (.string u1) ∧ W.cell? ⟨bb, off + j * 3 + 2, none⟩ = some (.string u2)) := Lib.hid (fun W hW => ⟨(hW.cell (p := ⟨bb, _, none⟩) hbw).trans g0, (hW.cell (p := ⟨bb, _, none⟩) hbw).trans g1, (hW.cell (p := ⟨bb, _, none⟩) hbw).trans g2⟩)
        clear hts hcs hm q0 q1 q2 hl' ht g0 g1 g2
        have HX0 := Lib.hid (Below.drew (Below.refl wr.heap.size wr))
        cases hq : decide ((u0, u1, u2) ∈ d2)
        all_goals
          rw [hq] at C
          have HC := Lib.hid C
          have HQQ := Lib.hid hq
          clear C hq
          obtain ⟨y0, y1⟩ := hY.out.now.two
          go_wp2_with fail
          clear y0 y1
          go_region_held3 (fun w' => (w'.cell? ⟨w.heap.size, 0, none⟩ = some (.slice a1 n1 c1) ∧ w'.cell? ⟨w.heap.size, 1, none⟩ = some (.slice a2 n2 c2)) ∧ (w'.cell? ⟨w.heap.size + 1, 0, none⟩ = some (.slice b1 k k1) ∧ w'.cell? ⟨w.heap.size + 1, 1, none⟩ = some (.slice (some ⟨bb, off, none⟩) m2 k2)) ∧ w'.cell? ⟨bb, off + j * 3, none⟩ = some (.string u0) ∧ w'.cell? ⟨bb, off + j * 3 + 1, none⟩ = some (.string u1) ∧ w'.cell? ⟨bb, off + j * 3 + 2, none⟩ = some (.string u2))
            (first | with_reducible exact ⟨X1.out.now.two, Y1.out.now.two, DD.out _ D1.out⟩ | with_reducible exact ⟨hX.out.drew.now.two, hY.out.drew.now.two, DD.out _ HX0.out⟩)
            (first | (go_at_call 37; refine HC.out.mono ?_; rintro e w3 ⟨rfl, hb1⟩; have B1 := Lib.hid (hB.out.drew.trans (hb1.mono hB.out.size)); have X1 := Lib.hid (hX.out.drew.next hb1); have Y1 := Lib.hid (hY.out.drew.next hb1); have R1 := Lib.hid (hR.out.drew.next hb1); have D1 := Lib.hid (HX0.out.trans (hb1.mono (Nat.le_refl _))); clear hb1))
        · have HN : Hid (anyT d2 (e2.take (j + 1)) = false) := Lib.hid (by rw [HS.out, anyT_snoc, hno.out, HQQ.out]; rfl)
          clear hno HQQ DD HC
          go_wp2_with fail
          go_roundw
          case rel => exact ⟨j + 1, by omega, by go_num, HN, X1, Y1, R1, B1⟩
          case measure => simp [intOf]; omega
        · have HR : Hid (chainedO d1 d2 e1 e2 = none) := Lib.hid (if_neg (fun c => anyT_no.1 c.1.2.2.2 _ (of_decide_eq_true HQQ.out) (List.mem_of_getElem? HT1.out)))
          clear hno HQQ DD HC
          obtain ⟨y0, y1⟩ := R1.out.now.two
          obtain ⟨f0, f1⟩ := R1.out.now.frees
          go_wp2_with fail
          refine bodyPost_ret (v := .tuple #[.agg #[.slice none 0 0, .slice none 0 0], .bool false]) (by simp [results, Try.results28, go_sem, *]) rfl ⟨_, _, by rw [HR.out]; rfl, ?_, below_two B1.out _ (by omega) _ _⟩
          rw [HR.out]
          exact own2_nil _ (by rw [set2_size]; exact B1.out.size)
      obtain rfl : j = m2 := by omega
      have HANY7 : Hid (anyT d2 e2 = false) := Lib.hid (by
        have := hno.out
        rwa [List.take_of_length_le (by rw [HL.out.2.2]; exact Nat.le_refl _)] at this)
      clear hno hlt
      obtain ⟨y0, y1⟩ := hY.out.now.two
      go_wp2_with fail
      clear y0 y1
      have HCH : Hid (chainable d1 d2 e1 e2) := Lib.hid ⟨G1.out, G2.out, HANY6.out, HANY7.out⟩
      have X0 := hX
      have Y0 := hY
      have R0 := hR
      have B0 := hB
      clear hX hY hR hB
      go_cut [8] from 9 (fun s8 wx => ∃ g px qx py qy, s8 = .pointer (some ⟨g, 0, none⟩) ∧ Hid (Below w.heap.size w wx) ∧ Hid (Holds (w.heap.size + 2) (w.heap.size + 3) wx (Cells (w.heap.size + 2) #[.slice none 0 0, .slice none 0 0] 29)) ∧ Hid (Holds g (g + 1) wx (Cells g #[.slice px (chDrop d1 d2 e1 e2).length qx, .slice py (chAdd d1 d2 e1 e2).length qy] 29)) ∧ ∃ B C B2 C2, Hid (Holds B C wx (OwnC B C (.slice px (chDrop d1 d2 e1 e2).length qx) (chDrop d1 d2 e1 e2))) ∧ Hid (Holds B2 C2 wx (OwnC B2 C2 (.slice py (chAdd d1 d2 e1 e2).length qy) (chAdd d1 d2 e1 e2))) ∧ Hid (w.heap.size + 3 ≤ B ∧ w.heap.size + 3 ≤ B2 ∧ C ≤ B2))
      case first =>
        have B1 := Lib.hid B0.out.drew
        have X1 := Lib.hid X0.out.drew
        have Y1 := Lib.hid Y0.out.drew
        have R1 := Lib.hid R0.out.drew
        clear B0 X0 Y0 R0
        refine wp_region_held_drew (S := (fun w' => (w'.cell? ⟨w.heap.size, 0, none⟩ = some (.slice a1 n1 c1) ∧ w'.cell? ⟨w.heap.size, 1, none⟩ = some (.slice a2 n2 c2)) ∧ (w'.cell? ⟨w.heap.size + 1, 0, none⟩ = some (.slice b1 k k1) ∧ w'.cell? ⟨w.heap.size + 1, 1, none⟩ = some (.slice b2 j k2)))) (by kernel_rfl) ?_ (fun hHeld => ?_)
        · exact ⟨X1.out.now.two, Y1.out.now.two⟩
        generalize hV0 : wr.drew = V0 at B1 X1 Y1 R1 hHeld ⊢
        clear hV0
        refine wpAnyH_take (i := 0) (v := ?_) rfl (by kernel_rfl) (by kernel_rfl) (by kernel_rfl) (fun _ _ _ h => h) (Or.inl ⟨by kernel_rfl, ?_⟩) (by assumption) ?_
        rotate_left
        · intro w hSw; (try dsimp only at hSw); go_simp; try with_reducible rfl
        refine wpAnyH_take (i := 1) (v := ?_) rfl (by kernel_rfl) (by kernel_rfl) (by kernel_rfl) (fun _ _ _ h => h) (Or.inl ⟨by kernel_rfl, ?_⟩) (by assumption) ?_
        rotate_left
        · intro w hSw; (try dsimp only at hSw); go_simp; try with_reducible rfl
        refine wpAnyH_take (i := 2) (v := ?_) rfl (by kernel_rfl) (by kernel_rfl) (by kernel_rfl) (fun _ _ _ h => h) (Or.inl ⟨by kernel_rfl, ?_⟩) (by assumption) ?_
        rotate_left
        · intro w hSw; (try dsimp only at hSw); go_simp; try with_reducible rfl
        refine wpAnyH_take (i := 3) (v := ?_) rfl (by kernel_rfl) (by kernel_rfl) (by kernel_rfl) (fun _ _ _ h => h) (Or.inl ⟨by kernel_rfl, ?_⟩) (by assumption) ?_
        rotate_left
        · intro w hSw; (try dsimp only at hSw); go_simp; try with_reducible rfl
        refine wpAnyH_take (i := 5) (v := ?_) rfl (by kernel_rfl) (by kernel_rfl) (by kernel_rfl) (fun _ _ _ h => h) (Or.inl ⟨by kernel_rfl, ?_⟩) (by assumption) ?_
        rotate_left
        · intro w hSw; (try dsimp only at hSw); go_simp; try with_reducible rfl
        refine wpAnyH_take (i := 6) (v := ?_) rfl (by kernel_rfl) (by kernel_rfl) (by kernel_rfl) (fun _ _ _ h => h) (Or.inl ⟨by kernel_rfl, ?_⟩) (by assumption) ?_
        rotate_left
        · intro w hSw; (try dsimp only at hSw); go_simp; try with_reducible rfl
        refine wpAnyH_take (i := 7) (v := ?_) rfl (by kernel_rfl) (by kernel_rfl) (by kernel_rfl) (fun _ _ _ h => h) (Or.inl ⟨by kernel_rfl, ?_⟩) (by assumption) ?_
        rotate_left
        · intro w hSw; (try dsimp only at hSw); go_simp; try with_reducible rfl
        refine wpAnyH_take (i := 8) (v := ?_) rfl (by kernel_rfl) (by kernel_rfl) (by kernel_rfl) (fun _ _ _ h => h) (Or.inl ⟨by kernel_rfl, ?_⟩) (by assumption) ?_
        rotate_left
        · intro w hSw; (try dsimp only at hSw); go_simp; try with_reducible rfl
        refine wpAnyH_take (i := 11) (v := ?_) rfl (by kernel_rfl) (by kernel_rfl) (by kernel_rfl) (fun _ _ _ h => h) (Or.inl ⟨by kernel_rfl, ?_⟩) (by assumption) ?_
        rotate_left
        · intro w hSw; (try dsimp only at hSw); go_simp; try with_reducible rfl
        refine wpAnyH_take (i := 12) (v := ?_) rfl (by kernel_rfl) (by kernel_rfl) (by kernel_rfl) (fun _ _ _ h => h) (Or.inl ⟨by kernel_rfl, ?_⟩) (by assumption) ?_
        rotate_left
        · intro w hSw; (try dsimp only at hSw); go_simp; try with_reducible rfl
        refine wpAnyH_take (i := 13) (v := ?_) rfl (by kernel_rfl) (by kernel_rfl) (by kernel_rfl) (fun _ _ _ h => h) (Or.inl ⟨by kernel_rfl, ?_⟩) (by assumption) ?_
        rotate_left
        · intro w hSw; (try dsimp only at hSw); go_simp; try with_reducible rfl
        refine wpAnyH_take (i := 14) (v := ?_) rfl (by kernel_rfl) (by kernel_rfl) (by kernel_rfl) (fun _ _ _ h => h) (Or.inl ⟨by kernel_rfl, ?_⟩) (by assumption) ?_
        rotate_left
        · intro w hSw; (try dsimp only at hSw); go_simp; try with_reducible rfl
        refine wpAnyH_take (i := 16) (v := ?_) rfl (by kernel_rfl) (by kernel_rfl) (by kernel_rfl) (fun _ _ _ h => h) (Or.inl ⟨by kernel_rfl, ?_⟩) (by assumption) ?_
        rotate_left
        · intro w hSw; (try dsimp only at hSw); go_simp; try with_reducible rfl
        refine wpAnyH_take (i := 17) (v := ?_) rfl (by kernel_rfl) (by kernel_rfl) (by kernel_rfl) (fun _ _ _ h => h) (Or.inl ⟨by kernel_rfl, ?_⟩) (by assumption) ?_
        rotate_left
        · intro w hSw; (try dsimp only at hSw); go_simp; try with_reducible rfl
        refine wpAnyH_take (i := 18) (v := ?_) rfl (by kernel_rfl) (by kernel_rfl) (by kernel_rfl) (fun _ _ _ h => h) (Or.inl ⟨by kernel_rfl, ?_⟩) (by assumption) ?_
        rotate_left
        · intro w hSw; (try dsimp only at hSw); go_simp; try with_reducible rfl
        refine wpAnyH_take (i := 19) (v := ?_) rfl (by kernel_rfl) (by kernel_rfl) (by kernel_rfl) (fun _ _ _ h => h) (Or.inl ⟨by kernel_rfl, ?_⟩) (by assumption) ?_
        rotate_left
        · intro w hSw; (try dsimp only at hSw); go_simp; try with_reducible rfl
        refine wpAnyH_ready (rs := [4, 23]) (by kernel_rfl) (by simp) ?_
        refine AllReadyH.cons rfl (fun KK hK => ?g1_4) (AllReadyH.cons rfl (fun KK hK => ?g1_23) AllReadyH.nil)
        case' g1_4 =>
          go_simp
          refine (specLess14 a1 b2 n1 c1 j k2 d1 e2 _ (HP.out.1.next B1.out) (HQ.out.2.next B1.out) (by omega) (by omega)).mono ?_
          rintro e z4 ⟨v, rfl, ho, hb⟩
          obtain ⟨p1, q1, rfl, hh⟩ := ownC_shape ho hb rfl
          have B2 := Lib.hid (B1.out.trans (hb.mono B1.out.size))
          have X2 := Lib.hid (X1.out.next hb)
          have Y2 := Lib.hid (Y1.out.next hb)
          have R2 := Lib.hid (R1.out.next hb)
          clear B1 X1 Y1 R1
          have T12 := Lib.hid (hh)
          clear hb ho hh
          go_wp2_with fail
          clear hHeld
          refine hK.out _ _ ?_ (fun hHeld => ?_)
          · exact ⟨X2.out.now.two, Y2.out.now.two⟩
          clear hK KK
          refine wpAnyH_ready (rs := [9, 23]) (by kernel_rfl) (by simp) ?_
          refine AllReadyH.cons rfl (fun KK hK => ?g2_9) (AllReadyH.cons rfl (fun KK hK => ?g2_23) AllReadyH.nil)
          case' g2_9 =>
            go_simp
            refine (specLess14 b1 a2 k k1 n2 c2 e1 d2 _ (HQ.out.1.next B2.out) (HP.out.2.next B2.out) (by omega) (by omega)).mono ?_
            rintro e z9 ⟨v, rfl, ho, hb⟩
            obtain ⟨p2, q2, rfl, hh⟩ := ownC_shape ho hb rfl
            have B3 := Lib.hid (B2.out.trans (hb.mono B2.out.size))
            have X3 := Lib.hid (X2.out.next hb)
            have Y3 := Lib.hid (Y2.out.next hb)
            have R3 := Lib.hid (R2.out.next hb)
            have T13 := Lib.hid (T12.out.next hb)
            clear B2 X2 Y2 R2 T12
            have T23 := Lib.hid (hh)
            clear hb ho hh
            go_wp2_with fail
            clear hHeld
            refine hK.out _ _ ?_ (fun hHeld => ?_)
            · exact ⟨X3.out.now.two, Y3.out.now.two⟩
            clear hK KK
            refine wpAnyH_ready (rs := [10, 23]) (by kernel_rfl) (by simp) ?_
            refine AllReadyH.cons rfl (fun KK hK => ?g3_10) (AllReadyH.cons rfl (fun KK hK => ?g3_23) AllReadyH.nil)
            case' g3_10 =>
              go_simp
              have I1 := T13.out.now.read (sm_most (outT_sm S.out.1.1)) rfl
              have I2 := T23.out.now.read (sm_most (outT_sm S.out.2.1)) rfl
              have LWx := Lib.hid (And.intro R3.out.le True.intro)
              refine (specUnionL p1 p2 _ q1 _ q2 (outT d1 e2) (outT e1 d2) _ I1 (plain_of T13.out.now.1) I2 (outT_graph_len PG.out.1) (outT_graph_len PG.out.2.2.1)).mono ?_
              rintro e z10 ⟨v, rfl, ho, hb⟩
              obtain ⟨px, qx, rfl, hh⟩ := ownC_shape ho hb rfl
              clear I1 I2
              clear T13
              clear T23
              have B4 := Lib.hid (B3.out.trans (hb.mono B3.out.size))
              have X4 := Lib.hid (X3.out.next hb)
              have Y4 := Lib.hid (Y3.out.next hb)
              have R4 := Lib.hid (R3.out.next hb)
              clear B3 X3 Y3 R3
              have Ux4 := Lib.hid (hh)
              clear hb ho hh
              go_wp2_with fail
              clear hHeld
              refine hK.out _ _ ?_ (fun hHeld => ?_)
              · exact ⟨X4.out.now.two, Y4.out.now.two⟩
              clear hK KK
              refine wpAnyH_ready (rs := [15, 23]) (by kernel_rfl) (by simp) ?_
              refine AllReadyH.cons rfl (fun KK hK => ?g4_15) (AllReadyH.cons rfl (fun KK hK => ?g4_23) AllReadyH.nil)
              case' g4_15 =>
                go_simp
                refine (specLess14 a2 b1 n2 c2 k k1 d2 e1 _ (HP.out.2.next B4.out) (HQ.out.1.next B4.out) (by omega) (by omega)).mono ?_
                rintro e z15 ⟨v, rfl, ho, hb⟩
                obtain ⟨p3, q3, rfl, hh⟩ := ownC_shape ho hb rfl
                have B5 := Lib.hid (B4.out.trans (hb.mono B4.out.size))
                have X5 := Lib.hid (X4.out.next hb)
                have Y5 := Lib.hid (Y4.out.next hb)
                have R5 := Lib.hid (R4.out.next hb)
                have Ux5 := Lib.hid (Ux4.out.next hb)
                clear B4 X4 Y4 R4 Ux4
                have T35 := Lib.hid (hh)
                clear hb ho hh
                go_wp2_with fail
                clear hHeld
                refine hK.out _ _ ?_ (fun hHeld => ?_)
                · exact ⟨X5.out.now.two, Y5.out.now.two⟩
                clear hK KK
                refine wpAnyH_ready (rs := [20, 23]) (by kernel_rfl) (by simp) ?_
                refine AllReadyH.cons rfl (fun KK hK => ?g5_20) (AllReadyH.cons rfl (fun KK hK => ?g5_23) AllReadyH.nil)
                case' g5_20 =>
                  go_simp
                  refine (specLess14 b2 a1 j k2 n1 c1 e2 d1 _ (HQ.out.2.next B5.out) (HP.out.1.next B5.out) (by omega) (by omega)).mono ?_
                  rintro e z20 ⟨v, rfl, ho, hb⟩
                  obtain ⟨p4, q4, rfl, hh⟩ := ownC_shape ho hb rfl
                  have B6 := Lib.hid (B5.out.trans (hb.mono B5.out.size))
                  have X6 := Lib.hid (X5.out.next hb)
                  have Y6 := Lib.hid (Y5.out.next hb)
                  have R6 := Lib.hid (R5.out.next hb)
                  have Ux6 := Lib.hid (Ux5.out.next hb)
                  have T36 := Lib.hid (T35.out.next hb)
                  clear B5 X5 Y5 R5 Ux5 T35
                  have T46 := Lib.hid (hh)
                  clear hb ho hh
                  go_wp2_with fail
                  clear hHeld
                  refine hK.out _ _ ?_ (fun hHeld => ?_)
                  · exact ⟨X6.out.now.two, Y6.out.now.two⟩
                  clear hK KK
                  refine wpAnyH_ready (rs := [21, 23]) (by kernel_rfl) (by simp) ?_
                  refine AllReadyH.cons rfl (fun KK hK => ?g6_21) (AllReadyH.cons rfl (fun KK hK => ?g6_23) AllReadyH.nil)
                  case' g6_21 =>
                    go_simp
                    have I1 := T36.out.now.read (sm_most (outT_sm S.out.1.2)) rfl
                    have I2 := T46.out.now.read (sm_most (outT_sm S.out.2.2)) rfl
                    have LWy := Lib.hid (And.intro R6.out.le True.intro)
                    have LXY := Lib.hid Ux6.out.le
                    refine (specUnionL p3 p4 _ q3 _ q4 (outT d2 e1) (outT e2 d1) _ I1 (plain_of T36.out.now.1) I2 (outT_graph_len PG.out.2.1) (outT_graph_len PG.out.2.2.2)).mono ?_
                    rintro e z21 ⟨v, rfl, ho, hb⟩
                    obtain ⟨py, qy, rfl, hh⟩ := ownC_shape ho hb rfl
                    clear I1 I2
                    clear T36
                    clear T46
                    have B7 := Lib.hid (B6.out.trans (hb.mono B6.out.size))
                    have X7 := Lib.hid (X6.out.next hb)
                    have Y7 := Lib.hid (Y6.out.next hb)
                    have R7 := Lib.hid (R6.out.next hb)
                    have Ux7 := Lib.hid (Ux6.out.next hb)
                    clear B6 X6 Y6 R6 Ux6
                    have Uy7 := Lib.hid (hh)
                    clear hb ho hh
                    go_wp2_with fail
                    clear hHeld
                    refine hK.out _ _ ?_ (fun hHeld => ?_)
                    · exact ⟨X7.out.now.two, Y7.out.now.two⟩
                    clear hK KK
                    refine wpAnyH_take (i := 22) (v := ?_) rfl (by kernel_rfl) (by kernel_rfl) (by kernel_rfl) (fun _ _ _ h => h) (Or.inl ⟨by kernel_rfl, ?_⟩) (by assumption) ?_
                    rotate_left
                    · intro w hSw; (try dsimp only at hSw); go_simp; try with_reducible rfl
                    refine wpAnyH_ready (rs := [23]) (by kernel_rfl) (by simp) ?_
                    refine AllReadyH.cons rfl (fun KK hK => ?_) AllReadyH.nil
                    go_simp
                    have hgz := Lib.hid R7.out.le
                    have leUx_G := Lib.hid Ux7.out.le
                    have leUy_G := Lib.hid Uy7.out.le
                    have B8 := Lib.hid (B7.out.alloc B7.out.size (.cells #[.slice none 0 0, .slice none 0 0] 29))
                    have X8 := Lib.hid (X7.out.alloc (.cells #[.slice none 0 0, .slice none 0 0] 29))
                    have Y8 := Lib.hid (Y7.out.alloc (.cells #[.slice none 0 0, .slice none 0 0] 29))
                    have R8 := Lib.hid (R7.out.alloc (.cells #[.slice none 0 0, .slice none 0 0] 29))
                    have Ux8 := Lib.hid (Ux7.out.alloc (.cells #[.slice none 0 0, .slice none 0 0] 29))
                    have Uy8 := Lib.hid (Uy7.out.alloc (.cells #[.slice none 0 0, .slice none 0 0] 29))
                    clear B7 X7 Y7 R7 Ux7 Uy7
                    have tz := cells_new z21 #[.slice none 0 0, .slice none 0 0] 29
                    have G8 := Lib.hid (tz)
                    clear tz
                    clear hHeld
                    refine hK.out _ _ ?_ (fun hHeld => ?_)
                    · exact ⟨X8.out.now.two, Y8.out.now.two⟩
                    clear hK KK
                    refine wpAnyH_ready (rs := [24]) (by kernel_rfl) (by simp) ?_
                    refine AllReadyH.cons rfl (fun KK hK => ?_) AllReadyH.nil
                    obtain ⟨y0, y1⟩ := G8.out.now.two
                    obtain ⟨f0, f1⟩ := G8.out.now.frees
                    go_simp
                    have XS := Lib.hid (holds_realloc X8.out (by have := hgz.out; omega) (.cells #[.slice px (chDrop d1 d2 e1 e2).length qx, .slice py (chAdd d1 d2 e1 e2).length qy] 29))
                    have YS := Lib.hid (holds_realloc Y8.out (by have := hgz.out; omega) (.cells #[.slice px (chDrop d1 d2 e1 e2).length qx, .slice py (chAdd d1 d2 e1 e2).length qy] 29))
                    have RS := Lib.hid (holds_realloc R8.out (by have := hgz.out; omega) (.cells #[.slice px (chDrop d1 d2 e1 e2).length qx, .slice py (chAdd d1 d2 e1 e2).length qy] 29))
                    have UxS := Lib.hid (holds_realloc Ux8.out leUx_G.out (.cells #[.slice px (chDrop d1 d2 e1 e2).length qx, .slice py (chAdd d1 d2 e1 e2).length qy] 29))
                    have UyS := Lib.hid (holds_realloc Uy8.out leUy_G.out (.cells #[.slice px (chDrop d1 d2 e1 e2).length qx, .slice py (chAdd d1 d2 e1 e2).length qy] 29))
                    have GS := Lib.hid (cells_new z21 #[.slice px (chDrop d1 d2 e1 e2).length qx, .slice py (chAdd d1 d2 e1 e2).length qy] 29)
                    have BS := Lib.hid (below_realloc B8.out (by have := hgz.out; omega) (.cells #[.slice px (chDrop d1 d2 e1 e2).length qx, .slice py (chAdd d1 d2 e1 e2).length qy] 29))
                    clear hHeld
                    refine hK.out _ _ ?_ (fun hHeld => ?_)
                    · exact ⟨XS.out.now.two, YS.out.now.two⟩
                    clear hK KK hHeld
                    refine wpAnyH_done (by kernel_rfl) ?_ _
                    try simp only [Act.put, List.setIfInBounds_toArray, List.set_cons_zero, List.set_cons_succ, List.getElem_toArray, List.getElem_cons_zero, List.getElem_cons_succ]
                  case' g6_23 =>
                    go_simp
                    have hgz := Lib.hid R6.out.le
                    have leUx_G := Lib.hid Ux6.out.le
                    have B7 := Lib.hid (B6.out.alloc B6.out.size (.cells #[.slice none 0 0, .slice none 0 0] 29))
                    have X7 := Lib.hid (X6.out.alloc (.cells #[.slice none 0 0, .slice none 0 0] 29))
                    have Y7 := Lib.hid (Y6.out.alloc (.cells #[.slice none 0 0, .slice none 0 0] 29))
                    have R7 := Lib.hid (R6.out.alloc (.cells #[.slice none 0 0, .slice none 0 0] 29))
                    have Ux7 := Lib.hid (Ux6.out.alloc (.cells #[.slice none 0 0, .slice none 0 0] 29))
                    have T37 := Lib.hid (T36.out.alloc (.cells #[.slice none 0 0, .slice none 0 0] 29))
                    have T47 := Lib.hid (T46.out.alloc (.cells #[.slice none 0 0, .slice none 0 0] 29))
                    clear B6 X6 Y6 R6 Ux6 T36 T46
                    have tz := cells_new z20 #[.slice none 0 0, .slice none 0 0] 29
                    have G7 := Lib.hid (tz)
                    clear tz
                    clear hHeld
                    refine hK.out _ _ ?_ (fun hHeld => ?_)
                    · exact ⟨X7.out.now.two, Y7.out.now.two⟩
                    clear hK KK
                    refine wpAnyH_ready (rs := [21]) (by kernel_rfl) (by simp) ?_
                    refine AllReadyH.cons rfl (fun KK hK => ?_) AllReadyH.nil
                    go_simp
                    have I1 := T37.out.now.read (sm_most (outT_sm S.out.1.2)) rfl
                    have I2 := T47.out.now.read (sm_most (outT_sm S.out.2.2)) rfl
                    have LWy := Lib.hid (And.intro R7.out.le True.intro)
                    have LXY := Lib.hid Ux7.out.le
                    have leG_Uy := Lib.hid G7.out.le
                    refine (specUnionL p3 p4 _ q3 _ q4 (outT d2 e1) (outT e2 d1) _ I1 (plain_of T37.out.now.1) I2 (outT_graph_len PG.out.2.1) (outT_graph_len PG.out.2.2.2)).mono ?_
                    rintro e z21 ⟨v, rfl, ho, hb⟩
                    obtain ⟨py, qy, rfl, hh⟩ := ownC_shape ho hb rfl
                    clear I1 I2
                    clear T37
                    clear T47
                    have B8 := Lib.hid (B7.out.trans (hb.mono B7.out.size))
                    have X8 := Lib.hid (X7.out.next hb)
                    have Y8 := Lib.hid (Y7.out.next hb)
                    have R8 := Lib.hid (R7.out.next hb)
                    have Ux8 := Lib.hid (Ux7.out.next hb)
                    have G8 := Lib.hid (G7.out.next hb)
                    clear B7 X7 Y7 R7 Ux7 G7
                    have Uy8 := Lib.hid (hh)
                    clear hb ho hh
                    go_wp2_with fail
                    clear hHeld
                    refine hK.out _ _ ?_ (fun hHeld => ?_)
                    · exact ⟨X8.out.now.two, Y8.out.now.two⟩
                    clear hK KK
                    refine wpAnyH_take (i := 22) (v := ?_) rfl (by kernel_rfl) (by kernel_rfl) (by kernel_rfl) (fun _ _ _ h => h) (Or.inl ⟨by kernel_rfl, ?_⟩) (by assumption) ?_
                    rotate_left
                    · intro w hSw; (try dsimp only at hSw); go_simp; try with_reducible rfl
                    refine wpAnyH_ready (rs := [24]) (by kernel_rfl) (by simp) ?_
                    refine AllReadyH.cons rfl (fun KK hK => ?_) AllReadyH.nil
                    obtain ⟨y0, y1⟩ := G8.out.now.two
                    obtain ⟨f0, f1⟩ := G8.out.now.frees
                    go_simp
                    have TS := turn_set2 z21 (z20.heap.size) (.slice px (chDrop d1 d2 e1 e2).length qx) (.slice py (chAdd d1 d2 e1 e2).length qy)
                    have XS := Lib.hid (X8.out.step TS (.inl (by have := hgz.out; omega)))
                    have YS := Lib.hid (Y8.out.step TS (.inl (by have := hgz.out; omega)))
                    have RS := Lib.hid (R8.out.step TS (.inl (by have := hgz.out; omega)))
                    have UxS := Lib.hid (Ux8.out.step TS (by first | exact .inl leUx_G.out | exact .inr leG_Ux.out))
                    have UyS := Lib.hid (Uy8.out.step TS (by first | exact .inl leUy_G.out | exact .inr leG_Uy.out))
                    have GS := Lib.hid (cells_set2 G8.out (.slice px (chDrop d1 d2 e1 e2).length qx) (.slice py (chAdd d1 d2 e1 e2).length qy))
                    have BS := Lib.hid (below_two B8.out (z20.heap.size) (by have := hgz.out; omega) (.slice px (chDrop d1 d2 e1 e2).length qx) (.slice py (chAdd d1 d2 e1 e2).length qy))
                    clear TS hHeld
                    refine hK.out _ _ ?_ (fun hHeld => ?_)
                    · exact ⟨XS.out.now.two, YS.out.now.two⟩
                    clear hK KK hHeld
                    refine wpAnyH_done (by kernel_rfl) ?_ _
                    try simp only [Act.put, List.setIfInBounds_toArray, List.set_cons_zero, List.set_cons_succ, List.getElem_toArray, List.getElem_cons_zero, List.getElem_cons_succ]
                case' g5_23 =>
                  go_simp
                  have hgz := Lib.hid R5.out.le
                  have leUx_G := Lib.hid Ux5.out.le
                  have B6 := Lib.hid (B5.out.alloc B5.out.size (.cells #[.slice none 0 0, .slice none 0 0] 29))
                  have X6 := Lib.hid (X5.out.alloc (.cells #[.slice none 0 0, .slice none 0 0] 29))
                  have Y6 := Lib.hid (Y5.out.alloc (.cells #[.slice none 0 0, .slice none 0 0] 29))
                  have R6 := Lib.hid (R5.out.alloc (.cells #[.slice none 0 0, .slice none 0 0] 29))
                  have Ux6 := Lib.hid (Ux5.out.alloc (.cells #[.slice none 0 0, .slice none 0 0] 29))
                  have T36 := Lib.hid (T35.out.alloc (.cells #[.slice none 0 0, .slice none 0 0] 29))
                  clear B5 X5 Y5 R5 Ux5 T35
                  have tz := cells_new z15 #[.slice none 0 0, .slice none 0 0] 29
                  have G6 := Lib.hid (tz)
                  clear tz
                  clear hHeld
                  refine hK.out _ _ ?_ (fun hHeld => ?_)
                  · exact ⟨X6.out.now.two, Y6.out.now.two⟩
                  clear hK KK
                  refine wpAnyH_ready (rs := [20]) (by kernel_rfl) (by simp) ?_
                  refine AllReadyH.cons rfl (fun KK hK => ?_) AllReadyH.nil
                  go_simp
                  refine (specLess14 b2 a1 j k2 n1 c1 e2 d1 _ (HQ.out.2.next B6.out) (HP.out.1.next B6.out) (by omega) (by omega)).mono ?_
                  rintro e z20 ⟨v, rfl, ho, hb⟩
                  obtain ⟨p4, q4, rfl, hh⟩ := ownC_shape ho hb rfl
                  have B7 := Lib.hid (B6.out.trans (hb.mono B6.out.size))
                  have X7 := Lib.hid (X6.out.next hb)
                  have Y7 := Lib.hid (Y6.out.next hb)
                  have R7 := Lib.hid (R6.out.next hb)
                  have Ux7 := Lib.hid (Ux6.out.next hb)
                  have T37 := Lib.hid (T36.out.next hb)
                  have G7 := Lib.hid (G6.out.next hb)
                  clear B6 X6 Y6 R6 Ux6 T36 G6
                  have T47 := Lib.hid (hh)
                  clear hb ho hh
                  go_wp2_with fail
                  clear hHeld
                  refine hK.out _ _ ?_ (fun hHeld => ?_)
                  · exact ⟨X7.out.now.two, Y7.out.now.two⟩
                  clear hK KK
                  refine wpAnyH_ready (rs := [21]) (by kernel_rfl) (by simp) ?_
                  refine AllReadyH.cons rfl (fun KK hK => ?_) AllReadyH.nil
                  go_simp
                  have I1 := T37.out.now.read (sm_most (outT_sm S.out.1.2)) rfl
                  have I2 := T47.out.now.read (sm_most (outT_sm S.out.2.2)) rfl
                  have LWy := Lib.hid (And.intro R7.out.le True.intro)
                  have LXY := Lib.hid Ux7.out.le
                  have leG_Uy := Lib.hid G7.out.le
                  refine (specUnionL p3 p4 _ q3 _ q4 (outT d2 e1) (outT e2 d1) _ I1 (plain_of T37.out.now.1) I2 (outT_graph_len PG.out.2.1) (outT_graph_len PG.out.2.2.2)).mono ?_
                  rintro e z21 ⟨v, rfl, ho, hb⟩
                  obtain ⟨py, qy, rfl, hh⟩ := ownC_shape ho hb rfl
                  clear I1 I2
                  clear T37
                  clear T47
                  have B8 := Lib.hid (B7.out.trans (hb.mono B7.out.size))
                  have X8 := Lib.hid (X7.out.next hb)
                  have Y8 := Lib.hid (Y7.out.next hb)
                  have R8 := Lib.hid (R7.out.next hb)
                  have Ux8 := Lib.hid (Ux7.out.next hb)
                  have G8 := Lib.hid (G7.out.next hb)
                  clear B7 X7 Y7 R7 Ux7 G7
                  have Uy8 := Lib.hid (hh)
                  clear hb ho hh
                  go_wp2_with fail
                  clear hHeld
                  refine hK.out _ _ ?_ (fun hHeld => ?_)
                  · exact ⟨X8.out.now.two, Y8.out.now.two⟩
                  clear hK KK
                  refine wpAnyH_take (i := 22) (v := ?_) rfl (by kernel_rfl) (by kernel_rfl) (by kernel_rfl) (fun _ _ _ h => h) (Or.inl ⟨by kernel_rfl, ?_⟩) (by assumption) ?_
                  rotate_left
                  · intro w hSw; (try dsimp only at hSw); go_simp; try with_reducible rfl
                  refine wpAnyH_ready (rs := [24]) (by kernel_rfl) (by simp) ?_
                  refine AllReadyH.cons rfl (fun KK hK => ?_) AllReadyH.nil
                  obtain ⟨y0, y1⟩ := G8.out.now.two
                  obtain ⟨f0, f1⟩ := G8.out.now.frees
                  go_simp
                  have TS := turn_set2 z21 (z15.heap.size) (.slice px (chDrop d1 d2 e1 e2).length qx) (.slice py (chAdd d1 d2 e1 e2).length qy)
                  have XS := Lib.hid (X8.out.step TS (.inl (by have := hgz.out; omega)))
                  have YS := Lib.hid (Y8.out.step TS (.inl (by have := hgz.out; omega)))
                  have RS := Lib.hid (R8.out.step TS (.inl (by have := hgz.out; omega)))
                  have UxS := Lib.hid (Ux8.out.step TS (by first | exact .inl leUx_G.out | exact .inr leG_Ux.out))
                  have UyS := Lib.hid (Uy8.out.step TS (by first | exact .inl leUy_G.out | exact .inr leG_Uy.out))
                  have GS := Lib.hid (cells_set2 G8.out (.slice px (chDrop d1 d2 e1 e2).length qx) (.slice py (chAdd d1 d2 e1 e2).length qy))
                  have BS := Lib.hid (below_two B8.out (z15.heap.size) (by have := hgz.out; omega) (.slice px (chDrop d1 d2 e1 e2).length qx) (.slice py (chAdd d1 d2 e1 e2).length qy))
                  clear TS hHeld
                  refine hK.out _ _ ?_ (fun hHeld => ?_)
                  · exact ⟨XS.out.now.two, YS.out.now.two⟩
                  clear hK KK hHeld
                  refine wpAnyH_done (by kernel_rfl) ?_ _
                  try simp only [Act.put, List.setIfInBounds_toArray, List.set_cons_zero, List.set_cons_succ, List.getElem_toArray, List.getElem_cons_zero, List.getElem_cons_succ]
              case' g4_23 =>
                go_simp
                have hgz := Lib.hid R4.out.le
                have leUx_G := Lib.hid Ux4.out.le
                have B5 := Lib.hid (B4.out.alloc B4.out.size (.cells #[.slice none 0 0, .slice none 0 0] 29))
                have X5 := Lib.hid (X4.out.alloc (.cells #[.slice none 0 0, .slice none 0 0] 29))
                have Y5 := Lib.hid (Y4.out.alloc (.cells #[.slice none 0 0, .slice none 0 0] 29))
                have R5 := Lib.hid (R4.out.alloc (.cells #[.slice none 0 0, .slice none 0 0] 29))
                have Ux5 := Lib.hid (Ux4.out.alloc (.cells #[.slice none 0 0, .slice none 0 0] 29))
                clear B4 X4 Y4 R4 Ux4
                have tz := cells_new z10 #[.slice none 0 0, .slice none 0 0] 29
                have G5 := Lib.hid (tz)
                clear tz
                clear hHeld
                refine hK.out _ _ ?_ (fun hHeld => ?_)
                · exact ⟨X5.out.now.two, Y5.out.now.two⟩
                clear hK KK
                refine wpAnyH_ready (rs := [15]) (by kernel_rfl) (by simp) ?_
                refine AllReadyH.cons rfl (fun KK hK => ?_) AllReadyH.nil
                go_simp
                refine (specLess14 a2 b1 n2 c2 k k1 d2 e1 _ (HP.out.2.next B5.out) (HQ.out.1.next B5.out) (by omega) (by omega)).mono ?_
                rintro e z15 ⟨v, rfl, ho, hb⟩
                obtain ⟨p3, q3, rfl, hh⟩ := ownC_shape ho hb rfl
                have B6 := Lib.hid (B5.out.trans (hb.mono B5.out.size))
                have X6 := Lib.hid (X5.out.next hb)
                have Y6 := Lib.hid (Y5.out.next hb)
                have R6 := Lib.hid (R5.out.next hb)
                have Ux6 := Lib.hid (Ux5.out.next hb)
                have G6 := Lib.hid (G5.out.next hb)
                clear B5 X5 Y5 R5 Ux5 G5
                have T36 := Lib.hid (hh)
                clear hb ho hh
                go_wp2_with fail
                clear hHeld
                refine hK.out _ _ ?_ (fun hHeld => ?_)
                · exact ⟨X6.out.now.two, Y6.out.now.two⟩
                clear hK KK
                refine wpAnyH_ready (rs := [20]) (by kernel_rfl) (by simp) ?_
                refine AllReadyH.cons rfl (fun KK hK => ?_) AllReadyH.nil
                go_simp
                refine (specLess14 b2 a1 j k2 n1 c1 e2 d1 _ (HQ.out.2.next B6.out) (HP.out.1.next B6.out) (by omega) (by omega)).mono ?_
                rintro e z20 ⟨v, rfl, ho, hb⟩
                obtain ⟨p4, q4, rfl, hh⟩ := ownC_shape ho hb rfl
                have B7 := Lib.hid (B6.out.trans (hb.mono B6.out.size))
                have X7 := Lib.hid (X6.out.next hb)
                have Y7 := Lib.hid (Y6.out.next hb)
                have R7 := Lib.hid (R6.out.next hb)
                have Ux7 := Lib.hid (Ux6.out.next hb)
                have G7 := Lib.hid (G6.out.next hb)
                have T37 := Lib.hid (T36.out.next hb)
                clear B6 X6 Y6 R6 Ux6 G6 T36
                have T47 := Lib.hid (hh)
                clear hb ho hh
                go_wp2_with fail
                clear hHeld
                refine hK.out _ _ ?_ (fun hHeld => ?_)
                · exact ⟨X7.out.now.two, Y7.out.now.two⟩
                clear hK KK
                refine wpAnyH_ready (rs := [21]) (by kernel_rfl) (by simp) ?_
                refine AllReadyH.cons rfl (fun KK hK => ?_) AllReadyH.nil
                go_simp
                have I1 := T37.out.now.read (sm_most (outT_sm S.out.1.2)) rfl
                have I2 := T47.out.now.read (sm_most (outT_sm S.out.2.2)) rfl
                have LWy := Lib.hid (And.intro R7.out.le True.intro)
                have LXY := Lib.hid Ux7.out.le
                have leG_Uy := Lib.hid G7.out.le
                refine (specUnionL p3 p4 _ q3 _ q4 (outT d2 e1) (outT e2 d1) _ I1 (plain_of T37.out.now.1) I2 (outT_graph_len PG.out.2.1) (outT_graph_len PG.out.2.2.2)).mono ?_
                rintro e z21 ⟨v, rfl, ho, hb⟩
                obtain ⟨py, qy, rfl, hh⟩ := ownC_shape ho hb rfl
                clear I1 I2
                clear T37
                clear T47
                have B8 := Lib.hid (B7.out.trans (hb.mono B7.out.size))
                have X8 := Lib.hid (X7.out.next hb)
                have Y8 := Lib.hid (Y7.out.next hb)
                have R8 := Lib.hid (R7.out.next hb)
                have Ux8 := Lib.hid (Ux7.out.next hb)
                have G8 := Lib.hid (G7.out.next hb)
                clear B7 X7 Y7 R7 Ux7 G7
                have Uy8 := Lib.hid (hh)
                clear hb ho hh
                go_wp2_with fail
                clear hHeld
                refine hK.out _ _ ?_ (fun hHeld => ?_)
                · exact ⟨X8.out.now.two, Y8.out.now.two⟩
                clear hK KK
                refine wpAnyH_take (i := 22) (v := ?_) rfl (by kernel_rfl) (by kernel_rfl) (by kernel_rfl) (fun _ _ _ h => h) (Or.inl ⟨by kernel_rfl, ?_⟩) (by assumption) ?_
                rotate_left
                · intro w hSw; (try dsimp only at hSw); go_simp; try with_reducible rfl
                refine wpAnyH_ready (rs := [24]) (by kernel_rfl) (by simp) ?_
                refine AllReadyH.cons rfl (fun KK hK => ?_) AllReadyH.nil
                obtain ⟨y0, y1⟩ := G8.out.now.two
                obtain ⟨f0, f1⟩ := G8.out.now.frees
                go_simp
                have TS := turn_set2 z21 (z10.heap.size) (.slice px (chDrop d1 d2 e1 e2).length qx) (.slice py (chAdd d1 d2 e1 e2).length qy)
                have XS := Lib.hid (X8.out.step TS (.inl (by have := hgz.out; omega)))
                have YS := Lib.hid (Y8.out.step TS (.inl (by have := hgz.out; omega)))
                have RS := Lib.hid (R8.out.step TS (.inl (by have := hgz.out; omega)))
                have UxS := Lib.hid (Ux8.out.step TS (by first | exact .inl leUx_G.out | exact .inr leG_Ux.out))
                have UyS := Lib.hid (Uy8.out.step TS (by first | exact .inl leUy_G.out | exact .inr leG_Uy.out))
                have GS := Lib.hid (cells_set2 G8.out (.slice px (chDrop d1 d2 e1 e2).length qx) (.slice py (chAdd d1 d2 e1 e2).length qy))
                have BS := Lib.hid (below_two B8.out (z10.heap.size) (by have := hgz.out; omega) (.slice px (chDrop d1 d2 e1 e2).length qx) (.slice py (chAdd d1 d2 e1 e2).length qy))
                clear TS hHeld
                refine hK.out _ _ ?_ (fun hHeld => ?_)
                · exact ⟨XS.out.now.two, YS.out.now.two⟩
                clear hK KK hHeld
                refine wpAnyH_done (by kernel_rfl) ?_ _
                try simp only [Act.put, List.setIfInBounds_toArray, List.set_cons_zero, List.set_cons_succ, List.getElem_toArray, List.getElem_cons_zero, List.getElem_cons_succ]
            case' g3_23 =>
              go_simp
              have hgz := Lib.hid R3.out.le
              have B4 := Lib.hid (B3.out.alloc B3.out.size (.cells #[.slice none 0 0, .slice none 0 0] 29))
              have X4 := Lib.hid (X3.out.alloc (.cells #[.slice none 0 0, .slice none 0 0] 29))
              have Y4 := Lib.hid (Y3.out.alloc (.cells #[.slice none 0 0, .slice none 0 0] 29))
              have R4 := Lib.hid (R3.out.alloc (.cells #[.slice none 0 0, .slice none 0 0] 29))
              have T14 := Lib.hid (T13.out.alloc (.cells #[.slice none 0 0, .slice none 0 0] 29))
              have T24 := Lib.hid (T23.out.alloc (.cells #[.slice none 0 0, .slice none 0 0] 29))
              clear B3 X3 Y3 R3 T13 T23
              have tz := cells_new z9 #[.slice none 0 0, .slice none 0 0] 29
              have G4 := Lib.hid (tz)
              clear tz
              clear hHeld
              refine hK.out _ _ ?_ (fun hHeld => ?_)
              · exact ⟨X4.out.now.two, Y4.out.now.two⟩
              clear hK KK
              refine wpAnyH_ready (rs := [10]) (by kernel_rfl) (by simp) ?_
              refine AllReadyH.cons rfl (fun KK hK => ?_) AllReadyH.nil
              go_simp
              have I1 := T14.out.now.read (sm_most (outT_sm S.out.1.1)) rfl
              have I2 := T24.out.now.read (sm_most (outT_sm S.out.2.1)) rfl
              have LWx := Lib.hid (And.intro R4.out.le True.intro)
              have leG_Ux := Lib.hid G4.out.le
              refine (specUnionL p1 p2 _ q1 _ q2 (outT d1 e2) (outT e1 d2) _ I1 (plain_of T14.out.now.1) I2 (outT_graph_len PG.out.1) (outT_graph_len PG.out.2.2.1)).mono ?_
              rintro e z10 ⟨v, rfl, ho, hb⟩
              obtain ⟨px, qx, rfl, hh⟩ := ownC_shape ho hb rfl
              clear I1 I2
              clear T14
              clear T24
              have B5 := Lib.hid (B4.out.trans (hb.mono B4.out.size))
              have X5 := Lib.hid (X4.out.next hb)
              have Y5 := Lib.hid (Y4.out.next hb)
              have R5 := Lib.hid (R4.out.next hb)
              have G5 := Lib.hid (G4.out.next hb)
              clear B4 X4 Y4 R4 G4
              have Ux5 := Lib.hid (hh)
              clear hb ho hh
              go_wp2_with fail
              clear hHeld
              refine hK.out _ _ ?_ (fun hHeld => ?_)
              · exact ⟨X5.out.now.two, Y5.out.now.two⟩
              clear hK KK
              refine wpAnyH_ready (rs := [15]) (by kernel_rfl) (by simp) ?_
              refine AllReadyH.cons rfl (fun KK hK => ?_) AllReadyH.nil
              go_simp
              refine (specLess14 a2 b1 n2 c2 k k1 d2 e1 _ (HP.out.2.next B5.out) (HQ.out.1.next B5.out) (by omega) (by omega)).mono ?_
              rintro e z15 ⟨v, rfl, ho, hb⟩
              obtain ⟨p3, q3, rfl, hh⟩ := ownC_shape ho hb rfl
              have B6 := Lib.hid (B5.out.trans (hb.mono B5.out.size))
              have X6 := Lib.hid (X5.out.next hb)
              have Y6 := Lib.hid (Y5.out.next hb)
              have R6 := Lib.hid (R5.out.next hb)
              have G6 := Lib.hid (G5.out.next hb)
              have Ux6 := Lib.hid (Ux5.out.next hb)
              clear B5 X5 Y5 R5 G5 Ux5
              have T36 := Lib.hid (hh)
              clear hb ho hh
              go_wp2_with fail
              clear hHeld
              refine hK.out _ _ ?_ (fun hHeld => ?_)
              · exact ⟨X6.out.now.two, Y6.out.now.two⟩
              clear hK KK
              refine wpAnyH_ready (rs := [20]) (by kernel_rfl) (by simp) ?_
              refine AllReadyH.cons rfl (fun KK hK => ?_) AllReadyH.nil
              go_simp
              refine (specLess14 b2 a1 j k2 n1 c1 e2 d1 _ (HQ.out.2.next B6.out) (HP.out.1.next B6.out) (by omega) (by omega)).mono ?_
              rintro e z20 ⟨v, rfl, ho, hb⟩
              obtain ⟨p4, q4, rfl, hh⟩ := ownC_shape ho hb rfl
              have B7 := Lib.hid (B6.out.trans (hb.mono B6.out.size))
              have X7 := Lib.hid (X6.out.next hb)
              have Y7 := Lib.hid (Y6.out.next hb)
              have R7 := Lib.hid (R6.out.next hb)
              have G7 := Lib.hid (G6.out.next hb)
              have Ux7 := Lib.hid (Ux6.out.next hb)
              have T37 := Lib.hid (T36.out.next hb)
              clear B6 X6 Y6 R6 G6 Ux6 T36
              have T47 := Lib.hid (hh)
              clear hb ho hh
              go_wp2_with fail
              clear hHeld
              refine hK.out _ _ ?_ (fun hHeld => ?_)
              · exact ⟨X7.out.now.two, Y7.out.now.two⟩
              clear hK KK
              refine wpAnyH_ready (rs := [21]) (by kernel_rfl) (by simp) ?_
              refine AllReadyH.cons rfl (fun KK hK => ?_) AllReadyH.nil
              go_simp
              have I1 := T37.out.now.read (sm_most (outT_sm S.out.1.2)) rfl
              have I2 := T47.out.now.read (sm_most (outT_sm S.out.2.2)) rfl
              have LWy := Lib.hid (And.intro R7.out.le True.intro)
              have LXY := Lib.hid Ux7.out.le
              have leG_Uy := Lib.hid G7.out.le
              refine (specUnionL p3 p4 _ q3 _ q4 (outT d2 e1) (outT e2 d1) _ I1 (plain_of T37.out.now.1) I2 (outT_graph_len PG.out.2.1) (outT_graph_len PG.out.2.2.2)).mono ?_
              rintro e z21 ⟨v, rfl, ho, hb⟩
              obtain ⟨py, qy, rfl, hh⟩ := ownC_shape ho hb rfl
              clear I1 I2
              clear T37
              clear T47
              have B8 := Lib.hid (B7.out.trans (hb.mono B7.out.size))
              have X8 := Lib.hid (X7.out.next hb)
              have Y8 := Lib.hid (Y7.out.next hb)
              have R8 := Lib.hid (R7.out.next hb)
              have G8 := Lib.hid (G7.out.next hb)
              have Ux8 := Lib.hid (Ux7.out.next hb)
              clear B7 X7 Y7 R7 G7 Ux7
              have Uy8 := Lib.hid (hh)
              clear hb ho hh
              go_wp2_with fail
              clear hHeld
              refine hK.out _ _ ?_ (fun hHeld => ?_)
              · exact ⟨X8.out.now.two, Y8.out.now.two⟩
              clear hK KK
              refine wpAnyH_take (i := 22) (v := ?_) rfl (by kernel_rfl) (by kernel_rfl) (by kernel_rfl) (fun _ _ _ h => h) (Or.inl ⟨by kernel_rfl, ?_⟩) (by assumption) ?_
              rotate_left
              · intro w hSw; (try dsimp only at hSw); go_simp; try with_reducible rfl
              refine wpAnyH_ready (rs := [24]) (by kernel_rfl) (by simp) ?_
              refine AllReadyH.cons rfl (fun KK hK => ?_) AllReadyH.nil
              obtain ⟨y0, y1⟩ := G8.out.now.two
              obtain ⟨f0, f1⟩ := G8.out.now.frees
              go_simp
              have TS := turn_set2 z21 (z9.heap.size) (.slice px (chDrop d1 d2 e1 e2).length qx) (.slice py (chAdd d1 d2 e1 e2).length qy)
              have XS := Lib.hid (X8.out.step TS (.inl (by have := hgz.out; omega)))
              have YS := Lib.hid (Y8.out.step TS (.inl (by have := hgz.out; omega)))
              have RS := Lib.hid (R8.out.step TS (.inl (by have := hgz.out; omega)))
              have UxS := Lib.hid (Ux8.out.step TS (by first | exact .inl leUx_G.out | exact .inr leG_Ux.out))
              have UyS := Lib.hid (Uy8.out.step TS (by first | exact .inl leUy_G.out | exact .inr leG_Uy.out))
              have GS := Lib.hid (cells_set2 G8.out (.slice px (chDrop d1 d2 e1 e2).length qx) (.slice py (chAdd d1 d2 e1 e2).length qy))
              have BS := Lib.hid (below_two B8.out (z9.heap.size) (by have := hgz.out; omega) (.slice px (chDrop d1 d2 e1 e2).length qx) (.slice py (chAdd d1 d2 e1 e2).length qy))
              clear TS hHeld
              refine hK.out _ _ ?_ (fun hHeld => ?_)
              · exact ⟨XS.out.now.two, YS.out.now.two⟩
              clear hK KK hHeld
              refine wpAnyH_done (by kernel_rfl) ?_ _
              try simp only [Act.put, List.setIfInBounds_toArray, List.set_cons_zero, List.set_cons_succ, List.getElem_toArray, List.getElem_cons_zero, List.getElem_cons_succ]
          case' g2_23 =>
            go_simp
            have hgz := Lib.hid R2.out.le
            have B3 := Lib.hid (B2.out.alloc B2.out.size (.cells #[.slice none 0 0, .slice none 0 0] 29))
            have X3 := Lib.hid (X2.out.alloc (.cells #[.slice none 0 0, .slice none 0 0] 29))
            have Y3 := Lib.hid (Y2.out.alloc (.cells #[.slice none 0 0, .slice none 0 0] 29))
            have R3 := Lib.hid (R2.out.alloc (.cells #[.slice none 0 0, .slice none 0 0] 29))
            have T13 := Lib.hid (T12.out.alloc (.cells #[.slice none 0 0, .slice none 0 0] 29))
            clear B2 X2 Y2 R2 T12
            have tz := cells_new z4 #[.slice none 0 0, .slice none 0 0] 29
            have G3 := Lib.hid (tz)
            clear tz
            clear hHeld
            refine hK.out _ _ ?_ (fun hHeld => ?_)
            · exact ⟨X3.out.now.two, Y3.out.now.two⟩
            clear hK KK
            refine wpAnyH_ready (rs := [9]) (by kernel_rfl) (by simp) ?_
            refine AllReadyH.cons rfl (fun KK hK => ?_) AllReadyH.nil
            go_simp
            refine (specLess14 b1 a2 k k1 n2 c2 e1 d2 _ (HQ.out.1.next B3.out) (HP.out.2.next B3.out) (by omega) (by omega)).mono ?_
            rintro e z9 ⟨v, rfl, ho, hb⟩
            obtain ⟨p2, q2, rfl, hh⟩ := ownC_shape ho hb rfl
            have B4 := Lib.hid (B3.out.trans (hb.mono B3.out.size))
            have X4 := Lib.hid (X3.out.next hb)
            have Y4 := Lib.hid (Y3.out.next hb)
            have R4 := Lib.hid (R3.out.next hb)
            have T14 := Lib.hid (T13.out.next hb)
            have G4 := Lib.hid (G3.out.next hb)
            clear B3 X3 Y3 R3 T13 G3
            have T24 := Lib.hid (hh)
            clear hb ho hh
            go_wp2_with fail
            clear hHeld
            refine hK.out _ _ ?_ (fun hHeld => ?_)
            · exact ⟨X4.out.now.two, Y4.out.now.two⟩
            clear hK KK
            refine wpAnyH_ready (rs := [10]) (by kernel_rfl) (by simp) ?_
            refine AllReadyH.cons rfl (fun KK hK => ?_) AllReadyH.nil
            go_simp
            have I1 := T14.out.now.read (sm_most (outT_sm S.out.1.1)) rfl
            have I2 := T24.out.now.read (sm_most (outT_sm S.out.2.1)) rfl
            have LWx := Lib.hid (And.intro R4.out.le True.intro)
            have leG_Ux := Lib.hid G4.out.le
            refine (specUnionL p1 p2 _ q1 _ q2 (outT d1 e2) (outT e1 d2) _ I1 (plain_of T14.out.now.1) I2 (outT_graph_len PG.out.1) (outT_graph_len PG.out.2.2.1)).mono ?_
            rintro e z10 ⟨v, rfl, ho, hb⟩
            obtain ⟨px, qx, rfl, hh⟩ := ownC_shape ho hb rfl
            clear I1 I2
            clear T14
            clear T24
            have B5 := Lib.hid (B4.out.trans (hb.mono B4.out.size))
            have X5 := Lib.hid (X4.out.next hb)
            have Y5 := Lib.hid (Y4.out.next hb)
            have R5 := Lib.hid (R4.out.next hb)
            have G5 := Lib.hid (G4.out.next hb)
            clear B4 X4 Y4 R4 G4
            have Ux5 := Lib.hid (hh)
            clear hb ho hh
            go_wp2_with fail
            clear hHeld
            refine hK.out _ _ ?_ (fun hHeld => ?_)
            · exact ⟨X5.out.now.two, Y5.out.now.two⟩
            clear hK KK
            refine wpAnyH_ready (rs := [15]) (by kernel_rfl) (by simp) ?_
            refine AllReadyH.cons rfl (fun KK hK => ?_) AllReadyH.nil
            go_simp
            refine (specLess14 a2 b1 n2 c2 k k1 d2 e1 _ (HP.out.2.next B5.out) (HQ.out.1.next B5.out) (by omega) (by omega)).mono ?_
            rintro e z15 ⟨v, rfl, ho, hb⟩
            obtain ⟨p3, q3, rfl, hh⟩ := ownC_shape ho hb rfl
            have B6 := Lib.hid (B5.out.trans (hb.mono B5.out.size))
            have X6 := Lib.hid (X5.out.next hb)
            have Y6 := Lib.hid (Y5.out.next hb)
            have R6 := Lib.hid (R5.out.next hb)
            have G6 := Lib.hid (G5.out.next hb)
            have Ux6 := Lib.hid (Ux5.out.next hb)
            clear B5 X5 Y5 R5 G5 Ux5
            have T36 := Lib.hid (hh)
            clear hb ho hh
            go_wp2_with fail
            clear hHeld
            refine hK.out _ _ ?_ (fun hHeld => ?_)
            · exact ⟨X6.out.now.two, Y6.out.now.two⟩
            clear hK KK
            refine wpAnyH_ready (rs := [20]) (by kernel_rfl) (by simp) ?_
            refine AllReadyH.cons rfl (fun KK hK => ?_) AllReadyH.nil
            go_simp
            refine (specLess14 b2 a1 j k2 n1 c1 e2 d1 _ (HQ.out.2.next B6.out) (HP.out.1.next B6.out) (by omega) (by omega)).mono ?_
            rintro e z20 ⟨v, rfl, ho, hb⟩
            obtain ⟨p4, q4, rfl, hh⟩ := ownC_shape ho hb rfl
            have B7 := Lib.hid (B6.out.trans (hb.mono B6.out.size))
            have X7 := Lib.hid (X6.out.next hb)
            have Y7 := Lib.hid (Y6.out.next hb)
            have R7 := Lib.hid (R6.out.next hb)
            have G7 := Lib.hid (G6.out.next hb)
            have Ux7 := Lib.hid (Ux6.out.next hb)
            have T37 := Lib.hid (T36.out.next hb)
            clear B6 X6 Y6 R6 G6 Ux6 T36
            have T47 := Lib.hid (hh)
            clear hb ho hh
            go_wp2_with fail
            clear hHeld
            refine hK.out _ _ ?_ (fun hHeld => ?_)
            · exact ⟨X7.out.now.two, Y7.out.now.two⟩
            clear hK KK
            refine wpAnyH_ready (rs := [21]) (by kernel_rfl) (by simp) ?_
            refine AllReadyH.cons rfl (fun KK hK => ?_) AllReadyH.nil
            go_simp
            have I1 := T37.out.now.read (sm_most (outT_sm S.out.1.2)) rfl
            have I2 := T47.out.now.read (sm_most (outT_sm S.out.2.2)) rfl
            have LWy := Lib.hid (And.intro R7.out.le True.intro)
            have LXY := Lib.hid Ux7.out.le
            have leG_Uy := Lib.hid G7.out.le
            refine (specUnionL p3 p4 _ q3 _ q4 (outT d2 e1) (outT e2 d1) _ I1 (plain_of T37.out.now.1) I2 (outT_graph_len PG.out.2.1) (outT_graph_len PG.out.2.2.2)).mono ?_
            rintro e z21 ⟨v, rfl, ho, hb⟩
            obtain ⟨py, qy, rfl, hh⟩ := ownC_shape ho hb rfl
            clear I1 I2
            clear T37
            clear T47
            have B8 := Lib.hid (B7.out.trans (hb.mono B7.out.size))
            have X8 := Lib.hid (X7.out.next hb)
            have Y8 := Lib.hid (Y7.out.next hb)
            have R8 := Lib.hid (R7.out.next hb)
            have G8 := Lib.hid (G7.out.next hb)
            have Ux8 := Lib.hid (Ux7.out.next hb)
            clear B7 X7 Y7 R7 G7 Ux7
            have Uy8 := Lib.hid (hh)
            clear hb ho hh
            go_wp2_with fail
            clear hHeld
            refine hK.out _ _ ?_ (fun hHeld => ?_)
            · exact ⟨X8.out.now.two, Y8.out.now.two⟩
            clear hK KK
            refine wpAnyH_take (i := 22) (v := ?_) rfl (by kernel_rfl) (by kernel_rfl) (by kernel_rfl) (fun _ _ _ h => h) (Or.inl ⟨by kernel_rfl, ?_⟩) (by assumption) ?_
            rotate_left
            · intro w hSw; (try dsimp only at hSw); go_simp; try with_reducible rfl
            refine wpAnyH_ready (rs := [24]) (by kernel_rfl) (by simp) ?_
            refine AllReadyH.cons rfl (fun KK hK => ?_) AllReadyH.nil
            obtain ⟨y0, y1⟩ := G8.out.now.two
            obtain ⟨f0, f1⟩ := G8.out.now.frees
            go_simp
            have TS := turn_set2 z21 (z4.heap.size) (.slice px (chDrop d1 d2 e1 e2).length qx) (.slice py (chAdd d1 d2 e1 e2).length qy)
            have XS := Lib.hid (X8.out.step TS (.inl (by have := hgz.out; omega)))
            have YS := Lib.hid (Y8.out.step TS (.inl (by have := hgz.out; omega)))
            have RS := Lib.hid (R8.out.step TS (.inl (by have := hgz.out; omega)))
            have UxS := Lib.hid (Ux8.out.step TS (by first | exact .inl leUx_G.out | exact .inr leG_Ux.out))
            have UyS := Lib.hid (Uy8.out.step TS (by first | exact .inl leUy_G.out | exact .inr leG_Uy.out))
            have GS := Lib.hid (cells_set2 G8.out (.slice px (chDrop d1 d2 e1 e2).length qx) (.slice py (chAdd d1 d2 e1 e2).length qy))
            have BS := Lib.hid (below_two B8.out (z4.heap.size) (by have := hgz.out; omega) (.slice px (chDrop d1 d2 e1 e2).length qx) (.slice py (chAdd d1 d2 e1 e2).length qy))
            clear TS hHeld
            refine hK.out _ _ ?_ (fun hHeld => ?_)
            · exact ⟨XS.out.now.two, YS.out.now.two⟩
            clear hK KK hHeld
            refine wpAnyH_done (by kernel_rfl) ?_ _
            try simp only [Act.put, List.setIfInBounds_toArray, List.set_cons_zero, List.set_cons_succ, List.getElem_toArray, List.getElem_cons_zero, List.getElem_cons_succ]
        case' g1_23 =>
          go_simp
          have hgz := Lib.hid R1.out.le
          have B2 := Lib.hid (B1.out.alloc B1.out.size (.cells #[.slice none 0 0, .slice none 0 0] 29))
          have X2 := Lib.hid (X1.out.alloc (.cells #[.slice none 0 0, .slice none 0 0] 29))
          have Y2 := Lib.hid (Y1.out.alloc (.cells #[.slice none 0 0, .slice none 0 0] 29))
          have R2 := Lib.hid (R1.out.alloc (.cells #[.slice none 0 0, .slice none 0 0] 29))
          clear B1 X1 Y1 R1
          have tz := cells_new V0 #[.slice none 0 0, .slice none 0 0] 29
          have G2 := Lib.hid (tz)
          clear tz
          clear hHeld
          refine hK.out _ _ ?_ (fun hHeld => ?_)
          · exact ⟨X2.out.now.two, Y2.out.now.two⟩
          clear hK KK
          refine wpAnyH_ready (rs := [4]) (by kernel_rfl) (by simp) ?_
          refine AllReadyH.cons rfl (fun KK hK => ?_) AllReadyH.nil
          go_simp
          refine (specLess14 a1 b2 n1 c1 j k2 d1 e2 _ (HP.out.1.next B2.out) (HQ.out.2.next B2.out) (by omega) (by omega)).mono ?_
          rintro e z4 ⟨v, rfl, ho, hb⟩
          obtain ⟨p1, q1, rfl, hh⟩ := ownC_shape ho hb rfl
          have B3 := Lib.hid (B2.out.trans (hb.mono B2.out.size))
          have X3 := Lib.hid (X2.out.next hb)
          have Y3 := Lib.hid (Y2.out.next hb)
          have R3 := Lib.hid (R2.out.next hb)
          have G3 := Lib.hid (G2.out.next hb)
          clear B2 X2 Y2 R2 G2
          have T13 := Lib.hid (hh)
          clear hb ho hh
          go_wp2_with fail
          clear hHeld
          refine hK.out _ _ ?_ (fun hHeld => ?_)
          · exact ⟨X3.out.now.two, Y3.out.now.two⟩
          clear hK KK
          refine wpAnyH_ready (rs := [9]) (by kernel_rfl) (by simp) ?_
          refine AllReadyH.cons rfl (fun KK hK => ?_) AllReadyH.nil
          go_simp
          refine (specLess14 b1 a2 k k1 n2 c2 e1 d2 _ (HQ.out.1.next B3.out) (HP.out.2.next B3.out) (by omega) (by omega)).mono ?_
          rintro e z9 ⟨v, rfl, ho, hb⟩
          obtain ⟨p2, q2, rfl, hh⟩ := ownC_shape ho hb rfl
          have B4 := Lib.hid (B3.out.trans (hb.mono B3.out.size))
          have X4 := Lib.hid (X3.out.next hb)
          have Y4 := Lib.hid (Y3.out.next hb)
          have R4 := Lib.hid (R3.out.next hb)
          have G4 := Lib.hid (G3.out.next hb)
          have T14 := Lib.hid (T13.out.next hb)
          clear B3 X3 Y3 R3 G3 T13
          have T24 := Lib.hid (hh)
          clear hb ho hh
          go_wp2_with fail
          clear hHeld
          refine hK.out _ _ ?_ (fun hHeld => ?_)
          · exact ⟨X4.out.now.two, Y4.out.now.two⟩
          clear hK KK
          refine wpAnyH_ready (rs := [10]) (by kernel_rfl) (by simp) ?_
          refine AllReadyH.cons rfl (fun KK hK => ?_) AllReadyH.nil
          go_simp
          have I1 := T14.out.now.read (sm_most (outT_sm S.out.1.1)) rfl
          have I2 := T24.out.now.read (sm_most (outT_sm S.out.2.1)) rfl
          have LWx := Lib.hid (And.intro R4.out.le True.intro)
          have leG_Ux := Lib.hid G4.out.le
          refine (specUnionL p1 p2 _ q1 _ q2 (outT d1 e2) (outT e1 d2) _ I1 (plain_of T14.out.now.1) I2 (outT_graph_len PG.out.1) (outT_graph_len PG.out.2.2.1)).mono ?_
          rintro e z10 ⟨v, rfl, ho, hb⟩
          obtain ⟨px, qx, rfl, hh⟩ := ownC_shape ho hb rfl
          clear I1 I2
          clear T14
          clear T24
          have B5 := Lib.hid (B4.out.trans (hb.mono B4.out.size))
          have X5 := Lib.hid (X4.out.next hb)
          have Y5 := Lib.hid (Y4.out.next hb)
          have R5 := Lib.hid (R4.out.next hb)
          have G5 := Lib.hid (G4.out.next hb)
          clear B4 X4 Y4 R4 G4
          have Ux5 := Lib.hid (hh)
          clear hb ho hh
          go_wp2_with fail
          clear hHeld
          refine hK.out _ _ ?_ (fun hHeld => ?_)
          · exact ⟨X5.out.now.two, Y5.out.now.two⟩
          clear hK KK
          refine wpAnyH_ready (rs := [15]) (by kernel_rfl) (by simp) ?_
          refine AllReadyH.cons rfl (fun KK hK => ?_) AllReadyH.nil
          go_simp
          refine (specLess14 a2 b1 n2 c2 k k1 d2 e1 _ (HP.out.2.next B5.out) (HQ.out.1.next B5.out) (by omega) (by omega)).mono ?_
          rintro e z15 ⟨v, rfl, ho, hb⟩
          obtain ⟨p3, q3, rfl, hh⟩ := ownC_shape ho hb rfl
          have B6 := Lib.hid (B5.out.trans (hb.mono B5.out.size))
          have X6 := Lib.hid (X5.out.next hb)
          have Y6 := Lib.hid (Y5.out.next hb)
          have R6 := Lib.hid (R5.out.next hb)
          have G6 := Lib.hid (G5.out.next hb)
          have Ux6 := Lib.hid (Ux5.out.next hb)
          clear B5 X5 Y5 R5 G5 Ux5
          have T36 := Lib.hid (hh)
          clear hb ho hh
          go_wp2_with fail
          clear hHeld
          refine hK.out _ _ ?_ (fun hHeld => ?_)
          · exact ⟨X6.out.now.two, Y6.out.now.two⟩
          clear hK KK
          refine wpAnyH_ready (rs := [20]) (by kernel_rfl) (by simp) ?_
          refine AllReadyH.cons rfl (fun KK hK => ?_) AllReadyH.nil
          go_simp
          refine (specLess14 b2 a1 j k2 n1 c1 e2 d1 _ (HQ.out.2.next B6.out) (HP.out.1.next B6.out) (by omega) (by omega)).mono ?_
          rintro e z20 ⟨v, rfl, ho, hb⟩
          obtain ⟨p4, q4, rfl, hh⟩ := ownC_shape ho hb rfl
          have B7 := Lib.hid (B6.out.trans (hb.mono B6.out.size))
          have X7 := Lib.hid (X6.out.next hb)
          have Y7 := Lib.hid (Y6.out.next hb)
          have R7 := Lib.hid (R6.out.next hb)
          have G7 := Lib.hid (G6.out.next hb)
          have Ux7 := Lib.hid (Ux6.out.next hb)
          have T37 := Lib.hid (T36.out.next hb)
          clear B6 X6 Y6 R6 G6 Ux6 T36
          have T47 := Lib.hid (hh)
          clear hb ho hh
          go_wp2_with fail
          clear hHeld
          refine hK.out _ _ ?_ (fun hHeld => ?_)
          · exact ⟨X7.out.now.two, Y7.out.now.two⟩
          clear hK KK
          refine wpAnyH_ready (rs := [21]) (by kernel_rfl) (by simp) ?_
          refine AllReadyH.cons rfl (fun KK hK => ?_) AllReadyH.nil
          go_simp
          have I1 := T37.out.now.read (sm_most (outT_sm S.out.1.2)) rfl
          have I2 := T47.out.now.read (sm_most (outT_sm S.out.2.2)) rfl
          have LWy := Lib.hid (And.intro R7.out.le True.intro)
          have LXY := Lib.hid Ux7.out.le
          have leG_Uy := Lib.hid G7.out.le
          refine (specUnionL p3 p4 _ q3 _ q4 (outT d2 e1) (outT e2 d1) _ I1 (plain_of T37.out.now.1) I2 (outT_graph_len PG.out.2.1) (outT_graph_len PG.out.2.2.2)).mono ?_
          rintro e z21 ⟨v, rfl, ho, hb⟩
          obtain ⟨py, qy, rfl, hh⟩ := ownC_shape ho hb rfl
          clear I1 I2
          clear T37
          clear T47
          have B8 := Lib.hid (B7.out.trans (hb.mono B7.out.size))
          have X8 := Lib.hid (X7.out.next hb)
          have Y8 := Lib.hid (Y7.out.next hb)
          have R8 := Lib.hid (R7.out.next hb)
          have G8 := Lib.hid (G7.out.next hb)
          have Ux8 := Lib.hid (Ux7.out.next hb)
          clear B7 X7 Y7 R7 G7 Ux7
          have Uy8 := Lib.hid (hh)
          clear hb ho hh
          go_wp2_with fail
          clear hHeld
          refine hK.out _ _ ?_ (fun hHeld => ?_)
          · exact ⟨X8.out.now.two, Y8.out.now.two⟩
          clear hK KK
          refine wpAnyH_take (i := 22) (v := ?_) rfl (by kernel_rfl) (by kernel_rfl) (by kernel_rfl) (fun _ _ _ h => h) (Or.inl ⟨by kernel_rfl, ?_⟩) (by assumption) ?_
          rotate_left
          · intro w hSw; (try dsimp only at hSw); go_simp; try with_reducible rfl
          refine wpAnyH_ready (rs := [24]) (by kernel_rfl) (by simp) ?_
          refine AllReadyH.cons rfl (fun KK hK => ?_) AllReadyH.nil
          obtain ⟨y0, y1⟩ := G8.out.now.two
          obtain ⟨f0, f1⟩ := G8.out.now.frees
          go_simp
          have TS := turn_set2 z21 (V0.heap.size) (.slice px (chDrop d1 d2 e1 e2).length qx) (.slice py (chAdd d1 d2 e1 e2).length qy)
          have XS := Lib.hid (X8.out.step TS (.inl (by have := hgz.out; omega)))
          have YS := Lib.hid (Y8.out.step TS (.inl (by have := hgz.out; omega)))
          have RS := Lib.hid (R8.out.step TS (.inl (by have := hgz.out; omega)))
          have UxS := Lib.hid (Ux8.out.step TS (by first | exact .inl leUx_G.out | exact .inr leG_Ux.out))
          have UyS := Lib.hid (Uy8.out.step TS (by first | exact .inl leUy_G.out | exact .inr leG_Uy.out))
          have GS := Lib.hid (cells_set2 G8.out (.slice px (chDrop d1 d2 e1 e2).length qx) (.slice py (chAdd d1 d2 e1 e2).length qy))
          have BS := Lib.hid (below_two B8.out (V0.heap.size) (by have := hgz.out; omega) (.slice px (chDrop d1 d2 e1 e2).length qx) (.slice py (chAdd d1 d2 e1 e2).length qy))
          clear TS hHeld
          refine hK.out _ _ ?_ (fun hHeld => ?_)
          · exact ⟨XS.out.now.two, YS.out.now.two⟩
          clear hK KK hHeld
          refine wpAnyH_done (by kernel_rfl) ?_ _
          try simp only [Act.put, List.setIfInBounds_toArray, List.set_cons_zero, List.set_cons_succ, List.getElem_toArray, List.getElem_cons_zero, List.getElem_cons_succ]
        all_goals
          go_wp2_with fail
          go_meet
          exact ⟨_, px, qx, py, qy, rfl, BS, RS, GS, _, _, _, _, UxS, UyS, Lib.hid ⟨LWx.out.1, LWy.out.1, LXY.out⟩⟩
      case rest =>
        obtain ⟨g, px, qx, py, qy, rfl, B0, R0, G0, BX, CX, BY, CY, UX0, UY0, LL⟩ := hcut
        obtain ⟨x0, x1⟩ := G0.out.now.two
        have sD : Sm (chDrop d1 d2 e1 e2) := unionT_sm (outT_sm S.out.1.1) (outT_sm S.out.2.1)
        have sA : Sm (chAdd d1 d2 e1 e2) := unionT_sm (outT_sm S.out.1.2) (outT_sm S.out.2.2)
        have nD : (chDrop d1 d2 e1 e2).length ≤ 160 := by
          have h1 := unionT_len (outT e1 d2) (outT d1 e2)
          have h2 := outT_graph_len (us := e2) PG.out.1
          have h3 := outT_graph_len (us := d2) PG.out.2.2.1
          unfold chDrop; omega
        have nA : (chAdd d1 d2 e1 e2).length ≤ 160 := by
          have h1 := unionT_len (outT e2 d1) (outT d2 e1)
          have h2 := outT_graph_len (us := e1) PG.out.2.1
          have h3 := outT_graph_len (us := d1) PG.out.2.2.2
          unfold chAdd; omega
        have A := specPatchOk px py _ _ qx qy (chDrop d1 d2 e1 e2) (chAdd d1 d2 e1 e2) wc ⟨UX0.out.now.read (sm_most sD) rfl, UY0.out.now.read (sm_most sA) rfl⟩ sD sA (by omega) (by omega)
        rw [chain_ok HCH.out] at A
        have HV : Hid (chainedO d1 d2 e1 e2 = if (decide ((chDrop d1 d2 e1 e2).length ≤ 80) && decide ((chAdd d1 d2 e1 e2).length ≤ 80)) = true then some (chDrop d1 d2 e1 e2, chAdd d1 d2 e1 e2) else none) := Lib.hid (by
          unfold chainedO
          by_cases h1 : (chDrop d1 d2 e1 e2).length ≤ 80
          · by_cases h2 : (chAdd d1 d2 e1 e2).length ≤ 80
            · rw [if_pos ⟨HCH.out, h1, h2⟩, decide_eq_true h1, decide_eq_true h2]; rfl
            · rw [if_neg (fun c => h2 c.2.2), decide_eq_false h2]; simp
          · rw [if_neg (fun c => h1 c.2.1), decide_eq_false h1]; simp)
        generalize (decide ((chDrop d1 d2 e1 e2).length ≤ 80) && decide ((chAdd d1 d2 e1 e2).length ≤ 80)) = ok at A HV
        have HA := Lib.hid A
        clear A sD sA nD nA
        go_wp2_with fail
        refine HA.out.mono ?_
        rintro e w9 ⟨rfl, hb⟩
        have B1 := Lib.hid (B0.out.trans (hb.mono B0.out.size))
        have R1 := Lib.hid (R0.out.next hb)
        have G1 := Lib.hid (G0.out.next hb)
        have UX1 := Lib.hid (UX0.out.next hb)
        have UY1 := Lib.hid (UY0.out.next hb)
        clear hb x0 x1 HA B0 R0 G0 UX0 UY0
        obtain ⟨x0, x1⟩ := G1.out.now.two
        obtain ⟨y0, y1⟩ := R1.out.now.two
        obtain ⟨f0, f1⟩ := R1.out.now.frees
        cases ok
        · have HR : Hid (chainedO d1 d2 e1 e2 = none) := Lib.hid (by rw [HV.out]; rfl)
          go_wp2_with fail
          refine bodyPost_ret (v := .tuple #[.agg #[.slice none 0 0, .slice none 0 0], .bool false]) (by simp [results, Try.results28, go_sem, *]) rfl ⟨_, _, by rw [HR.out]; rfl, ?_, below_two B1.out _ (by omega) _ _⟩
          rw [HR.out]
          exact own2_nil _ (by rw [set2_size]; exact B1.out.size)
        · have HR : Hid (chainedO d1 d2 e1 e2 = some (chDrop d1 d2 e1 e2, chAdd d1 d2 e1 e2)) := Lib.hid (by rw [HV.out]; rfl)
          go_wp2_with fail
          refine bodyPost_ret (v := .tuple #[.agg #[.slice px (chDrop d1 d2 e1 e2).length qx, .slice py (chAdd d1 d2 e1 e2).length qy], .bool true]) (by simp [results, Try.results28, go_sem, *]) rfl ⟨_, _, by rw [HR.out]; rfl, ?_, below_two B1.out _ (by omega) _ _⟩
          rw [HR.out]
          exact ⟨own2_lives, Nat.le_refl _, ⟨own_base (ownT_off2 (g := w.heap.size + 2) UX1.out.now.1 (by have := LL.out; omega)) (by have := LL.out; omega), fun j hj => by rw [set2_size]; exact (World.ownsRow.lt UX1.out.now.1 j hj).2⟩, ⟨own_base (ownT_off2 (g := w.heap.size + 2) UY1.out.now.1 (by have := LL.out; omega)) (by have := LL.out; omega), fun j hj => by rw [set2_size]; exact (World.ownsRow.lt UY1.out.now.1 j hj).2⟩, fun j h1 h2 => by have := UX1.out.now.2 j h1; have := (World.ownsRow.lt UY1.out.now.1 j h2).1; have := LL.out; omega⟩
end Go.Proofs.Ytofkploffcplhaa
/- Chained at patches that are held by their triples. -/
namespace Go.Proofs.Ytofkploffcplhaa
open Go.RowKit Go.WideShapes
theorem SmG.chained {d1 d2 e1 e2 : List Tri3} (h1 : SmG d1) (h2 : SmG d2) (h3 : SmG e1) (h4 : SmG e2) : SmG ((chainedO d1 d2 e1 e2).getD ([], [])).1 ∧ SmG ((chainedO d1 d2 e1 e2).getD ([], [])).2 := by
  unfold chainedO
  split
  · rename_i c
    refine ⟨⟨by have := c.2.1; simp only [Option.getD_some]; omega, fun t ht => ?_⟩, ⟨by have := c.2.2; simp only [Option.getD_some]; omega, fun t ht => ?_⟩⟩
    · simp only [Option.getD_some] at ht
      unfold chDrop at ht
      rcases unionT_mem.1 ht with m | m
      · exact h1.2 t (outT_mem.1 m).1
      · exact h3.2 t (outT_mem.1 m).1
    · simp only [Option.getD_some] at ht
      unfold chAdd at ht
      rcases unionT_mem.1 ht with m | m
      · exact h2.2 t (outT_mem.1 m).1
      · exact h4.2 t (outT_mem.1 m).1
  · exact ⟨SmG.nil, SmG.nil⟩
theorem implChainedG {v1 v2 u1 u2 : Value} {d1 d2 e1 e2 : List Tri3} {w : World} (h1 : GotG w v1 d1) (h2 : GotG w v2 d2) (h3 : GotG w u1 e1) (h4 : GotG w u2 e2) : Calls Try.prog 29 #[.agg #[v1, v2], .agg #[u1, u2]] w (GotRes2 (chainedO d1 d2 e1 e2) w) := by
  have S := SmG.chained (e2 := e2) (e1 := e1) (d2 := d2) (d1 := d1)
  obtain ⟨x1, c1, rfl, i1, p1, s1⟩ := h1
  obtain ⟨x2, c2, rfl, i2, p2, s2⟩ := h2
  obtain ⟨x3, c3, rfl, i3, p3, s3⟩ := h3
  obtain ⟨x4, c4, rfl, i4, p4, s4⟩ := h4
  exact (implChained x1 x2 x3 x4 _ _ c1 c2 _ _ c3 c4 d1 d2 e1 e2 w ⟨i1, i2⟩ ⟨i3, i4⟩ s1.sm s2.sm s3.sm s4.sm).mono fun e w' g => gotRes2 g (S s1 s2 s3 s4).1 (S s1 s2 s3 s4).2
theorem specChainedG {v1 v2 u1 u2 : Value} {d1 d2 e1 e2 : List Tri3} {w : World} (h1 : GotG w v1 d1) (h2 : GotG w v2 d2) (h3 : GotG w u1 e1) (h4 : GotG w u2 e2) : Calls Try.prog 28 #[.agg #[v1, v2], .agg #[u1, u2]] w (GotRes2 (chainedO d1 d2 e1 e2) w) := by
  have S := SmG.chained (e2 := e2) (e1 := e1) (d2 := d2) (d1 := d1)
  obtain ⟨x1, c1, rfl, i1, p1, s1⟩ := h1
  obtain ⟨x2, c2, rfl, i2, p2, s2⟩ := h2
  obtain ⟨x3, c3, rfl, i3, p3, s3⟩ := h3
  obtain ⟨x4, c4, rfl, i4, p4, s4⟩ := h4
  exact (specChained x1 x2 x3 x4 _ _ c1 c2 _ _ c3 c4 d1 d2 e1 e2 w ⟨i1, i2⟩ ⟨i3, i4⟩ s1.sm s2.sm s3.sm s4.sm (by have := s1.1; have := s2.1; omega) (by have := s3.1; have := s4.1; omega)).mono fun e w' g => gotRes2 g (S s1 s2 s3 s4).1 (S s1 s2 s3 s4).2
theorem GotG.is {w : World} {x : Option Addr} {n c : Nat} {ts : List Tri3} (h : GotG w (.slice x n c) ts) : IsTris w x n c ts ∧ SmG ts ∧ ts.length = n := by
  obtain ⟨y, d, e, hi, _, hs⟩ := h
  simp only [Value.slice.injEq] at e
  obtain ⟨rfl, rfl, rfl⟩ := e
  exact ⟨hi, hs, rfl⟩
/-- 'append([]T{}, x...)' in a statement of one order. -/
theorem wpList_copy {ops : Array Oper} {rest : List Oper} {o : Oper} {a : Act} {w : World} {Q : Exit → Act → World → Prop} (hgd : o.guard = none) (s x : Operand)
    (ho : o.op = .call { callee := .builtin .append, args := #[s, x], argTypes := #[27, 27] }) (g : Nat) (hs : a.eval s = .slice (some ⟨g, 0, none⟩) 0 0) (hA : Cells g #[] 55 w)
    (ad : Option Addr) (n c : Nat) (ts : List Tri3) (hx : a.eval x = .slice ad n c) (h : IsTris w ad n c ts) (hl : n ≤ 1048576)
    (k : ∀ (v' : Value) (w' : World) (j : Nat), Holds j (j + 1) w' (OwnC j (j + 1) v' ts) → Turn g (g + 1) w w' → wpList Try.prog ops Q rest (a.put o.dst v') w') : wpList Try.prog ops Q (o :: rest) a w :=
  wpList_plain hgd fun _ hK => upon_copy s x ho g hs hA ad n c ts hx h hl fun v' w' j _ _ h3 h4 => hK _ _ (k v' w' j h3 h4)
theorem chain_end {g d1 d2 e1 e2 cd ca : List Tri3} (hG : (chainable d1 d2 e1 e2 ∧ (chDrop d1 d2 e1 e2).length ≤ 80 ∧ (chAdd d1 d2 e1 e2).length ≤ 80) ∧ cd = chDrop d1 d2 e1 e2 ∧ ca = chAdd d1 d2 e1 e2) :
    (patchedO g d1 d2).isSome = true → (patchedO ((patchedO g d1 d2).getD []) e1 e2).isSome = true → (patchedO g cd ca).isSome = true ∧ (patchedO g cd ca).getD [] = (patchedO ((patchedO g d1 d2).getD []) e1 e2).getD [] := by
  obtain ⟨⟨h, l1, l2⟩, rfl, rfl⟩ := hG
  intro c1 c2
  cases h1 : patchedO g d1 d2 with
  | none => rw [h1] at c1; cases c1
  | some x =>
    rw [h1] at c2
    simp only [Option.getD_some] at c2 ⊢
    cases h2 : patchedO x e1 e2 with
    | none => rw [h2] at c2; cases c2
    | some y => rw [chain_does h l1 l2 h1 h2]; exact ⟨rfl, rfl⟩
theorem copy_below {w w' : World} (cs : Array Value) (T : TypeId) (h : Turn w.heap.size (w.heap.size + 1) (w.alloc (.cells cs T)) w') : Below w.heap.size w w' :=
  ((Below.refl w.heap.size w).alloc (Nat.le_refl _) (.cells cs T)).trans (h.below (by simp) (Nat.le_refl _))
end Go.Proofs.Ytofkploffcplhaa
