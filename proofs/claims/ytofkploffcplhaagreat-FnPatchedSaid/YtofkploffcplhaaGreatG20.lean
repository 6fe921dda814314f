/- The program's PatchOk and PatchOf. -/
import Derived.Test.YtofkploffcplhaaGreatG18
import Derived.Test.YtofkploffcplhaaGreatG19
import Derived.Deep.RegionHeld3
import Derived.Deep.RegionWith
import Derived.Test.YtofkploffcplhaaGreatG15
import Derived.Test.YtofkploffcplhaaGreatG16
import Derived.Test.YtofkploffcplhaaGreatG12
namespace Go.Proofs.YtofkploffcplhaaGreat
open Go.RowKit Go.WideShapes Go.Maps
theorem allT_oneP (a : Option Addr) (len cap : Nat) (ts : List Tri3) : allT [(a, len, cap, ts)] = ts := by simp [allT]
/-- A slice put into a variadic call's own row becomes a set. -/
theorem implSetAt (B : Nat) (a : Option Addr) (len cap : Nat) (ts : List Tri3) (w : World) (hB : B < w.heap.size) (hc : w.cell? ⟨B, 0, none⟩ = some (.slice a len cap)) (h : IsTris w a len cap ts) (hl : len ≤ 1000) :
    Calls Tryz.prog 20 #[.slice (some ⟨B, 0, none⟩) 1 1] w fun e w' => ∃ b m us, e = .returned (.map (some b)) ∧ w.heap.size ≤ b ∧ Holds b w'.heap.size w' (fun W => OwnSet W b m us) ∧ (∀ t, t ∈ us ↔ t ∈ ts) ∧ Below w.heap.size w w' := by
  have T := implTripleSet B 1 [(a, len, cap, ts)] w rfl hB (by omega) (by rw [allT_oneP]; have := h.len; omega) (fun i x hx => by
    match i, hx with
    | 0, hx =>
      simp at hx; subst hx
      exact ⟨hc, h⟩)
  rw [allT_oneP] at T
  refine T.mono fun e w' ⟨b, m, he, hb, _, ho, hbl⟩ => ⟨b, m, _, he, hb, ⟨?_, Nat.le_refl _, ho⟩, fun t => by rw [addAll_mem]; simp, hbl⟩
  intro W W' heq hW
  obtain ⟨D, ⟨es, clock, h1, F, h3, h4⟩, h2⟩ := hW
  exact ⟨D, ⟨es, clock, (heq b (Nat.le_refl _) ho.lt).trans h1, F, h3, h4⟩, h2⟩
set_option maxRecDepth 100000 in
set_option maxHeartbeats 3200000 in
theorem implPatchOk (a1 a2 : Option Addr) (n1 n2 c1 c2 : Nat) (t1 t2 : List Tri3) (w : World) (h : Is2 w a1 a2 n1 n2 c1 c2 t1 t2) (s1 : Sm t1) (s2 : Sm t2) :
    Calls Tryz.prog 13 #[.agg #[.slice a1 n1 c1, .slice a2 n2 c2]] w fun e w' => e = .returned (.bool (patchOk t1 t2)) ∧ Below w.heap.size w w' := by
  have B0 := Lib.hid ((Below.refl w.heap.size w).alloc (Nat.le_refl _) (.cells #[.slice a1 n1 c1, .slice a2 n2 c2] 26))
  have X0 := Lib.hid (cells_new w #[.slice a1 n1 c1, .slice a2 n2 c2] 26)
  have H := Lib.hid h
  have HL := Lib.hid (And.intro h.1.len h.2.len)
  have A1 := implGraphOk a1 n1 c1 t1 _ (h.1.next B0.out.drew) s1
  have S2 := Lib.hid s2
  clear h s1 s2
  obtain ⟨x0, x1⟩ := X0.out.drew.now.two
  cases g1 : graphOk t1
  · rw [g1] at A1
    have HR : Hid (patchOk t1 t2 = false) := Lib.hid (by unfold patchOk; rw [g1]; rfl)
    have C1 := Lib.hid A1
    clear A1 g1
    go_enter Tryz.func13, Tryz.ntmps13
    go_wp2_with fail
    refine wp_region_any (by kernel_rfl) ?_
    change wpAny _ _ _ _ _ _ _ (World.drew _)
    refine wpAny_take (i := 0) (v := ?_) rfl (by kernel_rfl) (by kernel_rfl) (by kernel_rfl) (fun _ _ _ h => h) (Or.inl ⟨by kernel_rfl, ?_⟩) ?_
    rotate_left
    · intro w; go_simp; try with_reducible rfl
    refine wpAny_ready (rs := [1]) (by kernel_rfl) (by simp) ?_
    refine AllReady.cons rfl (fun K hK => ?_) AllReady.nil
    go_simp
    refine hK _ _ ?_
    clear hK K
    refine wpAny_ready (rs := [2]) (by kernel_rfl) (by simp) ?_
    refine AllReady.cons rfl (fun K hK => ?_) AllReady.nil
    go_simp
    refine C1.out.mono ?_
    rintro e w1 ⟨rfl, hb⟩
    have B1 := Lib.hid (B0.out.drew.trans (hb.mono B0.out.size))
    have X1 := Lib.hid (X0.out.drew.next hb)
    clear hb
    go_wp2_with fail
    refine wpAny_take (i := 3) (v := ?_) rfl (by kernel_rfl) (by kernel_rfl) (by kernel_rfl) (fun _ _ _ h => h) (Or.inl ⟨by kernel_rfl, ?_⟩) ?_
    rotate_left
    · intro w; go_simp; try with_reducible rfl
    refine wpAny_take (i := 4) (v := undef) rfl (by kernel_rfl) (by kernel_rfl) (by kernel_rfl) (fun _ _ _ h => h) (Or.inr ⟨by kernel_rfl, rfl⟩) ?_
    refine wpAny_take (i := 5) (v := undef) rfl (by kernel_rfl) (by kernel_rfl) (by kernel_rfl) (fun _ _ _ h => h) (Or.inr ⟨by kernel_rfl, rfl⟩) ?_
    refine wpAny_take (i := 6) (v := undef) rfl (by kernel_rfl) (by kernel_rfl) (by kernel_rfl) (fun _ _ _ h => h) (Or.inr ⟨by kernel_rfl, rfl⟩) ?_
    refine wpAny_take (i := 7) (v := ?_) rfl (by kernel_rfl) (by kernel_rfl) (by kernel_rfl) (fun _ _ _ h => h) (Or.inl ⟨by kernel_rfl, ?_⟩) ?_
    rotate_left
    · intro w; go_simp; try with_reducible rfl
    refine wpAny_take (i := 8) (v := ?_) rfl (by kernel_rfl) (by kernel_rfl) (by kernel_rfl) (fun _ _ _ h => h) (Or.inl ⟨by kernel_rfl, ?_⟩) ?_
    rotate_left
    · intro w; go_simp; try with_reducible rfl
    refine wpAny_take (i := 9) (v := undef) rfl (by kernel_rfl) (by kernel_rfl) (by kernel_rfl) (fun _ _ _ h => h) (Or.inr ⟨by kernel_rfl, rfl⟩) ?_
    refine wpAny_take (i := 10) (v := undef) rfl (by kernel_rfl) (by kernel_rfl) (by kernel_rfl) (fun _ _ _ h => h) (Or.inr ⟨by kernel_rfl, rfl⟩) ?_
    refine wpAny_take (i := 11) (v := undef) rfl (by kernel_rfl) (by kernel_rfl) (by kernel_rfl) (fun _ _ _ h => h) (Or.inr ⟨by kernel_rfl, rfl⟩) ?_
    refine wpAny_take (i := 12) (v := undef) rfl (by kernel_rfl) (by kernel_rfl) (by kernel_rfl) (fun _ _ _ h => h) (Or.inr ⟨by kernel_rfl, rfl⟩) ?_
    refine wpAny_take (i := 13) (v := undef) rfl (by kernel_rfl) (by kernel_rfl) (by kernel_rfl) (fun _ _ _ h => h) (Or.inr ⟨by kernel_rfl, rfl⟩) ?_
    refine wpAny_take (i := 14) (v := undef) rfl (by kernel_rfl) (by kernel_rfl) (by kernel_rfl) (fun _ _ _ h => h) (Or.inr ⟨by kernel_rfl, rfl⟩) ?_
    refine wpAny_take (i := 15) (v := undef) rfl (by kernel_rfl) (by kernel_rfl) (by kernel_rfl) (fun _ _ _ h => h) (Or.inr ⟨by kernel_rfl, rfl⟩) ?_
    refine wpAny_take (i := 16) (v := undef) rfl (by kernel_rfl) (by kernel_rfl) (by kernel_rfl) (fun _ _ _ h => h) (Or.inr ⟨by kernel_rfl, rfl⟩) ?_
    refine wpAny_take (i := 17) (v := ?_) rfl (by kernel_rfl) (by kernel_rfl) (by kernel_rfl) (fun _ _ _ h => h) (Or.inl ⟨by kernel_rfl, ?_⟩) ?_
    rotate_left
    · intro w; go_simp; try with_reducible rfl
    refine wpAny_take (i := 18) (v := ?_) rfl (by kernel_rfl) (by kernel_rfl) (by kernel_rfl) (fun _ _ _ h => h) (Or.inl ⟨by kernel_rfl, ?_⟩) ?_
    rotate_left
    · intro w; go_simp; try with_reducible rfl
    refine wpAny_done (by kernel_rfl) ?_ _
    try simp only [Act.put, List.setIfInBounds_toArray, List.set_cons_zero, List.set_cons_succ, List.getElem_toArray, List.getElem_cons_zero, List.getElem_cons_succ]
    go_wp2_with fail
    go_ret
    exact ⟨by rw [HR.out]; rfl, B1.out⟩
  rw [g1] at A1
  have C1 := Lib.hid A1
  have G1 := Lib.hid g1
  clear A1 g1
  cases g2 : graphOk t2
  · have HR : Hid (patchOk t1 t2 = false) := Lib.hid (by unfold patchOk; rw [g2]; simp)
    have C2 : Hid (∀ W, Below w.heap.size w W → Calls Tryz.prog 17 #[.slice a2 n2 c2] W fun e w' => e = .returned (.bool false) ∧ Below W.heap.size W w') := Lib.hid (fun W hb => by have := implGraphOk a2 n2 c2 t2 W (H.out.2.next hb) S2.out; rwa [g2] at this)
    clear g2
    go_enter Tryz.func13, Tryz.ntmps13
    go_wp2_with fail
    refine wp_region_any (by kernel_rfl) ?_
    change wpAny _ _ _ _ _ _ _ (World.drew _)
    refine wpAny_take (i := 0) (v := ?_) rfl (by kernel_rfl) (by kernel_rfl) (by kernel_rfl) (fun _ _ _ h => h) (Or.inl ⟨by kernel_rfl, ?_⟩) ?_
    rotate_left
    · intro w; go_simp; try with_reducible rfl
    refine wpAny_ready (rs := [1]) (by kernel_rfl) (by simp) ?_
    refine AllReady.cons rfl (fun K hK => ?_) AllReady.nil
    go_simp
    refine hK _ _ ?_
    clear hK K
    refine wpAny_ready (rs := [2]) (by kernel_rfl) (by simp) ?_
    refine AllReady.cons rfl (fun K hK => ?_) AllReady.nil
    go_simp
    refine C1.out.mono ?_
    rintro e w1 ⟨rfl, hb⟩
    have B1 := Lib.hid (B0.out.drew.trans (hb.mono B0.out.size))
    have X1 := Lib.hid (X0.out.drew.next hb)
    clear hb
    obtain ⟨x0, x1⟩ := X1.out.now.two
    go_wp2_with fail
    refine wpAny_take (i := 3) (v := ?_) rfl (by kernel_rfl) (by kernel_rfl) (by kernel_rfl) (fun _ _ _ h => h) (Or.inl ⟨by kernel_rfl, ?_⟩) ?_
    rotate_left
    · intro w; go_simp; try with_reducible rfl
    refine wpAny_take (i := 4) (v := ?_) rfl (by kernel_rfl) (by kernel_rfl) (by kernel_rfl) (fun _ _ _ h => h) (Or.inl ⟨by kernel_rfl, ?_⟩) ?_
    rotate_left
    · intro w; go_simp; try with_reducible rfl
    refine wpAny_ready (rs := [5]) (by kernel_rfl) (by simp) ?_
    refine AllReady.cons rfl (fun K hK => ?_) AllReady.nil
    go_simp
    refine hK _ _ ?_
    clear hK K
    refine wpAny_ready (rs := [6]) (by kernel_rfl) (by simp) ?_
    refine AllReady.cons rfl (fun K hK => ?_) AllReady.nil
    go_simp
    refine (C2.out _ B1.out).mono ?_
    rintro e w2 ⟨rfl, hb⟩
    have B2 := Lib.hid (B1.out.trans (hb.mono B1.out.size))
    clear hb
    go_wp2_with fail
    refine wpAny_take (i := 7) (v := ?_) rfl (by kernel_rfl) (by kernel_rfl) (by kernel_rfl) (fun _ _ _ h => h) (Or.inl ⟨by kernel_rfl, ?_⟩) ?_
    rotate_left
    · intro w; go_simp; try with_reducible rfl
    refine wpAny_take (i := 8) (v := ?_) rfl (by kernel_rfl) (by kernel_rfl) (by kernel_rfl) (fun _ _ _ h => h) (Or.inl ⟨by kernel_rfl, ?_⟩) ?_
    rotate_left
    · intro w; go_simp; try with_reducible rfl
    refine wpAny_take (i := 9) (v := undef) rfl (by kernel_rfl) (by kernel_rfl) (by kernel_rfl) (fun _ _ _ h => h) (Or.inr ⟨by kernel_rfl, rfl⟩) ?_
    refine wpAny_take (i := 10) (v := undef) rfl (by kernel_rfl) (by kernel_rfl) (by kernel_rfl) (fun _ _ _ h => h) (Or.inr ⟨by kernel_rfl, rfl⟩) ?_
    refine wpAny_take (i := 11) (v := undef) rfl (by kernel_rfl) (by kernel_rfl) (by kernel_rfl) (fun _ _ _ h => h) (Or.inr ⟨by kernel_rfl, rfl⟩) ?_
    refine wpAny_take (i := 12) (v := undef) rfl (by kernel_rfl) (by kernel_rfl) (by kernel_rfl) (fun _ _ _ h => h) (Or.inr ⟨by kernel_rfl, rfl⟩) ?_
    refine wpAny_take (i := 13) (v := undef) rfl (by kernel_rfl) (by kernel_rfl) (by kernel_rfl) (fun _ _ _ h => h) (Or.inr ⟨by kernel_rfl, rfl⟩) ?_
    refine wpAny_take (i := 14) (v := undef) rfl (by kernel_rfl) (by kernel_rfl) (by kernel_rfl) (fun _ _ _ h => h) (Or.inr ⟨by kernel_rfl, rfl⟩) ?_
    refine wpAny_take (i := 15) (v := undef) rfl (by kernel_rfl) (by kernel_rfl) (by kernel_rfl) (fun _ _ _ h => h) (Or.inr ⟨by kernel_rfl, rfl⟩) ?_
    refine wpAny_take (i := 16) (v := undef) rfl (by kernel_rfl) (by kernel_rfl) (by kernel_rfl) (fun _ _ _ h => h) (Or.inr ⟨by kernel_rfl, rfl⟩) ?_
    refine wpAny_take (i := 17) (v := ?_) rfl (by kernel_rfl) (by kernel_rfl) (by kernel_rfl) (fun _ _ _ h => h) (Or.inl ⟨by kernel_rfl, ?_⟩) ?_
    rotate_left
    · intro w; go_simp; try with_reducible rfl
    refine wpAny_take (i := 18) (v := ?_) rfl (by kernel_rfl) (by kernel_rfl) (by kernel_rfl) (fun _ _ _ h => h) (Or.inl ⟨by kernel_rfl, ?_⟩) ?_
    rotate_left
    · intro w; go_simp; try with_reducible rfl
    refine wpAny_done (by kernel_rfl) ?_ _
    try simp only [Act.put, List.setIfInBounds_toArray, List.set_cons_zero, List.set_cons_succ, List.getElem_toArray, List.getElem_cons_zero, List.getElem_cons_succ]
    go_wp2_with fail
    go_ret
    exact ⟨by rw [HR.out]; rfl, B2.out⟩
  have C2 : Hid (∀ W, Below w.heap.size w W → Calls Tryz.prog 17 #[.slice a2 n2 c2] W fun e w' => e = .returned (.bool true) ∧ Below W.heap.size W w') := Lib.hid (fun W hb => by have := implGraphOk a2 n2 c2 t2 W (H.out.2.next hb) S2.out; rwa [g2] at this)
  have l1 : n1 ≤ 80 := by have := graphOk_len G1.out; have := HL.out.1; omega
  have l2 : n2 ≤ 80 := by have := graphOk_len g2; have := HL.out.2; omega
  have HR : Hid (patchOk t1 t2 = !anyT t1 t2) := Lib.hid (by unfold patchOk; rw [G1.out, g2]; rfl)
  clear g2 G1
  go_enter Tryz.func13, Tryz.ntmps13
  go_wp2_with fail
  go_region_held3 (fun w' => w'.cell? ⟨w.heap.size, 0, none⟩ = some (.slice a1 n1 c1) ∧ w'.cell? ⟨w.heap.size, 1, none⟩ = some (.slice a2 n2 c2))
    (first | with_reducible exact X5.out.now.two | with_reducible exact X4.out.now.two | with_reducible exact X3.out.now.two | with_reducible exact X2.out.now.two | with_reducible exact (X2.out.alloc _).now.two | with_reducible exact X1.out.now.two | with_reducible exact X0.out.drew.now.two)
    (first
      | (go_at_call 17; have Z := B1; clear Z; refine (C2.out _ B1.out).mono ?_; rintro e w2 ⟨rfl, hb⟩; have B2 := Lib.hid (B1.out.trans (hb.mono B1.out.size)); have X2 := Lib.hid (X1.out.next hb); clear hb)
      | (go_at_call 17; refine C1.out.mono ?_; rintro e w1 ⟨rfl, hb⟩; have B1 := Lib.hid (B0.out.drew.trans (hb.mono B0.out.size)); have X1 := Lib.hid (X0.out.drew.next hb); clear hb)
      | (go_at_call 20; refine (implSetAt w2.heap.size a1 n1 c1 t1 _ (by simp) (by simp) (H.out.1.next (B2.out.alloc B2.out.size _)) (by omega)).mono ?_; rintro e w4 ⟨b, m, us, rfl, hbl, ho, hm, hb⟩
         have B4 := Lib.hid ((B2.out.alloc B2.out.size _).trans (hb.mono (B2.out.alloc B2.out.size _).size)); have X4 := Lib.hid ((X2.out.alloc _).next hb); have O4 := Lib.hid ho; have M4 := Lib.hid hm; clear hb ho hm)
      | (go_at_call 22; refine (implHasAny b m us a2 n2 c2 t2 _ O4.out.now (H.out.2.next B4.out) (by omega)).mono ?_; rintro e w5 ⟨rfl, hb⟩; have B5 := Lib.hid (B4.out.trans (hb.mono B4.out.size)); have X5 := Lib.hid (X4.out.next hb); clear hb))
  have HQ : Hid (anyT us t2 = anyT t1 t2) := Lib.hid (anyT_same M4.out)
  generalize anyT us t2 = q at HQ ⊢
  cases q
  all_goals
    go_wp2_with fail
    go_ret
    exact ⟨by rw [HR.out, ← HQ.out]; rfl, B5.out⟩
theorem implDelAny (b m : Nat) (us : List Tri3) (v : Value) (ts : List Tri3) (B : Nat) (w : World) (hS : OwnSet w b m us) (hbB : b < B) (hBw : B ≤ w.heap.size) (h : OwnT B w v ts) (hl : ts.length ≤ 1048576) (hm : ∀ t ∈ ts, SmK t) :
    Calls Tryz.prog 44 #[v, .func (.func 42) #[.map (some b)] #[]] w fun e w' => ∃ v', e = .returned v' ∧ OwnT B w' v' (outT ts us) ∧ Below B w w' := by
  have h0 := h
  rcases h.2 with ⟨rfl, e⟩ | ⟨g, cap, cur, rfl, hB, _⟩
  · obtain rfl : ts = [] := List.length_eq_zero_iff.1 e
    have C := Lib.hid (implIndexHas b m us none 0 0 [] w hS (.inl ⟨rfl, rfl, rfl, rfl⟩) (by omega))
    clear h h0 hS hm e
    go_enter Tryz.func44, Tryz.ntmps44
    go_wp2_with fail
    refine C.out.mono ?_
    rintro e w1 ⟨i, rfl, hi, hb1⟩
    rcases hi with ⟨rfl, _⟩ | ⟨k, t, rfl, ht, _⟩
    · go_wp2_with fail
      go_ret
      exact ⟨_, rfl, World.ownsRow_nil .., hb1.mono hBw⟩
    · simp at ht
  · refine (implDelete b m g ts.length cap us ts B w hS (by omega) h0 rfl hl hm).mono fun e w' ⟨i, he, ho, hg⟩ => ⟨_, he, ho, ?_⟩
    exact (Below.refl B w).grown hg hBw (fun k e => by cases e; exact hB)
end Go.Proofs.YtofkploffcplhaaGreat
/- The program's outOf, PatchOf and Inverse. -/
namespace Go.Proofs.YtofkploffcplhaaGreat
open Go.RowKit Go.WideShapes Go.Maps
set_option maxRecDepth 100000 in
theorem implOutOf (b m : Nat) (us : List Tri3) (a : Option Addr) (len cap : Nat) (ts : List Tri3) (w : World) (hS : OwnSet w b m us) (h : IsTris w a len cap ts) (hl : len ≤ 1048576) :
    Calls Tryz.prog 24 #[.map (some b), .slice a len cap] w fun e w' => ∃ v, e = .returned v ∧ OwnT w.heap.size w' v (outT ts us) ∧ Below w.heap.size w w' := by
  have C := Lib.hid (implClone a len cap ts w h hl)
  have HS := Lib.hid hS
  have hbl := hS.lt
  have HM : Hid (∀ t ∈ ts, SmK t) := Lib.hid (fun t ht => h.small t ht)
  have HL := Lib.hid h.len
  clear h hS
  go_enter Tryz.func24, Tryz.ntmps24
  go_wp2_with fail
  refine C.out.mono ?_
  rintro e w1 ⟨v, rfl, ho, hb⟩
  have D := Lib.hid (implDelAny b m us v ts w.heap.size w1 (HS.out.next hb) hbl hb.size ho (by rw [HL.out]; exact hl) HM.out)
  have HB := Lib.hid hb
  obtain ⟨p, q, r, rfl⟩ : ∃ a n c, v = .slice a n c := by
    rcases ho.2 with ⟨rfl, _⟩ | ⟨g, c, cur, rfl, _⟩
    · exact ⟨_, _, _, rfl⟩
    · exact ⟨_, _, _, rfl⟩
  clear ho hb C
  go_wp2_with fail
  refine D.out.mono ?_
  rintro e w2 ⟨v', rfl, ho, hb⟩
  have HO := Lib.hid ho
  clear ho
  go_wp2_with fail
  go_ret
  exact ⟨_, rfl, HO.out, HB.out.trans hb⟩
theorem ownT_shape {B : Nat} {w : World} {v : Value} {ts : List Tri3} (h : OwnT B w v ts) : ∃ a n c, v = .slice a n c := by
  rcases h.2 with ⟨rfl, _⟩ | ⟨g, c, cur, rfl, _⟩
  · exact ⟨_, _, _, rfl⟩
  · exact ⟨_, _, _, rfl⟩
theorem ownT_same {B : Nat} {w w' : World} {v : Value} {ts : List Tri3} (h : OwnT B w v ts) (he : ∀ k, B ≤ k → w'.heap[k]? = w.heap[k]?) : OwnT B w' v ts := by
  obtain ⟨h1, h2⟩ := h
  refine ⟨h1, ?_⟩
  rcases h2 with h2 | ⟨g, cap, cur, e, hB, hh, r⟩
  · exact .inl h2
  · exact .inr ⟨g, cap, cur, e, hB, (he g hB).trans hh, r⟩
theorem ownT_off2 {B g : Nat} {W : World} {v x y : Value} {ts : List Tri3} (h : OwnT B W v ts) (hg : g < B) : OwnT B ((W.setCell ⟨g, 0, none⟩ x).setCell ⟨g, 1, none⟩ y) v ts := ownT_same h (fun k hk => by
  rw [Below.heap_setCell _ _ _ _ (by show k ≠ g; omega), Below.heap_setCell _ _ _ _ (by show k ≠ g; omega)])
/-- Behind the last stores into the result's own block. -/
theorem own2_end {w W W' : World} {v1 v2 : Value} {t1 t2 : List Tri3} {B1 B2 : Nat} (o1 : OwnT B1 W v1 t1) (o2 : OwnT B2 W v2 t2) (h1 : w.heap.size < B1) (h2 : w.heap.size < B2) (hne : ∀ j, v1.ownBlock = some j → v2.ownBlock ≠ some j) (hs : W'.heap.size = W.heap.size) (he : ∀ k, k ≠ w.heap.size → W'.heap[k]? = W.heap[k]?) :
    Holds w.heap.size W'.heap.size W' (Own2 w.heap.size W'.heap.size v1 v2 t1 t2) :=
  ⟨own2_lives, Nat.le_refl _, ⟨own_base (ownT_same o1 (fun k hk => he k (by omega))) (by omega), fun j hj => by rw [hs]; exact (World.ownsRow.lt o1 j hj).2⟩, ⟨own_base (ownT_same o2 (fun k hk => he k (by omega))) (by omega), fun j hj => by rw [hs]; exact (World.ownsRow.lt o2 j hj).2⟩, hne⟩
theorem own2_nil {B : Nat} (W : World) (_hB : B ≤ W.heap.size) : Holds B W.heap.size W (Own2 B W.heap.size (.slice none 0 0) (.slice none 0 0) [] []) :=
  ⟨own2_lives, Nat.le_refl _, ⟨World.ownsRow_nil .., fun j hj => by cases hj⟩, ⟨World.ownsRow_nil .., fun j hj => by cases hj⟩, fun j hj => by cases hj⟩
theorem set2_else (W : World) (g : Nat) (x y : Value) : ∀ k, k ≠ g → ((W.setCell ⟨g, 0, none⟩ x).setCell ⟨g, 1, none⟩ y).heap[k]? = W.heap[k]? := fun k hk => by
  rw [Below.heap_setCell _ _ _ _ (by show k ≠ g; exact hk), Below.heap_setCell _ _ _ _ (by show k ≠ g; exact hk)]
theorem set2_size (W : World) (g : Nat) (x y : Value) : ((W.setCell ⟨g, 0, none⟩ x).setCell ⟨g, 1, none⟩ y).heap.size = W.heap.size := by simp [World.setCell]
theorem below_two {B : Nat} {w W : World} (h : Below B w W) (g : Nat) (hg : B ≤ g) (x y : Value) : Below B w ((W.setCell ⟨g, 0, none⟩ x).setCell ⟨g, 1, none⟩ y) := (h.setCell (p := ⟨g, 0, none⟩) hg x).setCell (p := ⟨g, 1, none⟩) hg y
theorem Cells.frees {g : Nat} {x y : Value} {T : TypeId} {w : World} (h : Cells g #[x, y] T w) : w.frozen? ⟨g, 0, none⟩ = false ∧ w.frozen? ⟨g, 1, none⟩ = false := ⟨h.free 0, h.free 1⟩
theorem two_off {g k : Nat} {x y u v : Value} {T : TypeId} {W : World} (h : Cells g #[x, y] T W) (hk : g ≠ k) : ((W.setCell ⟨k, 0, none⟩ u).setCell ⟨k, 1, none⟩ v).cell? ⟨g, 0, none⟩ = some x ∧ ((W.setCell ⟨k, 0, none⟩ u).setCell ⟨k, 1, none⟩ v).cell? ⟨g, 1, none⟩ = some y :=
  Cells.two (T := T) ((set2_else W k u v g hk).trans h)
/-- What PatchOf and Chained answer. -/
def Res2 (r : Option (List Tri3 × List Tri3)) (w : World) (e : Ending) (w' : World) : Prop :=
  ∃ v1 v2, e = .returned (.tuple #[.agg #[v1, v2], .bool r.isSome]) ∧ Holds w.heap.size w'.heap.size w' (Own2 w.heap.size w'.heap.size v1 v2 (r.getD ([], [])).1 (r.getD ([], [])).2) ∧ Below w.heap.size w w'
set_option maxRecDepth 100000 in
set_option maxHeartbeats 3200000 in
theorem implInverse (a1 a2 : Option Addr) (n1 n2 c1 c2 : Nat) (t1 t2 : List Tri3) (w : World) (h : Is2 w a1 a2 n1 n2 c1 c2 t1 t2) (l1 : n1 ≤ 1048576) (l2 : n2 ≤ 1048576) :
    Calls Tryz.prog 11 #[.agg #[.slice a1 n1 c1, .slice a2 n2 c2]] w fun e w' => ∃ v1 v2, e = .returned (.agg #[v1, v2]) ∧ Holds w.heap.size w'.heap.size w' (Own2 w.heap.size w'.heap.size v1 v2 t2 t1) ∧ Below w.heap.size w w' := by
  obtain ⟨W1, hW1⟩ : ∃ W, w.alloc (.cells #[.slice a1 n1 c1, .slice a2 n2 c2] 26) = W := ⟨_, rfl⟩
  obtain ⟨W2, hW2⟩ : ∃ W, W1.alloc (.cells #[.slice none 0 0, .slice none 0 0] 26) = W := ⟨_, rfl⟩
  have z1 : W1.heap.size = w.heap.size + 1 := by rw [← hW1]; simp
  have z2 : W2.heap.size = w.heap.size + 2 := by rw [← hW2]; simp [z1]
  have B0 : Hid (Below w.heap.size w W2) := Lib.hid (by rw [← hW2, ← hW1]; exact ((Below.refl w.heap.size w).alloc (Nat.le_refl _) _).alloc (by simp) _)
  have X0 : Hid (Holds w.heap.size (w.heap.size + 1) W2 (Cells w.heap.size #[.slice a1 n1 c1, .slice a2 n2 c2] 26)) := Lib.hid (by rw [← hW2, ← hW1]; exact (cells_new w _ _).alloc _)
  have Y0 : Hid (Holds (w.heap.size + 1) (w.heap.size + 2) W2 (Cells (w.heap.size + 1) #[.slice none 0 0, .slice none 0 0] 26)) := Lib.hid (by
    have := cells_new W1 #[.slice none 0 0, .slice none 0 0] 26
    rw [hW2, z1] at this; exact this)
  have H := Lib.hid h
  have HW := Lib.hid (And.intro hW1 hW2)
  have HZ := Lib.hid z2
  clear h hW1 hW2 z1 z2
  obtain ⟨x0, x1⟩ := X0.out.drew.now.two
  go_enter Tryz.func11, Tryz.ntmps11
  go_wp2_with fail
  rw [HW.out.1, HW.out.2]
  go_region_held3 (fun w' => w'.cell? ⟨w.heap.size, 0, none⟩ = some (.slice a1 n1 c1) ∧ w'.cell? ⟨w.heap.size, 1, none⟩ = some (.slice a2 n2 c2))
    (first | with_reducible exact two_off X4.out.now (by omega) | with_reducible exact X4.out.now.two | with_reducible exact X3.out.now.two | with_reducible exact X0.out.drew.now.two)
    (first
      | (go_at_call 30; have Z := B3; clear Z; refine (implClone a1 n1 c1 t1 _ (H.out.1.next B3.out) l1).mono ?_; rintro e w4 ⟨v2, rfl, ho, hb⟩; have P4 := Lib.hid ho; have O4 := Lib.hid (own_next O3.out (grown_of_below hb)); have B4 := Lib.hid (B3.out.trans (hb.mono B3.out.size)); have X4 := Lib.hid (X3.out.next hb); have Y4 := Lib.hid (Y3.out.next hb); obtain ⟨p2, q2, r2, rfl⟩ := ownT_shape P4.out; obtain ⟨y0, y1⟩ := Y4.out.now.two; obtain ⟨f0, f1⟩ := Y4.out.now.frees; clear hb ho)
      | (go_at_call 30; refine (implClone a2 n2 c2 t2 _ (H.out.2.next B0.out.drew) l2).mono ?_; rintro e w3 ⟨v1, rfl, ho, hb⟩; have O3 := Lib.hid ho; have B3 := Lib.hid (B0.out.drew.trans (hb.mono B0.out.size)); have X3 := Lib.hid (X0.out.drew.next hb); have Y3 := Lib.hid (Y0.out.drew.next hb); have L3 : Hid (∀ j, v1.ownBlock = some j → j < w3.heap.size) := Lib.hid (fun j hj => (World.ownsRow.lt ho j hj).2); obtain ⟨p1, q1, r1, rfl⟩ := ownT_shape O3.out; have HZ3 := Lib.hid hb.size; clear hb ho))
  go_wp2_with fail
  refine bodyPost_ret (v := .agg #[.slice p1 q1 r1, .slice p2 q2 r2]) (by simp [results, Tryz.results11, go_sem, *]) rfl ⟨_, _, rfl, ?_, below_two B4.out _ (Nat.le_succ _) _ _⟩
  have L4 := L3.out
  have hz : w.heap.size + 2 ≤ w3.heap.size := by have := HZ3.out; have := HZ.out; simp at *; omega
  exact ⟨own2_lives, Nat.le_refl _, ⟨own_base (ownT_off2 O4.out (by have := HZ.out; simp; omega)) (by have := HZ.out; simp; omega), fun j hj => by rw [set2_size]; exact (World.ownsRow.lt O4.out j hj).2⟩, ⟨own_base (ownT_off2 P4.out (by omega)) (by omega), fun j hj => by rw [set2_size]; exact (World.ownsRow.lt P4.out j hj).2⟩, fun j h1 h2 => by have := L4 j h1; have := (World.ownsRow.lt P4.out j h2).1; omega⟩
end Go.Proofs.YtofkploffcplhaaGreat
/- What is drawn for PatchOf, with whose it is. -/
namespace Go.Proofs.YtofkploffcplhaaGreat
open Go.RowKit Go.WideShapes
set_option maxRecDepth 100000 in
set_option maxHeartbeats 6400000 in
theorem drawPatchOfO (w : World) (a : Option Addr) (len cap : Nat) (zs : List Int) (hrow : Frame.IsRow .u8 w a len cap zs) :
    Calls Tryz.prog 18 #[.slice a len cap] w fun e w' => ∃ (va vb : Value) (ts us : List Tri3), e = .returned (.tuple #[va, vb]) ∧ (OwnT w.heap.size w' va ts ∧ SmG ts) ∧ (OwnT w.heap.size w' vb us ∧ SmG us) ∧ w.grownBy w' none := by
  go_enter Tryz.func18, Tryz.ntmps18
  go_wp2_with fail
  refine (rdOpen _ _ _ _ _ hrow).mono ?_
  rintro e w1 ⟨rfl, r1, g1⟩
  have hgC : w.heap.size < w1.heap.size := r1.2.1
  go_wp2_with fail
  refine (rdGraph _ _ _ r1 7 (by omega)).mono ?_
  rintro e w2 ⟨va, ts, rfl, s2, o2, r2, g2⟩
  have G2 := Lib.hid (grown_off g1 g2 (fun q e => by cases e; omega))
  have HS := Lib.hid s2
  have HO2 := Lib.hid o2
  have HM := Lib.hid (rdBelow _ _ _ r2 4 (by omega) (by omega))
  obtain ⟨xa, La, ya, rfl⟩ := ownT_shapeD o2
  clear g1 s2 o2 r1
  have hsz := g2.size
  clear g2
  go_wp2_with fail
  refine HM.out.mono ?_
  rintro e w3 ⟨m, hm0, hm1, rfl, r3, g3⟩
  have G3 := Lib.hid (grown_off G2.out g3 (fun q e => by cases e; omega))
  obtain ⟨m, rfl⟩ := Int.eq_ofNat_of_zero_le hm0
  have hm4 : m ≤ 4 := by omega
  have HA3 := Lib.hid (own_rd HO2.out g3 hgC (Nat.le_refl _))
  have HR3 := Lib.hid r3
  have hsz3 : w1.heap.size ≤ w3.heap.size := by have := g3.size; omega
  have HZ3 := Lib.hid hsz3
  clear g3 r3 HM HO2 G2 hm0 hm1 r2 hsz hsz3
  go_wp2_with fail
  go_loopw [6, 7, 8, 9] (fun b i _ _ wr => ∃ (j : Nat) (v : Value) (us : List Tri3), j ≤ 4 ∧ i = .int .i64 j ∧ v = b ∧ Hid (SmG us) ∧ Hid (OwnT w1.heap.size wr v us) ∧ Hid (OwnT w1.heap.size wr (.slice xa La ya) ts) ∧ Hid (Rd w.heap.size wr w.heap.size) ∧ Hid (w.grownBy wr none) ∧ Hid (w1.heap.size ≤ wr.heap.size)) (fun _ i _ _ _ => (intOf i).toNat)
  case atStart => exact ⟨m, _, ts, hm4, rfl, rfl, HS, HA3, HA3, HR3, G3, HZ3⟩
  case round =>
    obtain ⟨j, v, us, hj, rfl, rfl, hsm, hb, ha, hrd, hg, hz0⟩ := hrel
    clear HA3 HR3 G3 hm4
    obtain ⟨x, L, y, rfl⟩ := ownT_shapeD hb.out
    have HL := Lib.hid (ownT_lenD hb.out)
    have hL81 : L ≤ 81 := by have := hsm.out.1; have := HL.out; omega
    by_cases hj0 : 0 < j
    · have hj1 : (0 : Int) < (j : Int) := by omega
      have HT := Lib.hid (rdTriple _ _ wr hrd.out)
      go_wp2_with fail
      refine HT.out.mono ?_
      rintro e w2 ⟨s, p, o, hs, hp, ho, rfl, r2, g2⟩
      have G2 := Lib.hid (grown_off hg.out g2 (fun q e => by cases e; omega))
      have Z2 := Lib.hid (Nat.le_trans hz0.out g2.size)
      have HB2 := Lib.hid (own_rd hb.out g2 hgC (Nat.le_refl _))
      have HA2 := Lib.hid (own_rd ha.out g2 hgC (Nat.le_refl _))
      have HR2 := Lib.hid r2
      obtain ⟨x2, y2, hv2, i2, p2⟩ := OwnT.plain HB2.out hsm.out.maxLen
      rw [HL.out] at hv2 i2
      simp only [Value.slice.injEq, true_and] at hv2
      obtain ⟨rfl, rfl⟩ := hv2
      have C := specWith x L y us s p o w2 i2 p2 hsm.out.sm (by omega) (by omega) (by omega)
      have HW := (hsm.out.with_ (t := (s, p, o)) ⟨hs.2, hp, ho⟩).1
      obtain ⟨N3, hN3⟩ : ∃ l, (withT us (s, p, o)).getD [] = l := ⟨_, rfl⟩
      unfold ResPost at C
      rw [hN3] at C HW
      generalize (withT us (s, p, o)).isSome = ok at C
      have HC := Lib.hid C
      have HW3 := Lib.hid HW
      clear hrd hb ha hg g2 r2 i2 p2 C hN3 hs hp ho HT HW
      go_wp2_with fail
      refine HC.out.mono ?_
      rintro e w3 ⟨v3, rfl, o3, hb3⟩
      have G3 := Lib.hid (G2.out.trans (grown_of_below hb3))
      have HR3 := Lib.hid (rd_far HR2.out hb3)
      have Z3 := Lib.hid (Nat.le_trans Z2.out hb3.size)
      have HB3 := Lib.hid (own_next HB2.out (grown_of_below hb3))
      have HA3 := Lib.hid (own_next HA2.out (grown_of_below hb3))
      have HN3 := Lib.hid (own_base (B' := w1.heap.size) o3 Z2.out)
      obtain ⟨p3, q3, r3, rfl⟩ := ownT_shapeD HN3.out
      clear o3 hb3 HC G2 HR2 HB2 HA2
      by_cases hL0 : 0 < L
      · have hL1 : (0 : Int) < (L : Int) := by omega
        have HN := Lib.hid (rdOnce _ _ _ HR3.out 2 (by omega) (by omega))
        go_wp2_with fail
        refine HN.out.mono ?_
        rintro e w4 ⟨bb, rfl, r4, g4⟩
        have G4 := Lib.hid (grown_off G3.out g4 (fun q e => by cases e; omega))
        have Z4 := Lib.hid (Nat.le_trans Z3.out g4.size)
        have HB4 := Lib.hid (own_rd HB3.out g4 hgC (Nat.le_refl _))
        have HA4 := Lib.hid (own_rd HA3.out g4 hgC (Nat.le_refl _))
        have HN4 := Lib.hid (own_rd HN3.out g4 hgC (Nat.le_refl _))
        have HR4 := Lib.hid r4
        clear HN r4 g4 G3 HB3 HA3 HN3 HR3
        cases bb
        · cases ok
          · go_wp2_with fail
            go_roundw
            case rel => exact ⟨j - 1, _, us, by omega, by rw [show ((j - 1 : Nat) : Int) = (j : Int) - 1 from by omega], rfl, hsm, HB4, HA4, HR4, G4, Z4⟩
            case measure => simp [intOf]; omega
          · go_wp2_with fail
            go_roundw
            case rel => exact ⟨j - 1, _, N3, by omega, by rw [show ((j - 1 : Nat) : Int) = (j : Int) - 1 from by omega], rfl, HW3, HN4, HA4, HR4, G4, Z4⟩
            case measure => simp [intOf]; omega
        · have HM := Lib.hid (rdBelow _ _ _ HR4.out (L : Int) (by omega) (by omega))
          go_wp2_with fail
          refine HM.out.mono ?_
          rintro e w5 ⟨m, hm0, hm1, rfl, r5, g5⟩
          obtain ⟨m, rfl⟩ := Int.eq_ofNat_of_zero_le hm0
          have hmL : m < L := by omega
          have G5 := Lib.hid (grown_off G4.out g5 (fun q e => by cases e; omega))
          have Z5 := Lib.hid (Nat.le_trans Z4.out g5.size)
          have HB5 := Lib.hid (own_rd HB4.out g5 hgC (Nat.le_refl _))
          have HA5 := Lib.hid (own_rd HA4.out g5 hgC (Nat.le_refl _))
          have HR5 := Lib.hid r5
          obtain ⟨b1, off, u, rfl, c0, c1, c2, k0, k1, k2⟩ := pick_of HB5.out hsm.out HL.out hmL
          obtain ⟨x5, y5, hv5, i5, p5⟩ := OwnT.plain HB5.out hsm.out.maxLen
          rw [HL.out] at hv5 i5
          simp only [Value.slice.injEq, true_and] at hv5
          obtain ⟨rfl, rfl⟩ := hv5
          have C := specWithout _ L y us u.1 u.2.1 u.2.2 w5 i5 p5 hsm.out.sm (by omega) (by omega) (by omega)
          have HW := hsm.out.less (t := (u.1, u.2.1, u.2.2))
          obtain ⟨N6, hN6⟩ : ∃ l, (withoutT us (u.1, u.2.1, u.2.2)).getD [] = l := ⟨_, rfl⟩
          unfold ResPost at C
          rw [hN6] at C HW
          generalize (withoutT us (u.1, u.2.1, u.2.2)).isSome = ok2 at C
          have HC := Lib.hid C
          have HW6 := Lib.hid HW
          clear HM r5 g5 i5 p5 C HW hN6 k0 k1 k2 G4 HB4 HA4 HR4
          go_wp2_with fail
          refine HC.out.mono ?_
          rintro e w6 ⟨v6, rfl, o6, hb6⟩
          have G6 := Lib.hid (G5.out.trans (grown_of_below hb6))
          have HR6 := Lib.hid (rd_far HR5.out hb6)
          have Z6 := Lib.hid (Nat.le_trans Z5.out hb6.size)
          have HB6 := Lib.hid (own_next HB5.out (grown_of_below hb6))
          have HA6 := Lib.hid (own_next HA5.out (grown_of_below hb6))
          have HN6 := Lib.hid (own_base (B' := w1.heap.size) o6 Z5.out)
          obtain ⟨p6, q6, r6, rfl⟩ := ownT_shapeD HN6.out
          clear o6 hb6 HC c0 c1 c2 G5 HR5 HB5 HA5
          cases ok2
          · go_wp2_with fail
            go_roundw
            case rel => exact ⟨j - 1, _, us, by omega, by rw [show ((j - 1 : Nat) : Int) = (j : Int) - 1 from by omega], rfl, hsm, HB6, HA6, HR6, G6, Z6⟩
            case measure => simp [intOf]; omega
          · go_wp2_with fail
            go_roundw
            case rel => exact ⟨j - 1, _, N6, by omega, by rw [show ((j - 1 : Nat) : Int) = (j : Int) - 1 from by omega], rfl, HW6, HN6, HA6, HR6, G6, Z6⟩
            case measure => simp [intOf]; omega
      · obtain rfl : L = 0 := by omega
        cases ok
        · go_wp2_with fail
          go_roundw
          case rel => exact ⟨j - 1, _, us, by omega, by rw [show ((j - 1 : Nat) : Int) = (j : Int) - 1 from by omega], rfl, hsm, HB3, HA3, HR3, G3, Z3⟩
          case measure => simp [intOf]; omega
        · go_wp2_with fail
          go_roundw
          case rel => exact ⟨j - 1, _, N3, by omega, by rw [show ((j - 1 : Nat) : Int) = (j : Int) - 1 from by omega], rfl, HW3, HN3, HA3, HR3, G3, Z3⟩
          case measure => simp [intOf]; omega
    · obtain rfl : j = 0 := by omega
      go_wp2_with fail
      go_ret2
      exact ⟨_, _, ts, us, rfl, ⟨own_base ha.out (by omega), HS.out⟩, ⟨own_base hb.out (by omega), hsm.out⟩, hg.out⟩
end Go.Proofs.YtofkploffcplhaaGreat
