/- The program's PatchOk and PatchOf. -/
import Derived.Test.YtofkploffcplhaaG18
import Derived.Test.YtofkploffcplhaaG19
import Derived.Deep.RegionHeld3
import Derived.Deep.RegionWith
import Derived.Test.YtofkploffcplhaaG15
namespace Go.Proofs.Ytofkploffcplhaa
open Go.RowKit Go.WideShapes Go.Maps
theorem allT_oneP (a : Option Addr) (len cap : Nat) (ts : List Tri3) : allT [(a, len, cap, ts)] = ts := by simp [allT]
/-- A slice put into a variadic call's own row becomes a set. -/
theorem implSetAt (B : Nat) (a : Option Addr) (len cap : Nat) (ts : List Tri3) (w : World) (hB : B < w.heap.size) (hc : w.cell? ⟨B, 0, none⟩ = some (.slice a len cap)) (h : IsTris w a len cap ts) (hl : len ≤ 1000) :
    Calls Try.prog 40 #[.slice (some ⟨B, 0, none⟩) 1 1] w fun e w' => ∃ b m us, e = .returned (.map (some b)) ∧ w.heap.size ≤ b ∧ Holds b w'.heap.size w' (fun W => OwnSet W b m us) ∧ (∀ t, t ∈ us ↔ t ∈ ts) ∧ Below w.heap.size w w' := by
  have T := implTripleSet B 1 [(a, len, cap, ts)] w rfl hB (by omega) (by rw [allT_oneP]; have := h.len; omega) (fun i x hx => by
    match i, hx with
    | 0, hx =>
      simp at hx; subst hx
      exact ⟨hc, h⟩)
  rw [allT_oneP] at T
  refine T.mono fun e w' ⟨b, m, he, hb, _, ho, hbl⟩ => ⟨b, m, _, he, hb, ⟨?_, Nat.le_refl _, ho⟩, fun t => by rw [addAll_mem]; simp, hbl⟩
  intro W W' heq hW
  obtain ⟨D, ⟨es, clock, h1, F, h3, h4⟩, h2⟩ := hW
  exact ⟨D, ⟨es, clock, (heq b (Nat.le_refl _) ho.lt).trans h1, F, h3, h4⟩, h2⟩
set_option maxRecDepth 100000 in
set_option maxHeartbeats 3200000 in
theorem implPatchOk (a1 a2 : Option Addr) (n1 n2 c1 c2 : Nat) (t1 t2 : List Tri3) (w : World) (h : Is2 w a1 a2 n1 n2 c1 c2 t1 t2) (s1 : Sm t1) (s2 : Sm t2) :
    Calls Try.prog 13 #[.agg #[.slice a1 n1 c1, .slice a2 n2 c2]] w fun e w' => e = .returned (.bool (patchOk t1 t2)) ∧ Below w.heap.size w w' := by
  have B0 := Lib.hid ((Below.refl w.heap.size w).alloc (Nat.le_refl _) (.cells #[.slice a1 n1 c1, .slice a2 n2 c2] 29))
  have X0 := Lib.hid (cells_new w #[.slice a1 n1 c1, .slice a2 n2 c2] 29)
  have H := Lib.hid h
  have HL := Lib.hid (And.intro h.1.len h.2.len)
  have A1 := implGraphOk a1 n1 c1 t1 _ (h.1.next B0.out.drew) s1
  have S2 := Lib.hid s2
  clear h s1 s2
  obtain ⟨x0, x1⟩ := X0.out.drew.now.two
  cases g1 : graphOk t1
  · rw [g1] at A1
    have HR : Hid (patchOk t1 t2 = false) := Lib.hid (by unfold patchOk; rw [g1]; rfl)
    have C1 := Lib.hid A1
    clear A1 g1
    go_enter Try.func13, Try.ntmps13
    go_wp2_with fail
    refine wp_region_any (by kernel_rfl) ?_
    change wpAny _ _ _ _ _ _ _ (World.drew _)
    refine wpAny_take (i := 0) (v := ?_) rfl (by kernel_rfl) (by kernel_rfl) (by kernel_rfl) (fun _ _ _ h => h) (Or.inl ⟨by kernel_rfl, ?_⟩) ?_
    rotate_left
    · intro w; go_simp; try with_reducible rfl
    refine wpAny_ready (rs := [1]) (by kernel_rfl) (by simp) ?_
    refine AllReady.cons rfl (fun K hK => ?_) AllReady.nil
    go_simp
    refine hK _ _ ?_
    clear hK K
    refine wpAny_ready (rs := [2]) (by kernel_rfl) (by simp) ?_
    refine AllReady.cons rfl (fun K hK => ?_) AllReady.nil
    go_simp
    refine C1.out.mono ?_
    rintro e w1 ⟨rfl, hb⟩
    have B1 := Lib.hid (B0.out.drew.trans (hb.mono B0.out.size))
    have X1 := Lib.hid (X0.out.drew.next hb)
    clear hb
    go_wp2_with fail
    refine wpAny_take (i := 3) (v := ?_) rfl (by kernel_rfl) (by kernel_rfl) (by kernel_rfl) (fun _ _ _ h => h) (Or.inl ⟨by kernel_rfl, ?_⟩) ?_
    rotate_left
    · intro w; go_simp; try with_reducible rfl
    refine wpAny_take (i := 4) (v := undef) rfl (by kernel_rfl) (by kernel_rfl) (by kernel_rfl) (fun _ _ _ h => h) (Or.inr ⟨by kernel_rfl, rfl⟩) ?_
    refine wpAny_take (i := 5) (v := undef) rfl (by kernel_rfl) (by kernel_rfl) (by kernel_rfl) (fun _ _ _ h => h) (Or.inr ⟨by kernel_rfl, rfl⟩) ?_
    refine wpAny_take (i := 6) (v := undef) rfl (by kernel_rfl) (by kernel_rfl) (by kernel_rfl) (fun _ _ _ h => h) (Or.inr ⟨by kernel_rfl, rfl⟩) ?_
    refine wpAny_take (i := 7) (v := ?_) rfl (by kernel_rfl) (by kernel_rfl) (by kernel_rfl) (fun _ _ _ h => h) (Or.inl ⟨by kernel_rfl, ?_⟩) ?_
    rotate_left
    · intro w; go_simp; try with_reducible rfl
    refine wpAny_take (i := 8) (v := ?_) rfl (by kernel_rfl) (by kernel_rfl) (by kernel_rfl) (fun _ _ _ h => h) (Or.inl ⟨by kernel_rfl, ?_⟩) ?_
    rotate_left
    · intro w; go_simp; try with_reducible rfl
    refine wpAny_take (i := 9) (v := undef) rfl (by kernel_rfl) (by kernel_rfl) (by kernel_rfl) (fun _ _ _ h => h) (Or.inr ⟨by kernel_rfl, rfl⟩) ?_
    refine wpAny_take (i := 10) (v := undef) rfl (by kernel_rfl) (by kernel_rfl) (by kernel_rfl) (fun _ _ _ h => h) (Or.inr ⟨by kernel_rfl, rfl⟩) ?_
    refine wpAny_take (i := 11) (v := undef) rfl (by kernel_rfl) (by kernel_rfl) (by kernel_rfl) (fun _ _ _ h => h) (Or.inr ⟨by kernel_rfl, rfl⟩) ?_
    refine wpAny_take (i := 12) (v := undef) rfl (by kernel_rfl) (by kernel_rfl) (by kernel_rfl) (fun _ _ _ h => h) (Or.inr ⟨by kernel_rfl, rfl⟩) ?_
    refine wpAny_take (i := 13) (v := undef) rfl (by kernel_rfl) (by kernel_rfl) (by kernel_rfl) (fun _ _ _ h => h) (Or.inr ⟨by kernel_rfl, rfl⟩) ?_
    refine wpAny_take (i := 14) (v := undef) rfl (by kernel_rfl) (by kernel_rfl) (by kernel_rfl) (fun _ _ _ h => h) (Or.inr ⟨by kernel_rfl, rfl⟩) ?_
    refine wpAny_take (i := 15) (v := undef) rfl (by kernel_rfl) (by kernel_rfl) (by kernel_rfl) (fun _ _ _ h => h) (Or.inr ⟨by kernel_rfl, rfl⟩) ?_
    refine wpAny_take (i := 16) (v := undef) rfl (by kernel_rfl) (by kernel_rfl) (by kernel_rfl) (fun _ _ _ h => h) (Or.inr ⟨by kernel_rfl, rfl⟩) ?_
    refine wpAny_take (i := 17) (v := ?_) rfl (by kernel_rfl) (by kernel_rfl) (by kernel_rfl) (fun _ _ _ h => h) (Or.inl ⟨by kernel_rfl, ?_⟩) ?_
    rotate_left
    · intro w; go_simp; try with_reducible rfl
    refine wpAny_take (i := 18) (v := ?_) rfl (by kernel_rfl) (by kernel_rfl) (by kernel_rfl) (fun _ _ _ h => h) (Or.inl ⟨by kernel_rfl, ?_⟩) ?_
    rotate_left
    · intro w; go_simp; try with_reducible rfl
    refine wpAny_done (by kernel_rfl) ?_ _
    try simp only [Act.put, List.setIfInBounds_toArray, List.set_cons_zero, List.set_cons_succ, List.getElem_toArray, List.getElem_cons_zero, List.getElem_cons_succ]
    go_wp2_with fail
    go_ret
    exact ⟨by rw [HR.out]; rfl, B1.out⟩
  rw [g1] at A1
  have C1 := Lib.hid A1
  have G1 := Lib.hid g1
  clear A1 g1
  cases g2 : graphOk t2
  · have HR : Hid (patchOk t1 t2 = false) := Lib.hid (by unfold patchOk; rw [g2]; simp)
    have C2 : Hid (∀ W, Below w.heap.size w W → Calls Try.prog 39 #[.slice a2 n2 c2] W fun e w' => e = .returned (.bool false) ∧ Below W.heap.size W w') := Lib.hid (fun W hb => by have := implGraphOk a2 n2 c2 t2 W (H.out.2.next hb) S2.out; rwa [g2] at this)
    clear g2
    go_enter Try.func13, Try.ntmps13
    go_wp2_with fail
    refine wp_region_any (by kernel_rfl) ?_
    change wpAny _ _ _ _ _ _ _ (World.drew _)
    refine wpAny_take (i := 0) (v := ?_) rfl (by kernel_rfl) (by kernel_rfl) (by kernel_rfl) (fun _ _ _ h => h) (Or.inl ⟨by kernel_rfl, ?_⟩) ?_
    rotate_left
    · intro w; go_simp; try with_reducible rfl
    refine wpAny_ready (rs := [1]) (by kernel_rfl) (by simp) ?_
    refine AllReady.cons rfl (fun K hK => ?_) AllReady.nil
    go_simp
    refine hK _ _ ?_
    clear hK K
    refine wpAny_ready (rs := [2]) (by kernel_rfl) (by simp) ?_
    refine AllReady.cons rfl (fun K hK => ?_) AllReady.nil
    go_simp
    refine C1.out.mono ?_
    rintro e w1 ⟨rfl, hb⟩
    have B1 := Lib.hid (B0.out.drew.trans (hb.mono B0.out.size))
    have X1 := Lib.hid (X0.out.drew.next hb)
    clear hb
    obtain ⟨x0, x1⟩ := X1.out.now.two
    go_wp2_with fail
    refine wpAny_take (i := 3) (v := ?_) rfl (by kernel_rfl) (by kernel_rfl) (by kernel_rfl) (fun _ _ _ h => h) (Or.inl ⟨by kernel_rfl, ?_⟩) ?_
    rotate_left
    · intro w; go_simp; try with_reducible rfl
    refine wpAny_take (i := 4) (v := ?_) rfl (by kernel_rfl) (by kernel_rfl) (by kernel_rfl) (fun _ _ _ h => h) (Or.inl ⟨by kernel_rfl, ?_⟩) ?_
    rotate_left
    · intro w; go_simp; try with_reducible rfl
    refine wpAny_ready (rs := [5]) (by kernel_rfl) (by simp) ?_
    refine AllReady.cons rfl (fun K hK => ?_) AllReady.nil
    go_simp
    refine hK _ _ ?_
    clear hK K
    refine wpAny_ready (rs := [6]) (by kernel_rfl) (by simp) ?_
    refine AllReady.cons rfl (fun K hK => ?_) AllReady.nil
    go_simp
    refine (C2.out _ B1.out).mono ?_
    rintro e w2 ⟨rfl, hb⟩
    have B2 := Lib.hid (B1.out.trans (hb.mono B1.out.size))
    clear hb
    go_wp2_with fail
    refine wpAny_take (i := 7) (v := ?_) rfl (by kernel_rfl) (by kernel_rfl) (by kernel_rfl) (fun _ _ _ h => h) (Or.inl ⟨by kernel_rfl, ?_⟩) ?_
    rotate_left
    · intro w; go_simp; try with_reducible rfl
    refine wpAny_take (i := 8) (v := ?_) rfl (by kernel_rfl) (by kernel_rfl) (by kernel_rfl) (fun _ _ _ h => h) (Or.inl ⟨by kernel_rfl, ?_⟩) ?_
    rotate_left
    · intro w; go_simp; try with_reducible rfl
    refine wpAny_take (i := 9) (v := undef) rfl (by kernel_rfl) (by kernel_rfl) (by kernel_rfl) (fun _ _ _ h => h) (Or.inr ⟨by kernel_rfl, rfl⟩) ?_
    refine wpAny_take (i := 10) (v := undef) rfl (by kernel_rfl) (by kernel_rfl) (by kernel_rfl) (fun _ _ _ h => h) (Or.inr ⟨by kernel_rfl, rfl⟩) ?_
    refine wpAny_take (i := 11) (v := undef) rfl (by kernel_rfl) (by kernel_rfl) (by kernel_rfl) (fun _ _ _ h => h) (Or.inr ⟨by kernel_rfl, rfl⟩) ?_
    refine wpAny_take (i := 12) (v := undef) rfl (by kernel_rfl) (by kernel_rfl) (by kernel_rfl) (fun _ _ _ h => h) (Or.inr ⟨by kernel_rfl, rfl⟩) ?_
    refine wpAny_take (i := 13) (v := undef) rfl (by kernel_rfl) (by kernel_rfl) (by kernel_rfl) (fun _ _ _ h => h) (Or.inr ⟨by kernel_rfl, rfl⟩) ?_
    refine wpAny_take (i := 14) (v := undef) rfl (by kernel_rfl) (by kernel_rfl) (by kernel_rfl) (fun _ _ _ h => h) (Or.inr ⟨by kernel_rfl, rfl⟩) ?_
    refine wpAny_take (i := 15) (v := undef) rfl (by kernel_rfl) (by kernel_rfl) (by kernel_rfl) (fun _ _ _ h => h) (Or.inr ⟨by kernel_rfl, rfl⟩) ?_
    refine wpAny_take (i := 16) (v := undef) rfl (by kernel_rfl) (by kernel_rfl) (by kernel_rfl) (fun _ _ _ h => h) (Or.inr ⟨by kernel_rfl, rfl⟩) ?_
    refine wpAny_take (i := 17) (v := ?_) rfl (by kernel_rfl) (by kernel_rfl) (by kernel_rfl) (fun _ _ _ h => h) (Or.inl ⟨by kernel_rfl, ?_⟩) ?_
    rotate_left
    · intro w; go_simp; try with_reducible rfl
    refine wpAny_take (i := 18) (v := ?_) rfl (by kernel_rfl) (by kernel_rfl) (by kernel_rfl) (fun _ _ _ h => h) (Or.inl ⟨by kernel_rfl, ?_⟩) ?_
    rotate_left
    · intro w; go_simp; try with_reducible rfl
    refine wpAny_done (by kernel_rfl) ?_ _
    try simp only [Act.put, List.setIfInBounds_toArray, List.set_cons_zero, List.set_cons_succ, List.getElem_toArray, List.getElem_cons_zero, List.getElem_cons_succ]
    go_wp2_with fail
    go_ret
    exact ⟨by rw [HR.out]; rfl, B2.out⟩
  have C2 : Hid (∀ W, Below w.heap.size w W → Calls Try.prog 39 #[.slice a2 n2 c2] W fun e w' => e = .returned (.bool true) ∧ Below W.heap.size W w') := Lib.hid (fun W hb => by have := implGraphOk a2 n2 c2 t2 W (H.out.2.next hb) S2.out; rwa [g2] at this)
  have l1 : n1 ≤ 80 := by have := graphOk_len G1.out; have := HL.out.1; omega
  have l2 : n2 ≤ 80 := by have := graphOk_len g2; have := HL.out.2; omega
  have HR : Hid (patchOk t1 t2 = !anyT t1 t2) := Lib.hid (by unfold patchOk; rw [G1.out, g2]; rfl)
  clear g2 G1
  go_enter Try.func13, Try.ntmps13
  go_wp2_with fail
  go_region_held3 (fun w' => w'.cell? ⟨w.heap.size, 0, none⟩ = some (.slice a1 n1 c1) ∧ w'.cell? ⟨w.heap.size, 1, none⟩ = some (.slice a2 n2 c2))
    (first | with_reducible exact X5.out.now.two | with_reducible exact X4.out.now.two | with_reducible exact X3.out.now.two | with_reducible exact X2.out.now.two | with_reducible exact (X2.out.alloc _).now.two | with_reducible exact X1.out.now.two | with_reducible exact X0.out.drew.now.two)
    (first
      | (go_at_call 39; have Z := B1; clear Z; refine (C2.out _ B1.out).mono ?_; rintro e w2 ⟨rfl, hb⟩; have B2 := Lib.hid (B1.out.trans (hb.mono B1.out.size)); have X2 := Lib.hid (X1.out.next hb); clear hb)
      | (go_at_call 39; refine C1.out.mono ?_; rintro e w1 ⟨rfl, hb⟩; have B1 := Lib.hid (B0.out.drew.trans (hb.mono B0.out.size)); have X1 := Lib.hid (X0.out.drew.next hb); clear hb)
      | (go_at_call 40; refine (implSetAt w2.heap.size a1 n1 c1 t1 _ (by simp) (by simp) (H.out.1.next (B2.out.alloc B2.out.size _)) (by omega)).mono ?_; rintro e w4 ⟨b, m, us, rfl, hbl, ho, hm, hb⟩
         have B4 := Lib.hid ((B2.out.alloc B2.out.size _).trans (hb.mono (B2.out.alloc B2.out.size _).size)); have X4 := Lib.hid ((X2.out.alloc _).next hb); have O4 := Lib.hid ho; have M4 := Lib.hid hm; clear hb ho hm)
      | (go_at_call 41; refine (implHasAny b m us a2 n2 c2 t2 _ O4.out.now (H.out.2.next B4.out) (by omega)).mono ?_; rintro e w5 ⟨rfl, hb⟩; have B5 := Lib.hid (B4.out.trans (hb.mono B4.out.size)); have X5 := Lib.hid (X4.out.next hb); clear hb))
  have HQ : Hid (anyT us t2 = anyT t1 t2) := Lib.hid (anyT_same M4.out)
  generalize anyT us t2 = q at HQ ⊢
  cases q
  all_goals
    go_wp2_with fail
    go_ret
    exact ⟨by rw [HR.out, ← HQ.out]; rfl, B5.out⟩
theorem implDelAny (b m : Nat) (us : List Tri3) (v : Value) (ts : List Tri3) (B : Nat) (w : World) (hS : OwnSet w b m us) (hbB : b < B) (hBw : B ≤ w.heap.size) (h : OwnT B w v ts) (hl : ts.length ≤ 1048576) (hm : ∀ t ∈ ts, SmK t) :
    Calls Try.prog 66 #[v, .func (.func 65) #[.map (some b)] #[]] w fun e w' => ∃ v', e = .returned v' ∧ OwnT B w' v' (outT ts us) ∧ Below B w w' := by
  have h0 := h
  rcases h.2 with ⟨rfl, e⟩ | ⟨g, cap, cur, rfl, hB, _⟩
  · obtain rfl : ts = [] := List.length_eq_zero_iff.1 e
    have C := Lib.hid (implIndexHas b m us none 0 0 [] w hS (.inl ⟨rfl, rfl, rfl, rfl⟩) (by omega))
    clear h h0 hS hm e
    go_enter Try.func66, Try.ntmps66
    go_wp2_with fail
    refine C.out.mono ?_
    rintro e w1 ⟨i, rfl, hi, hb1⟩
    rcases hi with ⟨rfl, _⟩ | ⟨k, t, rfl, ht, _⟩
    · go_wp2_with fail
      go_ret
      exact ⟨_, rfl, World.ownsRow_nil .., hb1.mono hBw⟩
    · simp at ht
  · refine (implDelete b m g ts.length cap us ts B w hS (by omega) h0 rfl hl hm).mono fun e w' ⟨i, he, ho, hg⟩ => ⟨_, he, ho, ?_⟩
    exact (Below.refl B w).grown hg hBw (fun k e => by cases e; exact hB)
end Go.Proofs.Ytofkploffcplhaa
/- The program's outOf, PatchOf and Inverse. -/
namespace Go.Proofs.Ytofkploffcplhaa
open Go.RowKit Go.WideShapes Go.Maps
set_option maxRecDepth 100000 in
theorem implOutOf (b m : Nat) (us : List Tri3) (a : Option Addr) (len cap : Nat) (ts : List Tri3) (w : World) (hS : OwnSet w b m us) (h : IsTris w a len cap ts) (hl : len ≤ 1048576) :
    Calls Try.prog 45 #[.map (some b), .slice a len cap] w fun e w' => ∃ v, e = .returned v ∧ OwnT w.heap.size w' v (outT ts us) ∧ Below w.heap.size w w' := by
  have C := Lib.hid (implClone a len cap ts w h hl)
  have HS := Lib.hid hS
  have hbl := hS.lt
  have HM : Hid (∀ t ∈ ts, SmK t) := Lib.hid (fun t ht => h.small t ht)
  have HL := Lib.hid h.len
  clear h hS
  go_enter Try.func45, Try.ntmps45
  go_wp2_with fail
  refine C.out.mono ?_
  rintro e w1 ⟨v, rfl, ho, hb⟩
  have D := Lib.hid (implDelAny b m us v ts w.heap.size w1 (HS.out.next hb) hbl hb.size ho (by rw [HL.out]; exact hl) HM.out)
  have HB := Lib.hid hb
  obtain ⟨p, q, r, rfl⟩ : ∃ a n c, v = .slice a n c := by
    rcases ho.2 with ⟨rfl, _⟩ | ⟨g, c, cur, rfl, _⟩
    · exact ⟨_, _, _, rfl⟩
    · exact ⟨_, _, _, rfl⟩
  clear ho hb C
  go_wp2_with fail
  refine D.out.mono ?_
  rintro e w2 ⟨v', rfl, ho, hb⟩
  have HO := Lib.hid ho
  clear ho
  go_wp2_with fail
  go_ret
  exact ⟨_, rfl, HO.out, HB.out.trans hb⟩
theorem ownT_shape {B : Nat} {w : World} {v : Value} {ts : List Tri3} (h : OwnT B w v ts) : ∃ a n c, v = .slice a n c := by
  rcases h.2 with ⟨rfl, _⟩ | ⟨g, c, cur, rfl, _⟩
  · exact ⟨_, _, _, rfl⟩
  · exact ⟨_, _, _, rfl⟩
theorem ownT_same {B : Nat} {w w' : World} {v : Value} {ts : List Tri3} (h : OwnT B w v ts) (he : ∀ k, B ≤ k → w'.heap[k]? = w.heap[k]?) : OwnT B w' v ts := by
  obtain ⟨h1, h2⟩ := h
  refine ⟨h1, ?_⟩
  rcases h2 with h2 | ⟨g, cap, cur, e, hB, hh, r⟩
  · exact .inl h2
  · exact .inr ⟨g, cap, cur, e, hB, (he g hB).trans hh, r⟩
theorem ownT_off2 {B g : Nat} {W : World} {v x y : Value} {ts : List Tri3} (h : OwnT B W v ts) (hg : g < B) : OwnT B ((W.setCell ⟨g, 0, none⟩ x).setCell ⟨g, 1, none⟩ y) v ts := ownT_same h (fun k hk => by
  rw [Below.heap_setCell _ _ _ _ (by show k ≠ g; omega), Below.heap_setCell _ _ _ _ (by show k ≠ g; omega)])
/-- Behind the last stores into the result's own block. -/
theorem own2_end {w W W' : World} {v1 v2 : Value} {t1 t2 : List Tri3} {B1 B2 : Nat} (o1 : OwnT B1 W v1 t1) (o2 : OwnT B2 W v2 t2) (h1 : w.heap.size < B1) (h2 : w.heap.size < B2) (hne : ∀ j, v1.ownBlock = some j → v2.ownBlock ≠ some j) (hs : W'.heap.size = W.heap.size) (he : ∀ k, k ≠ w.heap.size → W'.heap[k]? = W.heap[k]?) :
    Holds w.heap.size W'.heap.size W' (Own2 w.heap.size W'.heap.size v1 v2 t1 t2) :=
  ⟨own2_lives, Nat.le_refl _, ⟨own_base (ownT_same o1 (fun k hk => he k (by omega))) (by omega), fun j hj => by rw [hs]; exact (World.ownsRow.lt o1 j hj).2⟩, ⟨own_base (ownT_same o2 (fun k hk => he k (by omega))) (by omega), fun j hj => by rw [hs]; exact (World.ownsRow.lt o2 j hj).2⟩, hne⟩
theorem own2_nil {B : Nat} (W : World) (_hB : B ≤ W.heap.size) : Holds B W.heap.size W (Own2 B W.heap.size (.slice none 0 0) (.slice none 0 0) [] []) :=
  ⟨own2_lives, Nat.le_refl _, ⟨World.ownsRow_nil .., fun j hj => by cases hj⟩, ⟨World.ownsRow_nil .., fun j hj => by cases hj⟩, fun j hj => by cases hj⟩
theorem set2_else (W : World) (g : Nat) (x y : Value) : ∀ k, k ≠ g → ((W.setCell ⟨g, 0, none⟩ x).setCell ⟨g, 1, none⟩ y).heap[k]? = W.heap[k]? := fun k hk => by
  rw [Below.heap_setCell _ _ _ _ (by show k ≠ g; exact hk), Below.heap_setCell _ _ _ _ (by show k ≠ g; exact hk)]
theorem set2_size (W : World) (g : Nat) (x y : Value) : ((W.setCell ⟨g, 0, none⟩ x).setCell ⟨g, 1, none⟩ y).heap.size = W.heap.size := by simp [World.setCell]
theorem below_two {B : Nat} {w W : World} (h : Below B w W) (g : Nat) (hg : B ≤ g) (x y : Value) : Below B w ((W.setCell ⟨g, 0, none⟩ x).setCell ⟨g, 1, none⟩ y) := (h.setCell (p := ⟨g, 0, none⟩) hg x).setCell (p := ⟨g, 1, none⟩) hg y
theorem Cells.frees {g : Nat} {x y : Value} {T : TypeId} {w : World} (h : Cells g #[x, y] T w) : w.frozen? ⟨g, 0, none⟩ = false ∧ w.frozen? ⟨g, 1, none⟩ = false := ⟨h.free 0, h.free 1⟩
theorem two_off {g k : Nat} {x y u v : Value} {T : TypeId} {W : World} (h : Cells g #[x, y] T W) (hk : g ≠ k) : ((W.setCell ⟨k, 0, none⟩ u).setCell ⟨k, 1, none⟩ v).cell? ⟨g, 0, none⟩ = some x ∧ ((W.setCell ⟨k, 0, none⟩ u).setCell ⟨k, 1, none⟩ v).cell? ⟨g, 1, none⟩ = some y :=
  Cells.two (T := T) ((set2_else W k u v g hk).trans h)
/-- What PatchOf and Chained answer. -/
def Res2 (r : Option (List Tri3 × List Tri3)) (w : World) (e : Ending) (w' : World) : Prop :=
  ∃ v1 v2, e = .returned (.tuple #[.agg #[v1, v2], .bool r.isSome]) ∧ Holds w.heap.size w'.heap.size w' (Own2 w.heap.size w'.heap.size v1 v2 (r.getD ([], [])).1 (r.getD ([], [])).2) ∧ Below w.heap.size w w'
set_option maxRecDepth 100000 in
set_option maxHeartbeats 3200000 in
theorem implPatchOf (a b : Option Addr) (la ca lb cb : Nat) (ts us : List Tri3) (w : World) (h : IsTris w a la ca ts) (k : IsTris w b lb cb us) (s1 : Sm ts) (s2 : Sm us) :
    Calls Try.prog 18 #[.slice a la ca, .slice b lb cb] w (Res2 (patchOf ts us) w) := by
  have B0 := Lib.hid ((Below.refl w.heap.size w).alloc (Nat.le_refl _) (.cells #[.slice none 0 0, .slice none 0 0] 29))
  have X0 := Lib.hid (cells_new w #[.slice none 0 0, .slice none 0 0] 29)
  have A1 := implGraphOk a la ca ts _ (h.next B0.out) s1
  have HL := Lib.hid (And.intro h.len k.len)
  cases g1 : graphOk ts
  · rw [g1] at A1
    have HR : Hid (patchOf ts us = none) := Lib.hid (by unfold patchOf; rw [g1]; simp)
    have C1 := Lib.hid A1
    clear A1 g1 h k
    go_enter Try.func18, Try.ntmps18
    go_wp2_with fail
    refine C1.out.mono ?_
    rintro e w1 ⟨rfl, hb⟩
    have B1 := Lib.hid (B0.out.trans (hb.mono B0.out.size))
    have X1 := Lib.hid (X0.out.next hb)
    clear hb
    obtain ⟨a0, a1⟩ := X1.out.now.two
    obtain ⟨f0, f1⟩ := X1.out.now.frees
    go_wp2_with fail
    refine bodyPost_ret (v := .tuple #[.agg #[.slice none 0 0, .slice none 0 0], .bool false]) (by simp [results, Try.results18, go_sem, *]) rfl ⟨_, _, by rw [HR.out]; rfl, ?_, below_two B1.out _ (Nat.le_refl _) _ _⟩
    rw [HR.out]
    exact own2_nil _ (by rw [set2_size]; exact B1.out.size)
  rw [g1] at A1
  have C1 := Lib.hid A1
  have G1 := Lib.hid g1
  have H := Lib.hid h
  have K := Lib.hid k
  have S2 := Lib.hid s2
  clear A1 g1 h k s2
  cases g2 : graphOk us
  · have HR : Hid (patchOf ts us = none) := Lib.hid (by unfold patchOf; rw [g2]; simp)
    have G2 := Lib.hid g2
    clear g2
    go_enter Try.func18, Try.ntmps18
    go_wp2_with fail
    refine C1.out.mono ?_
    rintro e w1 ⟨rfl, hb⟩
    have B1 := Lib.hid (B0.out.trans (hb.mono B0.out.size))
    have X1 := Lib.hid (X0.out.next hb)
    have A2 := implGraphOk b lb cb us w1 (K.out.next B1.out) S2.out
    rw [G2.out] at A2
    have C2 := Lib.hid A2
    clear hb A2
    go_wp2_with fail
    refine C2.out.mono ?_
    rintro e w2 ⟨rfl, hb⟩
    have B2 := Lib.hid (B1.out.trans (hb.mono B1.out.size))
    have X2 := Lib.hid (X1.out.next hb)
    clear hb
    obtain ⟨a0, a1⟩ := X2.out.now.two
    obtain ⟨f0, f1⟩ := X2.out.now.frees
    go_wp2_with fail
    refine bodyPost_ret (v := .tuple #[.agg #[.slice none 0 0, .slice none 0 0], .bool false]) (by simp [results, Try.results18, go_sem, *]) rfl ⟨_, _, by rw [HR.out]; rfl, ?_, below_two B2.out _ (Nat.le_refl _) _ _⟩
    rw [HR.out]
    exact own2_nil _ (by rw [set2_size]; exact B2.out.size)
  have HR : Hid (patchOf ts us = some (outT ts us, outT us ts)) := Lib.hid (by unfold patchOf; rw [if_pos ⟨G1.out, g2⟩])
  have G2 := Lib.hid g2
  have l1 : la ≤ 80 := by have := graphOk_len G1.out; have := HL.out.1; omega
  have l2 : lb ≤ 80 := by have := graphOk_len g2; have := HL.out.2; omega
  clear g2
  go_enter Try.func18, Try.ntmps18
  go_wp2_with fail
  refine C1.out.mono ?_
  rintro e w1 ⟨rfl, hb⟩
  have B1 := Lib.hid (B0.out.trans (hb.mono B0.out.size))
  have X1 := Lib.hid (X0.out.next hb)
  have A2 := implGraphOk b lb cb us w1 (K.out.next B1.out) S2.out
  rw [G2.out] at A2
  have C2 := Lib.hid A2
  clear hb A2
  go_wp2_with fail
  refine C2.out.mono ?_
  rintro e w2 ⟨rfl, hb⟩
  have B2 := Lib.hid (B1.out.trans (hb.mono B1.out.size))
  have X2 := Lib.hid (X1.out.next hb)
  have B3 := Lib.hid (B2.out.alloc B2.out.size (.cells #[.slice b lb cb] 27))
  have X3 := Lib.hid (X2.out.alloc (.cells #[.slice b lb cb] 27))
  have C3 := Lib.hid (implSetAt w2.heap.size b lb cb us _ (by simp) (by simp) (K.out.next B3.out) (by omega))
  clear hb
  go_wp2_with fail
  refine C3.out.mono ?_
  rintro e w4 ⟨b1, m1, u1, rfl, _, ho, hm, hb⟩
  have B4 := Lib.hid (B3.out.trans (hb.mono B3.out.size))
  have X4 := Lib.hid (X3.out.next hb)
  have A4 := implOutOf b1 m1 u1 a la ca ts w4 ho.now (H.out.next B4.out) (by omega)
  rw [outT_same hm] at A4
  have C4 := Lib.hid A4
  clear hb ho hm A4
  go_wp2_with fail
  refine C4.out.mono ?_
  rintro e w5 ⟨v1, rfl, ho, hb⟩
  have B5 := Lib.hid (B4.out.trans (hb.mono B4.out.size))
  have X5 := Lib.hid (X4.out.next hb)
  have O5 := Lib.hid ho
  have hz4 : w.heap.size < w4.heap.size := by have := X4.out.le; omega
  have HZ4 := Lib.hid hz4
  have B6 := Lib.hid (B5.out.alloc B5.out.size (.cells #[.slice a la ca] 27))
  have X6 := Lib.hid (X5.out.alloc (.cells #[.slice a la ca] 27))
  have C6 := Lib.hid (implSetAt w5.heap.size a la ca ts _ (by simp) (by simp) (H.out.next B6.out) (by omega))
  have hbs := hb.size
  have HZ5 := Lib.hid hbs
  clear hb ho hbs hz4
  obtain ⟨p1, q1, r1, rfl⟩ := ownT_shape O5.out
  go_wp2_with fail
  refine C6.out.mono ?_
  rintro e w7 ⟨b2, m2, u2, rfl, _, ho, hm, hb⟩
  have B7 := Lib.hid (B6.out.trans (hb.mono B6.out.size))
  have X7 := Lib.hid (X6.out.next hb)
  have O7 := Lib.hid (own_next (own_next O5.out (World.grownBy_alloc w5 (.cells #[.slice a la ca] 27) none)) (grown_of_below hb))
  have L7 : Hid (∀ j, (Value.slice p1 q1 r1).ownBlock = some j → j < w7.heap.size) := Lib.hid (fun j hj => (World.ownsRow.lt O7.out j hj).2)
  have A7 := implOutOf b2 m2 u2 b lb cb us w7 ho.now (K.out.next B7.out) (by omega)
  rw [outT_same hm] at A7
  have C7 := Lib.hid A7
  clear hb ho hm A7
  go_wp2_with fail
  refine C7.out.mono ?_
  rintro e w8 ⟨v2, rfl, ho, hb⟩
  have B8 := Lib.hid (B7.out.trans (hb.mono B7.out.size))
  have X8 := Lib.hid (X7.out.next hb)
  have O8 := Lib.hid (own_next O7.out (grown_of_below hb))
  have P8 := Lib.hid ho
  have HZ7 : Hid (w.heap.size < w7.heap.size) := Lib.hid (by have := X7.out.le; omega)
  obtain ⟨p2, q2, r2, rfl⟩ := ownT_shape P8.out
  obtain ⟨a0, a1⟩ := X8.out.now.two
  obtain ⟨f0, f1⟩ := X8.out.now.frees
  clear hb ho
  go_wp2_with fail
  refine bodyPost_ret (v := .tuple #[.agg #[.slice p1 q1 r1, .slice p2 q2 r2], .bool true]) (by simp [results, Try.results18, go_sem, *]) rfl ⟨_, _, by rw [HR.out]; rfl, ?_, below_two B8.out _ (Nat.le_refl _) _ _⟩
  rw [HR.out]
  exact own2_end O8.out P8.out HZ4.out HZ7.out (fun j h1 h2 => by have := L7.out j h1; have := (World.ownsRow.lt P8.out j h2).1; omega) (set2_size _ _ _ _) (set2_else _ _ _ _)
set_option maxRecDepth 100000 in
set_option maxHeartbeats 3200000 in
theorem implInverse (a1 a2 : Option Addr) (n1 n2 c1 c2 : Nat) (t1 t2 : List Tri3) (w : World) (h : Is2 w a1 a2 n1 n2 c1 c2 t1 t2) (l1 : n1 ≤ 1048576) (l2 : n2 ≤ 1048576) :
    Calls Try.prog 27 #[.agg #[.slice a1 n1 c1, .slice a2 n2 c2]] w fun e w' => ∃ v1 v2, e = .returned (.agg #[v1, v2]) ∧ Holds w.heap.size w'.heap.size w' (Own2 w.heap.size w'.heap.size v1 v2 t2 t1) ∧ Below w.heap.size w w' := by
  obtain ⟨W1, hW1⟩ : ∃ W, w.alloc (.cells #[.slice a1 n1 c1, .slice a2 n2 c2] 29) = W := ⟨_, rfl⟩
  obtain ⟨W2, hW2⟩ : ∃ W, W1.alloc (.cells #[.slice none 0 0, .slice none 0 0] 29) = W := ⟨_, rfl⟩
  have z1 : W1.heap.size = w.heap.size + 1 := by rw [← hW1]; simp
  have z2 : W2.heap.size = w.heap.size + 2 := by rw [← hW2]; simp [z1]
  have B0 : Hid (Below w.heap.size w W2) := Lib.hid (by rw [← hW2, ← hW1]; exact ((Below.refl w.heap.size w).alloc (Nat.le_refl _) _).alloc (by simp) _)
  have X0 : Hid (Holds w.heap.size (w.heap.size + 1) W2 (Cells w.heap.size #[.slice a1 n1 c1, .slice a2 n2 c2] 29)) := Lib.hid (by rw [← hW2, ← hW1]; exact (cells_new w _ _).alloc _)
  have Y0 : Hid (Holds (w.heap.size + 1) (w.heap.size + 2) W2 (Cells (w.heap.size + 1) #[.slice none 0 0, .slice none 0 0] 29)) := Lib.hid (by
    have := cells_new W1 #[.slice none 0 0, .slice none 0 0] 29
    rw [hW2, z1] at this; exact this)
  have H := Lib.hid h
  have HW := Lib.hid (And.intro hW1 hW2)
  have HZ := Lib.hid z2
  clear h hW1 hW2 z1 z2
  obtain ⟨x0, x1⟩ := X0.out.drew.now.two
  go_enter Try.func27, Try.ntmps27
  go_wp2_with fail
  rw [HW.out.1, HW.out.2]
  go_region_held3 (fun w' => w'.cell? ⟨w.heap.size, 0, none⟩ = some (.slice a1 n1 c1) ∧ w'.cell? ⟨w.heap.size, 1, none⟩ = some (.slice a2 n2 c2))
    (first | with_reducible exact two_off X4.out.now (by omega) | with_reducible exact X4.out.now.two | with_reducible exact X3.out.now.two | with_reducible exact X0.out.drew.now.two)
    (first
      | (go_at_call 51; have Z := B3; clear Z; refine (implClone a1 n1 c1 t1 _ (H.out.1.next B3.out) l1).mono ?_; rintro e w4 ⟨v2, rfl, ho, hb⟩; have P4 := Lib.hid ho; have O4 := Lib.hid (own_next O3.out (grown_of_below hb)); have B4 := Lib.hid (B3.out.trans (hb.mono B3.out.size)); have X4 := Lib.hid (X3.out.next hb); have Y4 := Lib.hid (Y3.out.next hb); obtain ⟨p2, q2, r2, rfl⟩ := ownT_shape P4.out; obtain ⟨y0, y1⟩ := Y4.out.now.two; obtain ⟨f0, f1⟩ := Y4.out.now.frees; clear hb ho)
      | (go_at_call 51; refine (implClone a2 n2 c2 t2 _ (H.out.2.next B0.out.drew) l2).mono ?_; rintro e w3 ⟨v1, rfl, ho, hb⟩; have O3 := Lib.hid ho; have B3 := Lib.hid (B0.out.drew.trans (hb.mono B0.out.size)); have X3 := Lib.hid (X0.out.drew.next hb); have Y3 := Lib.hid (Y0.out.drew.next hb); have L3 : Hid (∀ j, v1.ownBlock = some j → j < w3.heap.size) := Lib.hid (fun j hj => (World.ownsRow.lt ho j hj).2); obtain ⟨p1, q1, r1, rfl⟩ := ownT_shape O3.out; have HZ3 := Lib.hid hb.size; clear hb ho))
  go_wp2_with fail
  refine bodyPost_ret (v := .agg #[.slice p1 q1 r1, .slice p2 q2 r2]) (by simp [results, Try.results27, go_sem, *]) rfl ⟨_, _, rfl, ?_, below_two B4.out _ (Nat.le_succ _) _ _⟩
  have L4 := L3.out
  have hz : w.heap.size + 2 ≤ w3.heap.size := by have := HZ3.out; have := HZ.out; simp at *; omega
  exact ⟨own2_lives, Nat.le_refl _, ⟨own_base (ownT_off2 O4.out (by have := HZ.out; simp; omega)) (by have := HZ.out; simp; omega), fun j hj => by rw [set2_size]; exact (World.ownsRow.lt O4.out j hj).2⟩, ⟨own_base (ownT_off2 P4.out (by omega)) (by omega), fun j hj => by rw [set2_size]; exact (World.ownsRow.lt P4.out j hj).2⟩, fun j h1 h2 => by have := L4 j h1; have := (World.ownsRow.lt P4.out j h2).1; omega⟩
end Go.Proofs.Ytofkploffcplhaa
/- The specification's triples without some; PatchOk, PatchOf. -/
namespace Go.Proofs.Ytofkploffcplhaa
open Go.RowKit Go.WideShapes
set_option maxRecDepth 100000 in
set_option maxHeartbeats 1600000 in
theorem specLess14 (a b : Option Addr) (la ca lb cb : Nat) (ts us : List Tri3) (w : World) (h : IsTris w a la ca ts) (k : IsTris w b lb cb us) (hl : la ≤ 1048576) (kl : lb ≤ 1048576) :
    Calls Try.prog 43 #[.slice a la ca, .slice b lb cb] w fun e w' => ∃ v, e = .returned v ∧ OwnT w.heap.size w' v (outT ts us) ∧ Below w.heap.size w w' := by
  obtain ⟨i0, hi, hz0, hz1, hz2⟩ := info_parts infoTri
  have H := Lib.hid h
  have HK := Lib.hid k
  have HT := Lib.hid h.len
  have B0 := (Below.refl w.heap.size w).alloc (Nat.le_refl _) (.cells #[] 55)
  have O0 : OwnT w.heap.size (w.alloc (.cells #[] 55)) (.slice (some ⟨w.heap.size, 0, none⟩) 0 0) [] := World.ownsRow_lit (size := 3) (e := 55) w #[] 0 (Nat.le_refl _) (by decide) rfl
  clear h k
  go_enter Try.func43, Try.ntmps43
  go_wp2_with fail
  go_loopw [5, 6] (fun v' i wr => ∃ (k : Nat) (v : Value), k ≤ la ∧ i = .int .i64 k ∧ v = v' ∧ Hid (OwnT w.heap.size wr v (outT (ts.take k) us)) ∧ Below w.heap.size w wr) (fun _ i _ => la - (intOf i).toNat)
  case atStart => exact ⟨0, _, Nat.zero_le _, rfl, rfl, Lib.hid (by simpa [outT] using O0), B0⟩
  case round =>
    obtain ⟨k, v, hk, rfl, rfl, hown, hnx⟩ := hrel
    clear B0 O0
    have hk6 : (0 : Int) ≤ (k : Int) := by omega
    by_cases hlt : k < la
    · have hk7 : (k : Int) < (la : Int) := by omega
      obtain ⟨b1, off, rfl, hb, hl', hm, hts, hcs⟩ := H.out.cells (by omega)
      have ht : ts[k]? = some (ts[k]'(by omega)) := List.getElem?_eq_getElem (by omega)
      have HS : Hid (ts.take (k + 1) = ts.take k ++ [ts[k]'(by omega)]) := Lib.hid (List.take_succ_eq_append_getElem (by omega))
      obtain ⟨d0, d1, d2, m0, m1, m2⟩ := hcs k _ ht
      rw [← hnx.cell (p := ⟨b1, _, none⟩) hb] at d0 d1 d2
      generalize ts[k]'(by omega) = u at ht d0 d1 d2 m0 m1 m2 HS
      obtain ⟨u0, u1, u2⟩ := u
      simp only at d0 d1 d2
      have hll : (outT (ts.take k) us).length ≤ k := Nat.le_trans (outT_len _ _) (by rw [List.length_take]; omega)
      have C := specHas2 b lb cb us u0 u1 u2 wr (HK.out.next hnx) kl
      have DL := Lib.hid hb
      have hbw : b1 < wr.heap.size := Nat.lt_of_lt_of_le hb hnx.size
      clear hts hcs hm m0 m1 m2 hl' ht
      cases hq : decide ((u0, u1, u2) ∈ us)
      rotate_left
      · rw [hq] at C
        have HC := Lib.hid C
        have HN : Hid (OwnT w.heap.size wr v (outT (ts.take (k + 1)) us)) := Lib.hid (by rw [HS.out, outT_snoc, if_pos (of_decide_eq_true hq)]; exact hown.out)
        clear C hq hown
        go_wp2_with fail
        refine HC.out.mono ?_
        rintro e w1 ⟨rfl, hb1⟩
        have B1 := hnx.trans (hb1.mono hnx.size)
        have O1 := Lib.hid (own_next HN.out (grown_of_below hb1))
        clear hb1 hnx d0 d1 d2
        go_wp2_with fail
        go_roundw
        case rel => exact ⟨k + 1, _, by omega, by go_num, rfl, O1, B1⟩
        case measure => simp [intOf]; omega
      · rw [hq] at C
        have HC := Lib.hid C
        have HN : Hid (outT (ts.take (k + 1)) us = outT (ts.take k) us ++ [(u0, u1, u2)]) := Lib.hid (by rw [HS.out, outT_snoc, if_neg (of_decide_eq_false hq)])
        clear C hq
        go_wp2_with fail
        refine HC.out.mono ?_
        rintro e w1 ⟨rfl, hb1⟩
        have BE := hnx.trans (hb1.mono hnx.size)
        have OE := own_next hown.out (grown_of_below hb1)
        have e0 := (hb1.cell (p := ⟨b1, off + k * 3, none⟩) hbw).trans d0
        have e1 := (hb1.cell (p := ⟨b1, off + k * 3 + 1, none⟩) hbw).trans d1
        have e2 := (hb1.cell (p := ⟨b1, off + k * 3 + 2, none⟩) hbw).trans d2
        obtain ⟨pl, hpl⟩ : ∃ l, outT (ts.take k) us = l := ⟨_, rfl⟩
        rw [hpl] at HN OE hll
        have hne := fun j hj => (World.ownsRow.lt OE j hj).1
        have HC3 : ∀ (j : Nat) (x : Value), [Value.string u0, .string u1, .string u2][j]? = some x → (w1.alloc (.cells #[.string u0, .string u1, .string u2] 55)).cell? ((⟨w1.heap.size, 0, none⟩ : Addr).add j) = some x := three_cell
        have HH := Lib.hid HC3
        have BA := BE.alloc BE.size (.cells #[.string u0, .string u1, .string u2] 55)
        have OA := Lib.hid (World.ownsRow.alloc OE (.cells #[.string u0, .string u1, .string u2] 55))
        clear HC3 BE OE hb1 hnx d0 d1 d2 hown hpl
        go_wp2_with (at_builtin; refine wpList_append_own _ rfl _ _ 27 rfl w.heap.size 55 i0 (.agg #[.string ⟨#[]⟩, .string ⟨#[]⟩, .string ⟨#[]⟩]) 3 48 Try.underlying27 hi hz0 hz1 hz2 rfl (by decide) _ _ _ rfl OA.out ⟨w1.heap.size, 0, none⟩ 1 _ [.string u0, .string u1, .string u2] rfl rfl HH.out (by first | exact flat_one _ | (intro x hx; simp at hx; rcases hx with rfl | rfl | rfl <;> rfl)) ?h63a ?h48a ?hbsa ?_)
        case h63a => unfold maxLen; omega
        case h48a => omega
        case hbsa => have := BA.size; omega
        intro v2 w2 hown2 hg2 _
        have O2 : OwnT w.heap.size w2 v2 (outT (ts.take (k + 1)) us) := by rw [HN.out]; exact own3_snoc (t := (u0, u1, u2)) hown2
        have B2 : Below w.heap.size w w2 := BA.grown hg2 BA.size hne
        have HO2 := Lib.hid O2
        clear hown2 hg2 OA HH BA O2 e0 e1 e2
        go_wp2_with fail
        go_roundw
        case rel => exact ⟨k + 1, _, by omega, by go_num, rfl, HO2, B2⟩
        case measure => simp [intOf]; omega
    · obtain rfl : k = la := by omega
      have HO : Hid (OwnT w.heap.size wr v (outT ts us)) := Lib.hid (by
        have := hown.out
        rwa [List.take_of_length_le (by rw [HT.out]; exact Nat.le_refl _)] at this)
      clear hown
      go_wp2_with fail
      go_ret
      exact ⟨v, rfl, HO.out, hnx⟩
set_option maxRecDepth 100000 in
set_option maxHeartbeats 3200000 in
theorem specPatchOk (a1 a2 : Option Addr) (n1 n2 c1 c2 : Nat) (t1 t2 : List Tri3) (w : World) (h : Is2 w a1 a2 n1 n2 c1 c2 t1 t2) (s1 : Sm t1) (s2 : Sm t2) (l1 : n1 ≤ 1048576) (l2 : n2 ≤ 1048576) :
    Calls Try.prog 11 #[.agg #[.slice a1 n1 c1, .slice a2 n2 c2]] w fun e w' => e = .returned (.bool (patchOk t1 t2)) ∧ Below w.heap.size w w' := by
  have B0 := (Below.refl w.heap.size w).alloc (Nat.le_refl _) (.cells #[.slice a1 n1 c1, .slice a2 n2 c2] 29)
  have X0 := cells_new w #[.slice a1 n1 c1, .slice a2 n2 c2] 29
  have H := Lib.hid h
  have HT := Lib.hid h.1.len
  have S := Lib.hid (And.intro s1 s2)
  clear h s1 s2
  go_enter Try.func11, Try.ntmps11
  go_wp2_with fail
  go_loopw [3] (fun i wr => ∃ k : Nat, k ≤ n1 ∧ i = .int .i64 k ∧ Hid (anyT t2 (t1.take k) = false) ∧ Hid (Holds w.heap.size (w.heap.size + 1) wr (Cells w.heap.size #[.slice a1 n1 c1, .slice a2 n2 c2] 29)) ∧ Below w.heap.size w wr) (fun i _ => n1 - (intOf i).toNat)
  case atStart => exact ⟨0, Nat.zero_le _, rfl, Lib.hid (by simp [anyT]), Lib.hid X0, B0⟩
  case round =>
    obtain ⟨k, hk, rfl, hno, hX, hnx⟩ := hrel
    clear B0 X0
    have hk6 : (0 : Int) ≤ (k : Int) := by omega
    by_cases hlt : k < n1
    · have hk7 : (k : Int) < (n1 : Int) := by omega
      obtain ⟨b1, off, rfl, hb, hl', hm, hts, hcs⟩ := H.out.1.cells (by omega)
      have ht : t1[k]? = some (t1[k]'(by omega)) := List.getElem?_eq_getElem (by omega)
      have HS : Hid (t1.take (k + 1) = t1.take k ++ [t1[k]'(by omega)]) := Lib.hid (List.take_succ_eq_append_getElem (by omega))
      obtain ⟨d0, d1, d2, m0, m1, m2⟩ := hcs k _ ht
      rw [← hnx.cell (p := ⟨b1, _, none⟩) hb] at d0 d1 d2
      have HT1 := Lib.hid ht
      generalize t1[k]'(by omega) = u at ht d0 d1 d2 m0 m1 m2 HS HT1
      obtain ⟨u0, u1, u2⟩ := u
      simp only at d0 d1 d2
      have C := specHas2 a2 n2 c2 t2 u0 u1 u2 wr.drew (H.out.2.next hnx.drew) l2
      have hbw : b1 < wr.heap.size := Nat.lt_of_lt_of_le hb hnx.size
      have DD : Hid (∀ W, Below wr.heap.size wr W → W.cell? ⟨b1, off + k * 3, none⟩ = some (.string u0) ∧ W.cell? ⟨b1, off + k * 3 + 1, none⟩ = some (.string u1) ∧ W.cell? ⟨b1, off + k * 3 + 2, none⟩ = some (.string u2)) := Lib.hid (fun W hW => ⟨(hW.cell (p := ⟨b1, _, none⟩) hbw).trans d0, (hW.cell (p := ⟨b1, _, none⟩) hbw).trans d1, (hW.cell (p := ⟨b1, _, none⟩) hbw).trans d2⟩)
      clear hts hcs hm m0 m1 m2 hl' ht d0 d1 d2
      obtain ⟨x0, x1⟩ := hX.out.now.two
      cases hq : decide ((u0, u1, u2) ∈ t2)
      all_goals
        rw [hq] at C
        have HC := Lib.hid C
        have HQ := Lib.hid hq
        have HX := Lib.hid (Below.drew (Below.refl wr.heap.size wr))
        have HB := Lib.hid hnx
        clear C hq hnx
        go_wp2_with fail
        go_region_held3 (fun w' => (w'.cell? ⟨w.heap.size, 0, none⟩ = some (.slice (some ⟨b1, off, none⟩) n1 c1) ∧ w'.cell? ⟨w.heap.size, 1, none⟩ = some (.slice a2 n2 c2)) ∧ w'.cell? ⟨b1, off + k * 3, none⟩ = some (.string u0) ∧ w'.cell? ⟨b1, off + k * 3 + 1, none⟩ = some (.string u1) ∧ w'.cell? ⟨b1, off + k * 3 + 2, none⟩ = some (.string u2))
          (first | with_reducible exact ⟨X1.out.now.two, DD.out _ Y1.out⟩ | with_reducible exact ⟨hX.out.drew.now.two, DD.out _ HX.out⟩)
          (first | (go_at_call 37; refine HC.out.mono ?_; rintro e w1 ⟨rfl, hb1⟩; have B1 := Lib.hid (HB.out.drew.trans (hb1.mono HB.out.size)); have X1 := Lib.hid (hX.out.drew.next hb1); have Y1 := Lib.hid (HX.out.trans (hb1.mono (Nat.le_refl _))); clear hb1))
      · have HN : Hid (anyT t2 (t1.take (k + 1)) = false) := Lib.hid (by rw [HS.out, anyT_snoc, hno.out, HQ.out]; rfl)
        have B2 := B1.out
        clear x0 x1 hno HQ DD HC
        go_wp2_with fail
        go_roundw
        case rel => exact ⟨k + 1, by omega, by go_num, HN, X1, B2⟩
        case measure => simp [intOf]; omega
      · have HR : Hid (patchOk t1 t2 = false) := Lib.hid (by
          unfold patchOk
          rw [show anyT t1 t2 = true from anyT_iff.2 ⟨_, List.mem_of_getElem? HT1.out, of_decide_eq_true HQ.out⟩]; simp)
        clear x0 x1 hno HQ DD HC
        go_wp2_with fail
        go_ret
        exact ⟨by rw [HR.out]; rfl, B1.out⟩
    · obtain rfl : k = n1 := by omega
      have HN : Hid (anyT t1 t2 = false) := Lib.hid (by
        have := hno.out
        rw [List.take_of_length_le (by rw [HT.out]; exact Nat.le_refl _)] at this
        rw [anyT_comm]; exact this)
      have A1 := specGraphOk a1 k c1 t1 wr (H.out.1.next hnx) S.out.1
      obtain ⟨x0, x1⟩ := hX.out.now.two
      clear hno
      cases g1 : graphOk t1
      · rw [g1] at A1
        have HR : Hid (patchOk t1 t2 = false) := Lib.hid (by unfold patchOk; rw [g1]; rfl)
        have C1 := Lib.hid A1
        clear A1 g1
        go_wp2_with fail
        refine C1.out.mono ?_
        rintro e w1 ⟨rfl, hb⟩
        go_wp2_with fail
        go_ret
        exact ⟨by rw [HR.out]; rfl, hnx.trans (hb.mono hnx.size)⟩
      · rw [g1] at A1
        have HR : Hid (patchOk t1 t2 = graphOk t2) := Lib.hid (by unfold patchOk; rw [g1, HN.out]; simp)
        have C1 := Lib.hid A1
        clear A1 g1
        go_wp2_with fail
        refine C1.out.mono ?_
        rintro e w1 ⟨rfl, hb⟩
        have B1 := hnx.trans (hb.mono hnx.size)
        have X1 := hX.out.next hb
        clear x0 x1
        obtain ⟨x0, x1⟩ := X1.now.two
        have A2 := specGraphOk a2 n2 c2 t2 w1 (H.out.2.next B1) S.out.2
        generalize graphOk t2 = q at A2 HR
        have C2 := Lib.hid A2
        clear A2 hb hnx
        go_wp2_with fail
        refine C2.out.mono ?_
        rintro e w2 ⟨rfl, hb⟩
        have B2 := B1.trans (hb.mono B1.size)
        clear hb B1 X1
        cases q
        all_goals
          go_wp2_with fail
          go_ret
          exact ⟨by rw [HR.out]; rfl, B2⟩
end Go.Proofs.Ytofkploffcplhaa
