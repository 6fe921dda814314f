/- The contract of TurtleText of the program. -/
import Derived.Test.YtdhieemalhadmabTurt
import Derived.Test.YtdhieemalhadmabGraph
import Derived.Test.YtdhieemalhadmabBuild
import Derived.BigQuiet
import Derived.WalkSmall
namespace Go.Proofs.Ytdhieemalhadmab
open Go.RowKit Go.WideShapes
theorem line_pre (n m : ByteArray) : { data := #[64, 112, 114, 101, 102, 105, 120, 32] } ++ n ++ { data := #[58, 32] } ++ m ++ { data := #[32, 46, 10] } = bs ([64, 112, 114, 101, 102, 105, 120, 32] ++ (n.data.toList ++ ([58, 32] ++ (m.data.toList ++ [32, 46, 10])))) := by
  apply bs_eq; simp
theorem Box.set2 {w : World} {g : Nat} {x y z : Value} {T : TypeId} (h : Box w g x y z T) (u : Value) : Box (w.setCell ⟨g, 2, none⟩ u) g x y u T := by
  unfold Box at h ⊢; simp [World.setCell, Array.getElem?_modify, h]
theorem bld_far {B b : Nat} {l : List UInt8} {w : World} (h : Bld B b l w) {g : Nat} {c : Array Value} {T : TypeId} {fr : Nat × Nat} (hg : w.heap[g]? = some (.cells c T fr)) (h1 : T ≠ 91) (h2 : T ≠ 5) (j : Nat) (u : Value) : Bld B b l (w.setCell ⟨g, j, none⟩ u) := by
  have hgr : w.grownBy (w.setCell ⟨g, j, none⟩ u) (some g) := ⟨rfl, rfl, rfl, by simp [World.setCell], fun k _ hne => Below.heap_setCell _ _ _ _ (by intro e; exact hne (by rw [e]))⟩
  have key : ∀ p, Lib.BuilderAt 91 5 B b p (l.map b8) w → Lib.BuilderAt 91 5 B b p (l.map b8) (w.setCell ⟨g, j, none⟩ u) := by
    rintro p ⟨hB, v, hv, hown, hne⟩
    refine ⟨hB, v, ?_, hown.kept hgr ?_, hne⟩
    · rw [Below.heap_setCell _ _ _ _ ?_]
      · exact hv
      · rintro rfl
        rw [hg] at hv
        simp only [Option.some.injEq, Obj.cells.injEq] at hv
        exact h1 hv.2.1
    · rcases hown.2 with ⟨rfl, _⟩ | ⟨g2, cap, cur, rfl, _, hb, _⟩
      · exact .inl rfl
      · refine .inr ?_
        simp only [Value.ownBlock, ne_eq, Option.some.injEq]
        rintro rfl
        rw [hb] at hg
        simp only [Option.some.injEq, Obj.cells.injEq] at hg
        exact h2 hg.2.1.symm
  rcases h with h | h
  · exact .inl (key _ h)
  · exact .inr (key _ h)
set_option maxRecDepth 100000 in
set_option maxHeartbeats 3200000 in
theorem implTurtleText (a a' : Option Addr) (len cap len' cap' : Nat) (ls : List Pre2) (ts : List Tri3) (w : World) (hp : IsPres w a len cap ls) (hg : IsTris w a' len' cap' ts) (hsp : SmP ls) (hst : SmT ts) :
    Calls Try.prog 24 #[.slice a len cap, .slice a' len' cap'] w fun e w' => e = .returned (.string (bs (turtleL ls ts))) ∧ Below w.heap.size w w' := by
  have hlen : len ≤ 9223372036854775807 := by
    rcases hp with ⟨_, rfl, _, _⟩ | ⟨_, _, h1, h2, _⟩
    · omega
    · unfold maxLen at h2; omega
  have hlen' : len' ≤ 9223372036854775807 := by
    rcases hg with ⟨_, rfl, _, _⟩ | ⟨_, _, h1, h2, _⟩
    · omega
    · unfold maxLen at h2; omega
  have C1 := implPrefixesOk a len cap ls w hp hsp
  have C2 : ∀ wr, Below w.heap.size w wr → Calls Try.prog 67 #[.slice a' len' cap'] wr fun e w' => e = .returned (.bool (graphOk ts)) ∧ Below wr.heap.size wr w' := fun wr hb => implGraphOk a' len' cap' ts wr (hg.next hb) (fun t ht => by have := hst t ht; omega)
  obtain ⟨q, hq⟩ : ∃ q, turtleL ls ts = q := ⟨_, rfl⟩
  rw [hq]
  unfold turtleL at hq
  cases k1 : presOk ls
  · rw [k1] at C1 hq
    have D1 := Lib.hid C1
    have HQ : Hid ([] = q) := Lib.hid hq
    clear C1 C2 hp hg hsp hst k1 hq
    go_enter Try.func24, Try.ntmps24
    go_wp2_with fail
    refine D1.out.mono ?_
    rintro e w1 ⟨rfl, hb1⟩
    go_wp2_with fail
    go_ret
    exact ⟨by rw [← HQ.out]; rfl, hb1⟩
  cases k2 : graphOk ts
  · rw [k1] at C1 hq
    rw [k2] at hq
    simp only [k2] at C2
    have D1 := Lib.hid C1
    have D2 := Lib.hid C2
    have HQ : Hid ([] = q) := Lib.hid hq
    clear C1 C2 hp hg hsp hst k1 k2 hq
    go_enter Try.func24, Try.ntmps24
    go_wp2_with fail
    refine D1.out.mono ?_
    rintro e w1 ⟨rfl, hb1⟩
    go_wp2_with fail
    refine (D2.out _ hb1).mono ?_
    rintro e w2 ⟨rfl, hb2⟩
    go_wp2_with fail
    go_ret
    exact ⟨by rw [← HQ.out]; rfl, hb1.trans (hb2.mono hb1.size)⟩
  rw [k1] at C1 hq
  rw [k2] at hq
  simp only [Bool.and_true, if_true] at hq
  have hh := head_small hsp
  have hn := graphOk_len k2
  have hbs := body_small hsp k2 hst
  have hl4 : ls.length ≤ 4 := by
    unfold presOk at k1
    simp only [Bool.and_eq_true, decide_eq_true_eq] at k1
    exact k1.1
  have HOK : Hid (∀ t ∈ ts, okT t = true) := Lib.hid (by
    unfold graphOk at k2
    simp only [Bool.and_eq_true] at k2
    exact gUpto_mem k2.2)
  simp only [k2] at C2
  have D1 := Lib.hid C1
  have D2 := Lib.hid C2
  have HQ := Lib.hid hq
  have HP := Lib.hid hp
  have HG := Lib.hid hg
  have HSP := Lib.hid hsp
  have HST := Lib.hid hst
  have HT := Lib.hid hp.len
  have HT' := Lib.hid hg.len
  have HB := Lib.hid hbs
  have HH : Hid (∀ k, (headL (ls.take k)).length ≤ 8388800) := Lib.hid (fun k => by
    have a := head_small (ls := ls.take k) fun t ht => hsp t (List.mem_of_mem_take ht)
    have c : (ls.take k).length ≤ ls.length := by rw [List.length_take]; omega
    omega)
  clear C1 C2 hp hg hsp hst k1 k2 hq hh hbs
  have hn' : len' ≤ 80 := by rw [← HT'.out]; exact hn
  go_enter Try.func24, Try.ntmps24
  go_wp2_with fail
  refine D1.out.mono ?_
  rintro e w1 ⟨rfl, hb1⟩
  go_wp2_with fail
  refine (D2.out _ hb1).mono ?_
  rintro e w2 ⟨rfl, hb2⟩
  have B2 := hb1.trans (hb2.mono hb1.size)
  clear hb1 hb2 D1 D2
  have hz := B2.size
  have N0 := bldNew w2
  have B0 : Below w.heap.size w _ := B2.alloc hz (.cells #[.pointer none, .slice none 0 0] 91)
  go_wp2_with fail
  go_loopw [21] (fun i wr => ∃ k : Nat, k ≤ len ∧ i = .int .i64 k ∧ Hid (Bld w2.heap.size w2.heap.size (headL (ls.take k)) wr) ∧ Below w.heap.size w wr) (fun i _ => len - (intOf i).toNat)
  case atStart => exact ⟨0, Nat.zero_le _, rfl, Lib.hid N0, B0⟩
  case round =>
    obtain ⟨k, hk, rfl, hbd, hnx⟩ := hrel
    have hbl := hbd.out.lt
    by_cases hlt : k < len
    · obtain ⟨b, off, rfl, hb, hl, hm, hts, hc⟩ := HP.out.cells (by omega)
      have ht : ls[k]? = some ls[k] := List.getElem?_eq_getElem (by omega)
      have HK : Hid (ls.take (k + 1) = ls.take k ++ [ls[k]]) := Lib.hid (List.take_succ_eq_append_getElem (by omega))
      obtain ⟨s1, s2⟩ := HSP.out ls[k] (List.getElem_mem _)
      obtain ⟨c0, c1, m0, m1⟩ := hc k _ ht
      clear m0 m1
      rw [← hnx.cell (p := ⟨b, _, none⟩) hb] at c0 c1
      generalize ls[k] = p at c0 c1 HK s1 s2
      have HN : Hid (headL (ls.take (k + 1)) = headL (ls.take k) ++ preLine p) := Lib.hid (by rw [HK.out, headL_snoc])
      have hln := HH.out k
      obtain ⟨l, hll⟩ : ∃ l, headL (ls.take k) = l := ⟨_, rfl⟩
      rw [hll] at hbd HN hln
      have NM := Lib.hid (implNamed p.2 (by omega))
      obtain ⟨m, hm2⟩ : ∃ m, bs (60 :: (p.2.data.toList ++ [62])) = m := ⟨_, rfl⟩
      have hms : m.size = p.2.size + 2 := by rw [← hm2, bs_size]; simp
      obtain ⟨j0, g0⟩ : ∃ j, { data := #[64, 112, 114, 101, 102, 105, 120, 32] } ++ p.1 = j := ⟨_, rfl⟩
      obtain ⟨j1, g1⟩ : ∃ j, j0 ++ { data := #[58, 32] } = j := ⟨_, rfl⟩
      obtain ⟨j2, g2⟩ : ∃ j, j1 ++ m = j := ⟨_, rfl⟩
      obtain ⟨j3, g3⟩ : ∃ j, j2 ++ { data := #[32, 46, 10] } = j := ⟨_, rfl⟩
      have q1 : (ByteArray.mk #[64, 112, 114, 101, 102, 105, 120, 32]).size = 8 := rfl
      have q2 : (ByteArray.mk #[58, 32]).size = 2 := rfl
      have q3 : (ByteArray.mk #[32, 46, 10]).size = 3 := rfl
      have z0 : j0.size = p.1.size + 8 := by rw [← g0, ByteArray.size_append]; omega
      have z1 : j1.size = p.1.size + 10 := by rw [← g1, ByteArray.size_append]; omega
      have z2 : j2.size = p.1.size + p.2.size + 12 := by rw [← g2, ByteArray.size_append]; omega
      have z3 : j3.size = p.1.size + p.2.size + 15 := by rw [← g3, ByteArray.size_append]; omega
      have a0 := addFact (by omega) g0
      have a1 := addFact (by omega) g1
      have a2 := addFact (by omega) g2
      have a3 := addFact (by omega) g3
      have HJ : Hid (j3.data.toList = preLine p) := Lib.hid (by
        rw [← g3, ← g2, ← g1, ← g0, line_pre, bs_toList, ← hm2, bs_toList]; rfl)
      rw [hm2] at NM
      have T0 := Box2.new wr (.string p.1) (.string p.2) 30
      have P0 := bldKeep hbd.out (World.grownBy_alloc wr (.cells #[.string p.1, .string p.2] 30) none)
      have B1 := hnx.alloc hnx.size (.cells #[.string p.1, .string p.2] 30)
      obtain ⟨e0, e1⟩ := T0.cells
      clear HK ht hts hc hm hll hm2 g0 g1 g2 g3 hbd
      go_wp2_with fail
      have P0d : Bld w2.heap.size w2.heap.size l (wr.alloc (.cells #[.string p.1, .string p.2] 30)).drew := P0
      rw [← World.cell?_drew] at e0 e1
      refine wp_region_any (by kernel_rfl) ?_
      change wpAny _ _ _ _ _ _ _ (World.drew _)
      refine wpAny_take (i := 0) (v := ?_) rfl (by kernel_rfl) (by kernel_rfl) (by kernel_rfl) (fun _ _ _ h => h) (Or.inl ⟨by kernel_rfl, ?_⟩) ?_
      rotate_left
      · intro w; go_simp; try with_reducible rfl
      refine wpAny_take (i := 4) (v := ?_) rfl (by kernel_rfl) (by kernel_rfl) (by kernel_rfl) (fun _ _ _ h => h) (Or.inl ⟨by kernel_rfl, ?_⟩) ?_
      rotate_left
      · intro w; go_simp; try with_reducible rfl
      refine wpAny_ready (rs := [1, 5]) (by kernel_rfl) (by simp) ?_
      refine AllReady.cons rfl (fun K hK => ?_) (AllReady.cons rfl (fun K hK => ?_) AllReady.nil)
      · go_simp
        refine hK _ _ ?_
        clear hK K
        refine wpAny_take (i := 2) (v := ?_) rfl (by kernel_rfl) (by kernel_rfl) (by kernel_rfl) (fun _ _ _ h => h) (Or.inl ⟨by kernel_rfl, ?_⟩) ?_
        rotate_left
        · intro w; go_simp; try with_reducible rfl
        refine wpAny_take (i := 3) (v := ?_) rfl (by kernel_rfl) (by kernel_rfl) (by kernel_rfl) (fun _ _ _ h => h) (Or.inl ⟨by kernel_rfl, ?_⟩) ?_
        rotate_left
        · intro w; go_simp; try with_reducible rfl
        refine wpAny_ready (rs := [5]) (by kernel_rfl) (by simp) ?_
        refine AllReady.cons rfl (fun K hK => ?_) AllReady.nil
        go_simp
        refine hK _ _ ?_
        clear hK K
        refine wpAny_ready (rs := [6]) (by kernel_rfl) (by simp) ?_
        refine AllReady.cons rfl (fun K hK => ?_) AllReady.nil
        go_simp
        refine (NM.out _).mono ?_
        rintro e wn ⟨rfl, rfl⟩
        go_wp2_with fail
        refine wpAny_take (i := 7) (v := ?_) rfl (by kernel_rfl) (by kernel_rfl) (by kernel_rfl) (fun _ _ _ h => h) (Or.inl ⟨by kernel_rfl, ?_⟩) ?_
        rotate_left
        · intro w; go_simp; try with_reducible rfl
        refine wpAny_take (i := 8) (v := ?_) rfl (by kernel_rfl) (by kernel_rfl) (by kernel_rfl) (fun _ _ _ h => h) (Or.inl ⟨by kernel_rfl, ?_⟩) ?_
        rotate_left
        · intro w; go_simp; try with_reducible rfl
        refine wpAny_ready (rs := [9]) (by kernel_rfl) (by simp) ?_
        refine AllReady.cons rfl (fun K hK => ?_) AllReady.nil
        go_simp
        refine (bldText w2.heap.size w2.heap.size l j3 _ P0d (by omega) (Nat.le_of_lt P0d.lt)).mono ?_
        rintro e w3 ⟨⟨nn, rfl⟩, P2, hb3, _⟩
        go_wp2_with fail
        refine wpAny_done (by kernel_rfl) ?_ _
        try simp only [Act.put, List.setIfInBounds_toArray, List.set_cons_zero, List.set_cons_succ, List.getElem_toArray, List.getElem_cons_zero, List.getElem_cons_succ]
        have B3 := (Below.drew B1).trans (hb3.mono hz)
        clear P0 P0d B1 hb3 e0 e1 T0 hnx c0 c1
        go_wp2_with fail
        go_roundw
        case rel => exact ⟨k + 1, by omega, by go_num, Lib.hid (by rw [HN.out, ← HJ.out]; exact P2), B3⟩
        case measure => simp [intOf]; omega
      · go_simp
        refine hK _ _ ?_
        clear hK K
        refine wpAny_ready (rs := [1, 6]) (by kernel_rfl) (by simp) ?_
        refine AllReady.cons rfl (fun K hK => ?_) (AllReady.cons rfl (fun K hK => ?_) AllReady.nil)
        · go_simp
          refine hK _ _ ?_
          clear hK K
          refine wpAny_take (i := 2) (v := ?_) rfl (by kernel_rfl) (by kernel_rfl) (by kernel_rfl) (fun _ _ _ h => h) (Or.inl ⟨by kernel_rfl, ?_⟩) ?_
          rotate_left
          · intro w; go_simp; try with_reducible rfl
          refine wpAny_take (i := 3) (v := ?_) rfl (by kernel_rfl) (by kernel_rfl) (by kernel_rfl) (fun _ _ _ h => h) (Or.inl ⟨by kernel_rfl, ?_⟩) ?_
          rotate_left
          · intro w; go_simp; try with_reducible rfl
          refine wpAny_ready (rs := [6]) (by kernel_rfl) (by simp) ?_
          refine AllReady.cons rfl (fun K hK => ?_) AllReady.nil
          go_simp
          refine (NM.out _).mono ?_
          rintro e wn ⟨rfl, rfl⟩
          go_wp2_with fail
          refine wpAny_take (i := 7) (v := ?_) rfl (by kernel_rfl) (by kernel_rfl) (by kernel_rfl) (fun _ _ _ h => h) (Or.inl ⟨by kernel_rfl, ?_⟩) ?_
          rotate_left
          · intro w; go_simp; try with_reducible rfl
          refine wpAny_take (i := 8) (v := ?_) rfl (by kernel_rfl) (by kernel_rfl) (by kernel_rfl) (fun _ _ _ h => h) (Or.inl ⟨by kernel_rfl, ?_⟩) ?_
          rotate_left
          · intro w; go_simp; try with_reducible rfl
          refine wpAny_ready (rs := [9]) (by kernel_rfl) (by simp) ?_
          refine AllReady.cons rfl (fun K hK => ?_) AllReady.nil
          go_simp
          refine (bldText w2.heap.size w2.heap.size l j3 _ P0d (by omega) (Nat.le_of_lt P0d.lt)).mono ?_
          rintro e w3 ⟨⟨nn, rfl⟩, P2, hb3, _⟩
          go_wp2_with fail
          refine wpAny_done (by kernel_rfl) ?_ _
          try simp only [Act.put, List.setIfInBounds_toArray, List.set_cons_zero, List.set_cons_succ, List.getElem_toArray, List.getElem_cons_zero, List.getElem_cons_succ]
          have B3 := (Below.drew B1).trans (hb3.mono hz)
          clear P0 P0d B1 hb3 e0 e1 T0 hnx c0 c1
          go_wp2_with fail
          go_roundw
          case rel => exact ⟨k + 1, by omega, by go_num, Lib.hid (by rw [HN.out, ← HJ.out]; exact P2), B3⟩
          case measure => simp [intOf]; omega
        · go_simp
          refine (NM.out _).mono ?_
          rintro e wn ⟨rfl, rfl⟩
          go_wp2_with fail
          refine wpAny_ready (rs := [1]) (by kernel_rfl) (by simp) ?_
          refine AllReady.cons rfl (fun K hK => ?_) AllReady.nil
          go_simp
          refine hK _ _ ?_
          clear hK K
          refine wpAny_take (i := 2) (v := ?_) rfl (by kernel_rfl) (by kernel_rfl) (by kernel_rfl) (fun _ _ _ h => h) (Or.inl ⟨by kernel_rfl, ?_⟩) ?_
          rotate_left
          · intro w; go_simp; try with_reducible rfl
          refine wpAny_take (i := 3) (v := ?_) rfl (by kernel_rfl) (by kernel_rfl) (by kernel_rfl) (fun _ _ _ h => h) (Or.inl ⟨by kernel_rfl, ?_⟩) ?_
          rotate_left
          · intro w; go_simp; try with_reducible rfl
          refine wpAny_take (i := 7) (v := ?_) rfl (by kernel_rfl) (by kernel_rfl) (by kernel_rfl) (fun _ _ _ h => h) (Or.inl ⟨by kernel_rfl, ?_⟩) ?_
          rotate_left
          · intro w; go_simp; try with_reducible rfl
          refine wpAny_take (i := 8) (v := ?_) rfl (by kernel_rfl) (by kernel_rfl) (by kernel_rfl) (fun _ _ _ h => h) (Or.inl ⟨by kernel_rfl, ?_⟩) ?_
          rotate_left
          · intro w; go_simp; try with_reducible rfl
          refine wpAny_ready (rs := [9]) (by kernel_rfl) (by simp) ?_
          refine AllReady.cons rfl (fun K hK => ?_) AllReady.nil
          go_simp
          refine (bldText w2.heap.size w2.heap.size l j3 _ P0d (by omega) (Nat.le_of_lt P0d.lt)).mono ?_
          rintro e w3 ⟨⟨nn, rfl⟩, P2, hb3, _⟩
          go_wp2_with fail
          refine wpAny_done (by kernel_rfl) ?_ _
          try simp only [Act.put, List.setIfInBounds_toArray, List.set_cons_zero, List.set_cons_succ, List.getElem_toArray, List.getElem_cons_zero, List.getElem_cons_succ]
          have B3 := (Below.drew B1).trans (hb3.mono hz)
          clear P0 P0d B1 hb3 e0 e1 T0 hnx c0 c1
          go_wp2_with fail
          go_roundw
          case rel => exact ⟨k + 1, by omega, by go_num, Lib.hid (by rw [HN.out, ← HJ.out]; exact P2), B3⟩
          case measure => simp [intOf]; omega
    · have PB := hbd.out
      rw [List.take_of_length_le (by rw [HT.out]; omega)] at PB
      have hHl := HH.out k
      rw [List.take_of_length_le (by rw [HT.out]; omega)] at hHl
      obtain ⟨H, hH⟩ : ∃ H, headL ls = H := ⟨_, rfl⟩
      rw [hH] at PB hHl HQ
      obtain ⟨wx, hwx⟩ : ∃ wx, wx = wr := ⟨_, rfl⟩
      have T8 := Box.new wr (.string ⟨#[]⟩) (.string ⟨#[]⟩) (.string ⟨#[]⟩) 53
      have P8 := bldKeep PB (World.grownBy_alloc wr (.cells #[.string ⟨#[]⟩, .string ⟨#[]⟩, .string ⟨#[]⟩] 53) none)
      have B8 := hnx.alloc hnx.size (.cells #[.string ⟨#[]⟩, .string ⟨#[]⟩, .string ⟨#[]⟩] 53)
      have hw8 : w.heap.size ≤ wr.heap.size := hnx.size
      have hw82 : w2.heap.size < wr.heap.size := hbl
      obtain ⟨g8, hg8⟩ : ∃ g8, wr.heap.size = g8 := ⟨_, rfl⟩
      rw [hg8] at T8 hw8 hw82
      have CP : ∀ wz, Below w.heap.size w wz → ∀ u t : Tri3, t.1.size ≤ 1048576 ∧ t.2.1.size ≤ 1048576 ∧ t.2.2.size ≤ 1048576 → Calls Try.prog 69 #[.slice a len cap, .agg #[.string u.1, .string u.2.1, .string u.2.2], .agg #[.string t.1, .string t.2.1, .string t.2.2]] wz fun e w' => e = .returned (.string (bs (partL ls u t))) ∧ Below wz.heap.size wz w' :=
        fun wz hb u t ht => implPart a len cap ls wz (HP.out.next hb) HSP.out u t ht
      have DP := Lib.hid CP
      clear hbd PB hH hwx CP
      go_wp2_with fail
      clear hnx hg8
      go_loopw [39] (fun i wz => ∃ k : Nat, k ≤ len' ∧ i = .int .i64 k ∧ Hid (Bld w2.heap.size w2.heap.size (H ++ (bodyL ls ts k ++ termL ts k)) wz) ∧ Hid (Box wz g8 (.string (lastT ts k).1) (.string (lastT ts k).2.1) (.string (lastT ts k).2.2) 53) ∧ Below w.heap.size w wz) (fun i _ => len' - (intOf i).toNat)
      case atStart => exact ⟨0, Nat.zero_le _, rfl, Lib.hid (by simpa [bodyL, termL] using P8), Lib.hid T8, B8⟩
      case round =>
        obtain ⟨k, hk, rfl, hbd, hbx, hnx⟩ := hrel
        have hbl2 := hbd.out.lt
        by_cases hlt2 : k < len'
        · obtain ⟨b, off, rfl, hb, hl, hm, hts, hc⟩ := HG.out.cells (by omega)
          have ht : ts[k]? = some ts[k] := List.getElem?_eq_getElem (by omega)
          have hmm := HST.out ts[k] (List.getElem_mem _)
          have hok := HOK.out ts[k] (List.getElem_mem _)
          obtain ⟨c0, c1, c2, m0, m1, m2⟩ := hc k _ ht
          clear m0 m1 m2
          rw [← hnx.cell (p := ⟨b, _, none⟩) hb] at c0 c1 c2
          obtain ⟨t, htt⟩ : ∃ t, ts[k] = t := ⟨_, rfl⟩
          rw [htt] at c0 c1 c2 ht hmm hok
          have HSTEP : Hid (bodyL ls ts (k + 1) = bodyL ls ts k ++ (termL ts k ++ partL ls (lastT ts k) t)) := Lib.hid (by rw [part_step ls ht hok]; rfl)
          have hln : (H ++ (bodyL ls ts k ++ termL ts k)).length ≤ 600000000 := by
            have := HB.out k (by rw [HT'.out]; omega)
            have := term_small ts k
            simp only [List.length_append]
            omega
          obtain ⟨l, hll⟩ : ∃ l, H ++ (bodyL ls ts k ++ termL ts k) = l := ⟨_, rfl⟩
          rw [hll] at hbd hln
          obtain ⟨u, huu⟩ : ∃ u, lastT ts k = u := ⟨_, rfl⟩
          rw [huu] at hbx HSTEP
          have hxs := part_small HSP.out hmm u
          obtain ⟨x, hx⟩ : ∃ x, bs (partL ls u t) = x := ⟨_, rfl⟩
          have hxz : x.size ≤ 7000000 := by rw [← hx, bs_size]; exact hxs
          have HL1 : Hid (l ++ x.data.toList = H ++ bodyL ls ts (k + 1)) := Lib.hid (by rw [← hx, bs_toList, ← hll, HSTEP.out]; simp)
          have PT : ∀ wz, Below w.heap.size w wz → Calls Try.prog 69 #[.slice a len cap, .agg #[.string u.1, .string u.2.1, .string u.2.2], .agg #[.string t.1, .string t.2.1, .string t.2.2]] wz fun e w' => e = .returned (.string x) ∧ Below wz.heap.size wz w' := fun wz hb => by rw [← hx]; exact DP.out wz hb u t hmm
          have E := Lib.hid PT
          have HLN : Hid (lastT ts (k + 1) = t) := Lib.hid (last_next ht)
          have T10 := Box.new wr (.string t.1) (.string t.2.1) (.string t.2.2) 53
          have X8a := hbx.out.alloc (.cells #[.string t.1, .string t.2.1, .string t.2.2] 53)
          have P10 := bldKeep hbd.out (World.grownBy_alloc wr (.cells #[.string t.1, .string t.2.1, .string t.2.2] 53) none)
          have B10 := hnx.alloc hnx.size (.cells #[.string t.1, .string t.2.1, .string t.2.2] 53)
          obtain ⟨d0, d1, d2⟩ := X8a.cells
          obtain ⟨e0, e1, e2⟩ := T10.cells
          have hw8b : g8 < wr.heap.size := hbx.out.lt
          obtain ⟨gT, hgT⟩ : ∃ gT, wr.heap.size = gT := ⟨_, rfl⟩
          rw [hgT] at T10 e0 e1 e2 hw8b
          have hne : ¬ g8 = gT := by omega
          have hne2 : ¬ gT = g8 := by omega
          have hwk : IntKind.i64.wrap ((k : Int) + 1) = (k : Int) + 1 := IntWalk.i64_in _ (by omega)
          have q3 : (ByteArray.mk #[32, 46, 10]).size = 3 := rfl
          have KC := hc
          clear hbd hbx htt hts hc hm hll huu hx PT hxs
          have hbl1 : (H ++ bodyL ls ts (k + 1)).length ≤ 610000000 := by
            rw [← HL1.out, List.length_append, size_len]; omega
          by_cases gE : (k : Int) + 1 = (len' : Int)
          · have HTE : Hid (termL ts (k + 1) = [32, 46, 10]) := Lib.hid (term_end ht (List.getElem?_eq_none (by rw [HT'.out]; omega)))
            have hd1 : ((k : Int) + 1 == (len' : Int)) = true := by rw [beq_iff_eq]; exact gE
            clear KC gE
            go_wp2_with fail
            refine (E.out _ B10).mono ?_
            rintro e w3 ⟨rfl, hb3⟩
            have P3 := bldKeep P10 (grown_of_below hb3)
            have X8 := X8a.next hb3
            have X10 := T10.next hb3
            have B3 := B10.trans (hb3.mono B10.size)
            clear P10 X8a T10 B10 hb3 d0 d1 d2 e0 e1 e2 c0 c1 c2 hnx
            go_wp2_with fail
            refine (bldText w2.heap.size w2.heap.size l x _ P3 (by omega) (Nat.le_of_lt P3.lt)).mono ?_
            rintro e w4 ⟨⟨nn, rfl⟩, P4, hb4, hk4⟩
            have B4 := B3.trans (hb4.mono hz)
            have Y8 : Box w4 g8 _ _ _ _ := hk4 g8 _ _ _ X8 (by decide) (by decide)
            have Y10 : Box w4 gT _ _ _ _ := hk4 gT _ _ _ X10 (by decide) (by decide)
            rw [HL1.out] at P4
            clear P3 X8 X10 B3 hb4 hk4
            go_wp2_with fail
            refine wp_region_any (by kernel_rfl) ?_
            change wpAny _ _ _ _ _ _ _ (World.drew _)
            refine wpAny_take (i := 0) (v := ?_) rfl (by kernel_rfl) (by kernel_rfl) (by kernel_rfl) (fun _ _ _ h => h) (Or.inl ⟨by kernel_rfl, ?_⟩) ?_
            rotate_left
            · intro w; go_simp; try with_reducible rfl
            refine wpAny_take (i := 1) (v := ?_) rfl (by kernel_rfl) (by kernel_rfl) (by kernel_rfl) (fun _ _ _ h => h) (Or.inl ⟨by kernel_rfl, ?_⟩) ?_
            rotate_left
            · intro w; go_simp; try with_reducible rfl
            refine wpAny_take (i := 2) (v := ?_) rfl (by kernel_rfl) (by kernel_rfl) (by kernel_rfl) (fun _ _ _ h => h) (Or.inl ⟨by kernel_rfl, ?_⟩) ?_
            rotate_left
            · intro w; go_simp; try with_reducible rfl
            refine wpAny_take (i := 3) (v := ?_) rfl (by kernel_rfl) (by kernel_rfl) (by kernel_rfl) (fun _ _ _ h => h) (Or.inl ⟨by kernel_rfl, ?_⟩) ?_
            rotate_left
            · intro w; go_simp; try with_reducible rfl
            refine wpAny_take (i := 4) (v := ?_) rfl (by kernel_rfl) (by kernel_rfl) (by kernel_rfl) (fun _ _ _ h => h) (Or.inl ⟨by kernel_rfl, ?_⟩) ?_
            rotate_left
            · intro w; go_simp; try with_reducible rfl
            refine wpAny_take (i := 5) (v := ?_) rfl (by kernel_rfl) (by kernel_rfl) (by kernel_rfl) (fun _ _ _ h => h) (Or.inl ⟨by kernel_rfl, ?_⟩) ?_
            rotate_left
            · intro w; go_simp; try with_reducible rfl
            refine wpAny_take (i := 6) (v := undef) rfl (by kernel_rfl) (by kernel_rfl) (by kernel_rfl) (fun _ _ _ h => h) (Or.inr ⟨by kernel_rfl, rfl⟩) ?_
            refine wpAny_take (i := 7) (v := undef) rfl (by kernel_rfl) (by kernel_rfl) (by kernel_rfl) (fun _ _ _ h => h) (Or.inr ⟨by kernel_rfl, rfl⟩) ?_
            refine wpAny_take (i := 8) (v := undef) rfl (by kernel_rfl) (by kernel_rfl) (by kernel_rfl) (fun _ _ _ h => h) (Or.inr ⟨by kernel_rfl, rfl⟩) ?_
            refine wpAny_take (i := 9) (v := undef) rfl (by kernel_rfl) (by kernel_rfl) (by kernel_rfl) (fun _ _ _ h => h) (Or.inr ⟨by kernel_rfl, rfl⟩) ?_
            refine wpAny_take (i := 10) (v := undef) rfl (by kernel_rfl) (by kernel_rfl) (by kernel_rfl) (fun _ _ _ h => h) (Or.inr ⟨by kernel_rfl, rfl⟩) ?_
            refine wpAny_take (i := 11) (v := undef) rfl (by kernel_rfl) (by kernel_rfl) (by kernel_rfl) (fun _ _ _ h => h) (Or.inr ⟨by kernel_rfl, rfl⟩) ?_
            refine wpAny_take (i := 12) (v := undef) rfl (by kernel_rfl) (by kernel_rfl) (by kernel_rfl) (fun _ _ _ h => h) (Or.inr ⟨by kernel_rfl, rfl⟩) ?_
            refine wpAny_take (i := 13) (v := undef) rfl (by kernel_rfl) (by kernel_rfl) (by kernel_rfl) (fun _ _ _ h => h) (Or.inr ⟨by kernel_rfl, rfl⟩) ?_
            refine wpAny_take (i := 14) (v := undef) rfl (by kernel_rfl) (by kernel_rfl) (by kernel_rfl) (fun _ _ _ h => h) (Or.inr ⟨by kernel_rfl, rfl⟩) ?_
            refine wpAny_take (i := 15) (v := ?_) rfl (by kernel_rfl) (by kernel_rfl) (by kernel_rfl) (fun _ _ _ h => h) (Or.inl ⟨by kernel_rfl, ?_⟩) ?_
            rotate_left
            · intro w; go_simp; try with_reducible rfl
            refine wpAny_done (by kernel_rfl) ?_ _
            try simp only [Act.put, List.setIfInBounds_toArray, List.set_cons_zero, List.set_cons_succ, List.getElem_toArray, List.getElem_cons_zero, List.getElem_cons_succ]
            have P4d : Bld w2.heap.size w2.heap.size (H ++ bodyL ls ts (k + 1)) w4.drew := P4
            have Y8d : Box w4.drew g8 _ _ _ _ := Y8
            have Y10d : Box w4.drew gT _ _ _ _ := Y10
            have B4d : Below w.heap.size w w4.drew := B4.drew
            clear P4 Y8 Y10 B4
            go_wp2_with fail
            refine (bldText w2.heap.size w2.heap.size (H ++ bodyL ls ts (k + 1)) ⟨#[32, 46, 10]⟩ _ P4d (by have := hbl1; omega) (Nat.le_of_lt P4d.lt)).mono ?_
            rintro e w5 ⟨⟨nn2, rfl⟩, P5, hb5, hk5⟩
            have B5 := B4d.trans (hb5.mono hz)
            have V8 : Box w5 g8 _ _ _ _ := hk5 g8 _ _ _ Y8d (by decide) (by decide)
            have V10 : Box w5 gT _ _ _ _ := hk5 gT _ _ _ Y10d (by decide) (by decide)
            clear hb5 hk5 P4d Y8d Y10d B4d
            obtain ⟨e0, e1, e2⟩ := V10.cells
            obtain ⟨d0, d1, d2⟩ := V8.cells
            obtain ⟨f0, f1, f2⟩ := V8.free
            have Q1 := bld_far P5 V8 (by decide) (by decide) 0 (.string t.1)
            have Q2 := bld_far Q1 (V8.set0 (.string t.1)) (by decide) (by decide) 1 (.string t.2.1)
            have Q3 := bld_far Q2 ((V8.set0 (.string t.1)).set1 (.string t.2.1)) (by decide) (by decide) 2 (.string t.2.2)
            have Z8 := ((V8.set0 (.string t.1)).set1 (.string t.2.1)).set2 (.string t.2.2)
            have Z9 := ((B5.setCell (p := ⟨g8, 0, none⟩) hw8 (.string t.1)).setCell (p := ⟨g8, 1, none⟩) hw8 (.string t.2.1)).setCell (p := ⟨g8, 2, none⟩) hw8 (.string t.2.2)
            clear P5 V8 V10 B5 Q1 Q2
            go_wp2_with fail
            go_roundw
            case rel => exact ⟨k + 1, by omega, by go_num, Lib.hid (by rw [HTE.out]; rw [← List.append_assoc]; exact Q3), Lib.hid (by rw [HLN.out]; exact Z8), Z9⟩
            case measure => simp [intOf]; omega
          · have hkl : k + 1 < ts.length := by rw [HT'.out]; omega
            have hv : ts[k + 1]? = some ts[k + 1] := List.getElem?_eq_getElem hkl
            obtain ⟨v0, _, _, m0, _, _⟩ := KC (k + 1) _ hv
            clear m0
            obtain ⟨v, hvv⟩ : ∃ v, ts[k + 1] = v := ⟨_, rfl⟩
            rw [hvv] at v0 hv
            have hd1 : ((k : Int) + 1 == (len' : Int)) = false := by rw [beq_eq_false_iff_ne]; exact gE
            have hk8 : (0 : Int) ≤ (k : Int) + 1 := by omega
            have hk9 : (k : Int) + 1 < (len' : Int) := by omega
            have HTN := term_next ht hv
            clear KC hvv hv
            cases hsm : sameS v t
            · have hs1 : (v.1.toList == t.1.toList) = false := hsm
              have HTE : Hid (termL ts (k + 1) = [32, 46, 10]) := Lib.hid (by rw [HTN, hsm]; rfl)
              clear HTN hsm
              go_wp2_with fail
              refine (E.out _ B10).mono ?_
              rintro e w3 ⟨rfl, hb3⟩
              have P3 := bldKeep P10 (grown_of_below hb3)
              have X8 := X8a.next hb3
              have X10 := T10.next hb3
              have B3 := B10.trans (hb3.mono B10.size)
              clear P10 X8a T10 B10 hb3 d0 d1 d2 e0 e1 e2 c0 c1 c2 hnx
              go_wp2_with fail
              refine (bldText w2.heap.size w2.heap.size l x _ P3 (by omega) (Nat.le_of_lt P3.lt)).mono ?_
              rintro e w4 ⟨⟨nn, rfl⟩, P4, hb4, hk4⟩
              have B4 := B3.trans (hb4.mono hz)
              have Y8 : Box w4 g8 _ _ _ _ := hk4 g8 _ _ _ X8 (by decide) (by decide)
              have Y10 : Box w4 gT _ _ _ _ := hk4 gT _ _ _ X10 (by decide) (by decide)
              rw [HL1.out] at P4
              clear P3 X8 X10 B3 hb4 hk4
              have v1 := v0
              rw [← B4.cell (p := ⟨b, _, none⟩) hb] at v1
              obtain ⟨e0, e1, e2⟩ := Y10.cells
              go_wp2_with fail
              go_quiet (fail)
              have P4d : Bld w2.heap.size w2.heap.size (H ++ bodyL ls ts (k + 1)) (w4.drewN nq) := P4
              have Y8d : Box (w4.drewN nq) g8 _ _ _ _ := Y8
              have Y10d : Box (w4.drewN nq) gT _ _ _ _ := Y10
              have B4d : Below w.heap.size w (w4.drewN nq) := below_drewN B4 _
              clear P4 Y8 Y10 B4 e0 e1 e2 v1
              go_wp2_with fail
              refine (bldText w2.heap.size w2.heap.size (H ++ bodyL ls ts (k + 1)) ⟨#[32, 46, 10]⟩ _ P4d (by have := hbl1; omega) (Nat.le_of_lt P4d.lt)).mono ?_
              rintro e w5 ⟨⟨nn2, rfl⟩, P5, hb5, hk5⟩
              have B5 := B4d.trans (hb5.mono hz)
              have V8 : Box w5 g8 _ _ _ _ := hk5 g8 _ _ _ Y8d (by decide) (by decide)
              have V10 : Box w5 gT _ _ _ _ := hk5 gT _ _ _ Y10d (by decide) (by decide)
              clear hb5 hk5 P4d Y8d Y10d B4d
              obtain ⟨e0, e1, e2⟩ := V10.cells
              obtain ⟨d0, d1, d2⟩ := V8.cells
              obtain ⟨f0, f1, f2⟩ := V8.free
              have Q1 := bld_far P5 V8 (by decide) (by decide) 0 (.string t.1)
              have Q2 := bld_far Q1 (V8.set0 (.string t.1)) (by decide) (by decide) 1 (.string t.2.1)
              have Q3 := bld_far Q2 ((V8.set0 (.string t.1)).set1 (.string t.2.1)) (by decide) (by decide) 2 (.string t.2.2)
              have Z8 := ((V8.set0 (.string t.1)).set1 (.string t.2.1)).set2 (.string t.2.2)
              have Z9 := ((B5.setCell (p := ⟨g8, 0, none⟩) hw8 (.string t.1)).setCell (p := ⟨g8, 1, none⟩) hw8 (.string t.2.1)).setCell (p := ⟨g8, 2, none⟩) hw8 (.string t.2.2)
              clear P5 V8 V10 B5 Q1 Q2
              go_wp2_with fail
              go_roundw
              case rel => exact ⟨k + 1, by omega, by go_num, Lib.hid (by rw [HTE.out]; rw [← List.append_assoc]; exact Q3), Lib.hid (by rw [HLN.out]; exact Z8), Z9⟩
              case measure => simp [intOf]; omega
            · have hs1 : (v.1.toList == t.1.toList) = true := hsm
              have HTE : Hid (termL ts (k + 1) = []) := Lib.hid (by rw [HTN, hsm]; rfl)
              clear HTN hsm
              go_wp2_with fail
              refine (E.out _ B10).mono ?_
              rintro e w3 ⟨rfl, hb3⟩
              have P3 := bldKeep P10 (grown_of_below hb3)
              have X8 := X8a.next hb3
              have X10 := T10.next hb3
              have B3 := B10.trans (hb3.mono B10.size)
              clear P10 X8a T10 B10 hb3 d0 d1 d2 e0 e1 e2 c0 c1 c2 hnx
              go_wp2_with fail
              refine (bldText w2.heap.size w2.heap.size l x _ P3 (by omega) (Nat.le_of_lt P3.lt)).mono ?_
              rintro e w4 ⟨⟨nn, rfl⟩, P4, hb4, hk4⟩
              have B4 := B3.trans (hb4.mono hz)
              have Y8 : Box w4 g8 _ _ _ _ := hk4 g8 _ _ _ X8 (by decide) (by decide)
              have Y10 : Box w4 gT _ _ _ _ := hk4 gT _ _ _ X10 (by decide) (by decide)
              rw [HL1.out] at P4
              clear P3 X8 X10 B3 hb4 hk4
              have v1 := v0
              rw [← B4.cell (p := ⟨b, _, none⟩) hb] at v1
              obtain ⟨e0, e1, e2⟩ := Y10.cells
              go_wp2_with fail
              go_quiet (fail)
              have P4d : Bld w2.heap.size w2.heap.size (H ++ bodyL ls ts (k + 1)) (w4.drewN nq) := P4
              have Y8d : Box (w4.drewN nq) g8 _ _ _ _ := Y8
              have Y10d : Box (w4.drewN nq) gT _ _ _ _ := Y10
              have B4d : Below w.heap.size w (w4.drewN nq) := below_drewN B4 _
              clear P4 Y8 Y10 B4 e0 e1 e2 v1
              obtain ⟨e0, e1, e2⟩ := Y10d.cells
              obtain ⟨d0, d1, d2⟩ := Y8d.cells
              obtain ⟨f0, f1, f2⟩ := Y8d.free
              have Q1 := bld_far P4d Y8d (by decide) (by decide) 0 (.string t.1)
              have Q2 := bld_far Q1 (Y8d.set0 (.string t.1)) (by decide) (by decide) 1 (.string t.2.1)
              have Q3 := bld_far Q2 ((Y8d.set0 (.string t.1)).set1 (.string t.2.1)) (by decide) (by decide) 2 (.string t.2.2)
              have Z8 := ((Y8d.set0 (.string t.1)).set1 (.string t.2.1)).set2 (.string t.2.2)
              have Z9 := ((B4d.setCell (p := ⟨g8, 0, none⟩) hw8 (.string t.1)).setCell (p := ⟨g8, 1, none⟩) hw8 (.string t.2.1)).setCell (p := ⟨g8, 2, none⟩) hw8 (.string t.2.2)
              clear P4d Y8d Y10d B4d Q1 Q2
              go_wp2_with fail
              go_roundw
              case rel => exact ⟨k + 1, by omega, by go_num, Lib.hid (by rw [HTE.out]; rw [List.append_nil]; exact Q3), Lib.hid (by rw [HLN.out]; exact Z8), Z9⟩
              case measure => simp [intOf]; omega
        · have HF : Hid (H ++ (bodyL ls ts k ++ termL ts k) = q) := Lib.hid (by rw [← HQ.out, HT'.out, show len' = k from by omega])
          have P := hbd.out
          rw [HF.out] at P
          go_wp2_with fail
          refine (bldString _ _ q _ P (Nat.le_of_lt hbl2)).mono ?_
          rintro e w4 ⟨rfl, hb4⟩
          have B4 := hnx.trans (hb4.mono hz)
          go_wp2_with fail
          go_ret
          exact ⟨rfl, B4⟩
end Go.Proofs.Ytdhieemalhadmab
