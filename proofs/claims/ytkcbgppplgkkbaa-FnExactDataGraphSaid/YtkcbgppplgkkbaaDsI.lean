/- A dataset as the program keeps it: a map from names to graphs, each copied; DataGraph. -/
import Derived.Test.YtkcbgppplgkkbaaDsN
import Derived.Test.YtkcbgppplgkkbaaClo
import Derived.Test.YtkcbgppplgkkbaaDokI
import Derived.Test.YtkcbgppplgkkbaaDgr
namespace Go.Proofs.Ytkcbgppplgkkbaa
open Go.RowKit Go.WideShapes Go.Maps
theorem graphAt_nodup : ∀ (ts : List NamV), (ts.map nmT).Nodup → ∀ t ∈ ts, graphAt ts t.1 = t.2
  | [], _, t, h => by simp at h
  | r :: rs, hn, t, h => by
    rw [List.map_cons, List.nodup_cons] at hn
    unfold graphAt
    rcases List.mem_cons.1 h with rfl | h
    · rw [if_pos rfl]
    · rw [if_neg (fun e => hn.1 (List.mem_map.2 ⟨t, h, by unfold nmT; rw [e]⟩))]
      exact graphAt_nodup rs hn.2 t h
theorem graphAt_none : ∀ (ts : List NamV) (s : ByteArray), s.data.toList ∉ ts.map nmT → graphAt ts s = []
  | [], _, _ => rfl
  | r :: rs, s, h => by
    rw [List.map_cons, List.mem_cons, not_or] at h
    unfold graphAt
    rw [if_neg (fun e => h.1 (by unfold nmT; rw [e]))]
    exact graphAt_none rs s h.2
theorem InnN.grow {B : Nat} {w w' : World} {ts : List NamV} {us : List Value} {row : Option Nat} (h : InnN B w ts us) (hg : w.grownBy w' row) (hne : ∀ u ∈ us, u.ownBlock = none ∨ u.ownBlock ≠ row) : InnN B w' ts us :=
  ⟨h.1, fun i u t hu ht => World.ownsRow.kept (h.2.1 i u t hu ht) hg (hne u (List.mem_of_getElem? hu)), h.2.2⟩
/-- A map's block is no row's. -/
theorem row_no_map {B b e k n : Nat} {w : World} {v : Value} {xs : List Value} (h : w.ownsRow B e k v n xs) (hb : ∃ es c, w.heap[b]? = some (.map es c)) : v.ownBlock = none ∨ v.ownBlock ≠ some b := by
  obtain ⟨es, c, hb⟩ := hb
  rcases h.2 with ⟨rfl, _⟩ | ⟨g, cap, cur, rfl, _, hh, _⟩
  · exact .inl rfl
  · refine .inr fun e => ?_
    simp only [Value.ownBlock, Option.some.injEq] at e
    subst e
    rw [hh] at hb
    cases hb
theorem InnN.noMap {B b : Nat} {w : World} {ts : List NamV} {us : List Value} (h : InnN B w ts us) (hb : ∃ es c, w.heap[b]? = some (.map es c)) : ∀ u ∈ us, u.ownBlock = none ∨ u.ownBlock ≠ some b := by
  intro u hu
  obtain ⟨i, hi⟩ := List.mem_iff_getElem?.1 hu
  have hil := (List.getElem?_eq_some_iff.1 hi).1
  exact row_no_map (h.2.1 i u _ hi (List.getElem?_eq_getElem (by have := h.1; omega : i < ts.length))) hb
def DsPost (B : Nat) (ts : List NamV) (w : World) (e : Ending) (w' : World) : Prop :=
  ∃ b us, e = .returned (.tuple #[.map (some b), .bool true]) ∧ (OwnMapD w' b ts.length (kvsD ts us) ∧ InnN B w' ts us) ∧ B ≤ b ∧ Below B w w'
set_option maxRecDepth 100000 in
set_option maxHeartbeats 3200000 in
theorem implDatasetNo (a : Option Addr) (len cap : Nat) (ts : List NamV) (w : World) (h : IsNams w a len cap ts) (hs : SmN ts) (hq : dataOk ts = false) :
    Calls Try.prog 27 #[.slice a len cap] w fun e w' => e = .returned (.tuple #[.map none, .bool false]) ∧ Below w.heap.size w w' := by
  have C := implDataOk a len cap ts w h hs
  rw [hq] at C
  have HC := Lib.hid C
  clear C h
  go_enter Try.func27, Try.ntmps27
  go_wp2_with fail
  refine HC.out.mono ?_
  rintro e w1 ⟨rfl, hb1⟩
  go_wp2_with fail
  go_ret2
  exact ⟨rfl, hb1⟩
set_option maxRecDepth 100000 in
set_option maxHeartbeats 3200000 in
theorem implDatasetOf (a : Option Addr) (len cap : Nat) (ts : List NamV) (w : World) (h : IsNams w a len cap ts) (hs : SmN ts) (hl : totN ts ≤ 1048576) (hq : dataOk ts = true) :
    Calls Try.prog 27 #[.slice a len cap] w (DsPost w.heap.size ts w) := by
  have C := implDataOk a len cap ts w h hs
  rw [hq] at C
  obtain ⟨h6, hri⟩ := dataOk_parts hq
  have HRI := Lib.hid hri
  have HC0 := Lib.hid C
  have HT := Lib.hid h.len
  have H := Lib.hid h
  have HSM := Lib.hid hs
  have hmm := @run_makeMap Try.prog
  have h6' : len ≤ 6 := by rw [← h.len]; exact h6
  clear C h hri hs hq h6
  go_enter Try.func27, Try.ntmps27
  go_wp2_with fail
  refine HC0.out.mono ?_
  rintro e w1 ⟨rfl, hb1⟩
  have hz1 := hb1.size
  have M0 := Lib.hid (OwnMapD.made w1)
  have B0 : Below w.heap.size w (w1.alloc (.map #[] 0)) := hb1.trans (((Below.refl w1.heap.size w1).alloc (Nat.le_refl _) (.map #[] 0)).mono hb1.size)
  go_wp2_with fail
  go_loopw [13] (fun i wr => ∃ (k : Nat) (us : List Value), k ≤ len ∧ i = .int .i64 k ∧ Hid (OwnMapD wr w1.heap.size k (kvsD (ts.take k) us) ∧ InnN w.heap.size wr (ts.take k) us) ∧ Below w.heap.size w wr) (fun i _ => len - (intOf i).toNat)
  case atStart => exact ⟨0, [], Nat.zero_le _, rfl, Lib.hid ⟨M0.out, InnN.nil _ _⟩, B0⟩
  case round =>
    obtain ⟨k, us, hk, rfl, HQ, hnx⟩ := hrel
    clear M0 B0
    have hk6 : (0 : Int) ≤ (k : Int) := by omega
    by_cases hlt : k < len
    · have hk7 : (k : Int) < (len : Int) := by omega
      obtain ⟨b, off, rfl, hb, hll, hm, hts, hc⟩ := (H.out.next hnx).cells (by omega)
      have ht : ts[k]? = some (ts[k]'(by omega)) := List.getElem?_eq_getElem (by omega)
      have HK : Hid (ts.take (k + 1) = ts.take k ++ [ts[k]'(by omega)]) := Lib.hid (List.take_succ_eq_append_getElem (by omega))
      obtain ⟨ga, gn, gc, c0, c1, hz, m0⟩ := hc k _ ht
      have htot := totN_mem (List.mem_of_getElem? ht)
      have HN := Lib.hid (rising_new HRI.out ht)
      have HSZ := HSM.out _ (List.mem_of_getElem? ht)
      generalize ts[k]'(by omega) = t at ht HK c0 c1 hz m0 htot HN HSZ
      obtain ⟨s, g⟩ := t
      simp only at c0 c1 hz m0 htot
      have hgn : gn ≤ 1048576 := by have := hz.len; omega
      have T0 := NamK.Box2.new wr (.string s) (.slice ga gn gc) 43
      have BW := (Below.refl wr.heap.size wr).alloc (Nat.le_refl _) (.cells #[.string s, .slice ga gn gc] 43)
      have HC : Hid (∀ W, Below wr.heap.size wr W → Calls Try.prog 44 #[.slice ga gn gc] W fun e w' => ∃ v, e = .returned v ∧ OwnT W.heap.size w' v g ∧ Below W.heap.size W w') := Lib.hid (fun W hW => implCloneN ga gn gc g W (hz.next hW) hgn)
      have hs2 : s.size ≤ maxLen := m0
      have hkm : k < maxLen := by unfold maxLen; omega
      clear ht hts hc hm hz m0 htot HSZ
      go_wp2_with fail
      refine wp_region_held_drew (S := (fun w' => w'.cell? ⟨wr.heap.size, 0, none⟩ = some (.string s) ∧ w'.cell? ⟨wr.heap.size, 1, none⟩ = some (.slice ga gn gc))) (by kernel_rfl) ?_ (fun hHeld => ?_)
      · exact T0.drew.cells
      refine wpAnyH_take (i := 0) (v := ?_) rfl (by kernel_rfl) (by kernel_rfl) (by kernel_rfl) (fun _ _ _ h => h) (Or.inl ⟨by kernel_rfl, ?_⟩) (by assumption) ?_
      rotate_left
      · intro w hSw; (try dsimp only at hSw); go_simp; try with_reducible rfl
      refine wpAnyH_take (i := 1) (v := ?_) rfl (by kernel_rfl) (by kernel_rfl) (by kernel_rfl) (fun _ _ _ h => h) (Or.inl ⟨by kernel_rfl, ?_⟩) (by assumption) ?_
      rotate_left
      · intro w hSw; (try dsimp only at hSw); go_simp; try with_reducible rfl
      refine wpAnyH_take (i := 2) (v := ?_) rfl (by kernel_rfl) (by kernel_rfl) (by kernel_rfl) (fun _ _ _ h => h) (Or.inl ⟨by kernel_rfl, ?_⟩) (by assumption) ?_
      rotate_left
      · intro w hSw; (try dsimp only at hSw); go_simp; try with_reducible rfl
      refine wpAnyH_take (i := 3) (v := ?_) rfl (by kernel_rfl) (by kernel_rfl) (by kernel_rfl) (fun _ _ _ h => h) (Or.inl ⟨by kernel_rfl, ?_⟩) (by assumption) ?_
      rotate_left
      · intro w hSw; (try dsimp only at hSw); go_simp; try with_reducible rfl
      refine wpAnyH_take (i := 4) (v := ?_) rfl (by kernel_rfl) (by kernel_rfl) (by kernel_rfl) (fun _ _ _ h => h) (Or.inl ⟨by kernel_rfl, ?_⟩) (by assumption) ?_
      rotate_left
      · intro w hSw; (try dsimp only at hSw); go_simp; try with_reducible rfl
      refine wpAnyH_ready (rs := [5]) (by kernel_rfl) (by simp) ?_
      refine AllReadyH.cons rfl (fun K hK => ?_) AllReadyH.nil
      go_simp
      refine (HC.out _ (by exact BW.drew)).mono ?_
      rintro e w5 ⟨u, rfl, ou, hb5⟩
      go_wp2_with fail
      clear hHeld
      refine hK.out _ _ ?_ (fun hHeld => ?_)
      · exact (T0.drew.next hb5).cells
      clear hK K
      refine wpAnyH_ready (rs := [6]) (by kernel_rfl) (by simp) ?_
      refine AllReadyH.cons rfl (fun K hK => ?_) AllReadyH.nil
      rw [if_pos (by rfl)]
      have B5 := (BW.drew).trans (hb5.mono BW.size)
      have M5 := HQ.out.1.next B5
      refine upon_putD _ _ _ _ (by rfl) w1.heap.size k (kvsD (ts.take k) us) (by rfl) M5 hkm s hs2 (by rfl) u (by rfl) ?_
      intro w7 M7 g7
      have T7 : NamK.Box2 w7 wr.heap.size (.string s) (.slice ga gn gc) 43 := by
        have T5 := T0.drew.next hb5
        refine (g7.block _ T5.lt (fun e => ?_)).trans T5
        obtain ⟨es, c, hmm⟩ := M5.isMap
        simp only [Option.some.injEq] at e
        rw [← e, T5] at hmm
        cases hmm
      clear hHeld
      refine hK.out _ _ ?_ (fun hHeld => ?_)
      · exact T7.cells
      clear hK K
      refine wpAnyH_done (by kernel_rfl) ?_ _
      try simp only [Act.put, List.getElem_toArray, List.getElem_cons_zero, List.getElem_cons_succ]
      have N5 := hnx.trans (B5.mono hnx.size)
      have I5 : InnN w.heap.size w5 (ts.take k ++ [(s, g)]) (us ++ [u]) := by
        have I4 := HQ.out.2.next (((Below.refl wr.heap.size wr).alloc (Nat.le_refl _) (.cells #[.string s, .slice ga gn gc] 43)).drew)
        have hl4 := HQ.out.2.lt
        exact InnN.snoc (I4.next hb5) (fun v hv j hj => by have := (hl4 v hv j hj).2; exact Nat.lt_of_lt_of_le this (Nat.le_of_lt T0.lt)) (Nat.le_trans hnx.size (Nat.le_of_lt T0.lt)) ou
      have I7 := I5.grow g7 (I5.noMap M5.isMap)
      have N7 := N5.grown g7 N5.size (fun j hj => by cases hj; exact hz1)
      have hlen : us.length = (ts.take k).length := HQ.out.2.1
      have M8 : OwnMapD w7 w1.heap.size (k + 1) (kvsD (ts.take (k + 1)) (us ++ [u])) := by
        rw [HK.out, kvsD_snoc _ _ _ _ hlen]
        have := addD_new (v := u) (show nmT (s, g) ∉ (kvsD (ts.take k) us).map Prod.fst by rw [kvsD_keys _ _ hlen]; exact HN.out)
        rw [← this]
        exact M7
      rw [← HK.out] at I7
      have HQ2 := Lib.hid (And.intro M8 I7)
      clear hHeld HQ M5 M7 g7 T7 T0 BW B5 N5 I5 hb5 ou M8 I7 hnx c0 c1 HC
      go_wp2_with fail
      go_roundw
      case rel => exact ⟨k + 1, us ++ [u], by omega, by go_num, HQ2, N7⟩
      case measure => simp [intOf]; omega
    · obtain rfl : k = len := by omega
      have HF : Hid (OwnMapD wr w1.heap.size ts.length (kvsD ts us) ∧ InnN w.heap.size wr ts us) := Lib.hid (by
        have := HQ.out
        rw [List.take_of_length_le (by rw [HT.out]; exact Nat.le_refl _)] at this
        rw [HT.out]
        exact this)
      clear HQ
      go_wp2_with fail
      go_ret2
      exact ⟨_, us, rfl, HF.out, hz1, hnx⟩
set_option maxRecDepth 100000 in
set_option maxHeartbeats 1600000 in
theorem implDataGraph (a : Option Addr) (len cap : Nat) (ts : List NamV) (s : ByteArray) (w : World) (h : IsNams w a len cap ts) (hs : SmN ts) (ht : totN ts ≤ 1048576) (hz : s.size ≤ maxLen) :
    Calls Try.prog 12 #[.slice a len cap, .string s] w fun e w' => ∃ v, e = .returned v ∧ OwnT w.heap.size w' v (dataGraph ts s) ∧ Below w.heap.size w w' := by
  cases hq : dataOk ts
  · have HC := Lib.hid (implDatasetNo a len cap ts w h hs hq)
    have HG : Hid (dataGraph ts s = []) := Lib.hid (by unfold dataGraph; rw [hq]; rfl)
    clear h hq
    go_enter Try.func12, Try.ntmps12
    go_wp2_with fail
    refine HC.out.mono ?_
    rintro e w1 ⟨rfl, hb1⟩
    go_wp2_with fail
    go_ret
    exact ⟨_, rfl, by rw [HG.out]; exact World.ownsRow_nil .., hb1⟩
  · have HC := Lib.hid (implDatasetOf a len cap ts w h hs ht hq)
    have HG : Hid (dataGraph ts s = graphAt ts s) := Lib.hid (by unfold dataGraph; rw [hq]; rfl)
    have HRI := Lib.hid (dataOk_parts hq).2
    have ZZ : Hid (∀ w : World, (zeroValue 29).run Try.prog w = .ok (.slice none 0 0) w) := Lib.hid (fun w => by kernel_rfl)
    clear h hq
    by_cases hm : s.data.toList ∈ ts.map nmT
    · obtain ⟨t, htm, hts⟩ := List.mem_map.1 hm
      have e1 : t.1 = s := by rw [← bs_of t.1, ← bs_of s]; unfold nmT at hts; rw [hts]
      have HG2 : Hid (graphAt ts s = t.2) := Lib.hid (by rw [← e1]; exact graphAt_nodup ts HRI.out.nodup t htm)
      have HTM := Lib.hid htm
      have HTS := Lib.hid hts
      clear hm e1 htm hts
      go_enter Try.func12, Try.ntmps12
      go_wp2_with fail
      refine HC.out.mono ?_
      rintro e w1 ⟨b, us, rfl, hd, hbb, hb1⟩
      obtain ⟨hM, hI⟩ := hd
      obtain ⟨i, hi⟩ := List.mem_iff_getElem?.1 HTM.out
      have hil := (List.getElem?_eq_some_iff.1 hi).1
      have hu : us[i]? = some (us[i]'(by have := hI.1; omega)) := List.getElem?_eq_getElem _
      have hmem := kvsD_mem ts us hI.1 i t _ hi hu
      have ho := hI.2.1 i _ t hu hi
      generalize us[i]'(by have := hI.1; omega) = u at hu hmem ho
      rw [HTS.out] at hmem
      have HO := Lib.hid ho
      have HMM := Lib.hid hM
      have HME := Lib.hid hmem
      clear hM hI hi hil hu hmem ho hbb
      go_wp2_with (at_lookup; refine wpList_lookD _ rfl _ _ rfl b ts.length (kvsD ts us) rfl HMM.out s hz u HME.out rfl (ZZ.out _) ?_)
      go_ret
      exact ⟨_, rfl, by rw [HG.out, HG2.out]; exact HO.out, hb1⟩
    · have HG2 : Hid (graphAt ts s = []) := Lib.hid (graphAt_none ts s hm)
      have HNM := Lib.hid hm
      clear hm
      go_enter Try.func12, Try.ntmps12
      go_wp2_with fail
      refine HC.out.mono ?_
      rintro e w1 ⟨b, us, rfl, hd, hbb, hb1⟩
      obtain ⟨hM, hI⟩ := hd
      have HMM := Lib.hid hM
      have HNN : Hid (s.data.toList ∉ (kvsD ts us).map Prod.fst) := Lib.hid (by rw [kvsD_keys ts us hI.1]; exact HNM.out)
      clear hM hI hbb
      go_wp2_with (at_lookup; refine wpList_missD _ rfl _ _ rfl b ts.length (kvsD ts us) rfl HMM.out s hz HNN.out rfl (ZZ.out _) ?_)
      go_ret
      exact ⟨_, rfl, by rw [HG.out, HG2.out]; exact World.ownsRow_nil .., hb1⟩
end Go.Proofs.Ytkcbgppplgkkbaa
