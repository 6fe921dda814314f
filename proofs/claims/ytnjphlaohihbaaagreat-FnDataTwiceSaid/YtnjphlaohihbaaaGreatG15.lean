/- A graph of a dataset by its name: the specification. -/
import Derived.Test.YtnjphlaohihbaaaGreatG13
import Derived.Test.YtnjphlaohihbaaaGreatG14
import Derived.Test.YtnjphlaohihbaaaGreatG11
import Derived.Maps.AppendAt
namespace Go.Proofs.YtnjphlaohihbaaaGreat
open Go.RowKit Go.WideShapes
/-- The graph of that name; none: empty. -/
def graphAt : List NamV → ByteArray → List Tri3
  | [], _ => []
  | r :: rs, s => if r.1 = s then r.2 else graphAt rs s
theorem graphAt_hit {rs : List NamV} {s : ByteArray} {k : Nat} {r : NamV} (h : rs[k]? = some r) (hs : r.1 = s) : graphAt (rs.drop k) s = r.2 := by
  have hk := (List.getElem?_eq_some_iff.1 h).1
  have e : rs.drop k = r :: rs.drop (k + 1) := by
    rw [List.drop_eq_getElem_cons hk, (List.getElem?_eq_some_iff.1 h).2]
  rw [e]
  unfold graphAt
  rw [if_pos hs]
theorem graphAt_miss {rs : List NamV} {s : ByteArray} {k : Nat} {r : NamV} (h : rs[k]? = some r) (hs : r.1 ≠ s) : graphAt (rs.drop k) s = graphAt (rs.drop (k + 1)) s := by
  have hk := (List.getElem?_eq_some_iff.1 h).1
  have e : rs.drop k = r :: rs.drop (k + 1) := by
    rw [List.drop_eq_getElem_cons hk, (List.getElem?_eq_some_iff.1 h).2]
  rw [e]
  conv => lhs; unfold graphAt
  rw [if_neg hs]
def dataGraph (rs : List NamV) (s : ByteArray) : List Tri3 := if dataOk rs then graphAt rs s else []
theorem graphAt_mem : ∀ (rs : List NamV) (s : ByteArray), graphAt rs s = [] ∨ ∃ r ∈ rs, graphAt rs s = r.2
  | [], _ => .inl rfl
  | r :: rs, s => by
    unfold graphAt
    split
    · exact .inr ⟨r, by simp, rfl⟩
    · rcases graphAt_mem rs s with h | ⟨q, hq, h⟩
      · exact .inl h
      · exact .inr ⟨q, by simp [hq], h⟩
theorem dataGraph_len (rs : List NamV) (s : ByteArray) (h : totN rs ≤ 1048576) : (dataGraph rs s).length ≤ 1048576 := by
  unfold dataGraph
  split
  · rcases graphAt_mem rs s with e | ⟨r, hr, e⟩
    · rw [e]; simp
    · rw [e]; have := totN_mem hr; omega
  · simp
theorem dataGraph_small (rs : List NamV) (s : ByteArray) (h : SmAllN rs) : SmAll (dataGraph rs s) := by
  unfold dataGraph
  split
  · rcases graphAt_mem rs s with e | ⟨r, hr, e⟩
    · rw [e]; intro t ht; simp at ht
    · rw [e]; exact (h r hr).2
  · intro t ht; simp at ht
theorem bytes_is {a b : ByteArray} (h : a = b) : (a.toList == b.toList) = true := by subst h; simp
theorem bytes_not {a b : ByteArray} (h : a ≠ b) : (a.toList == b.toList) = false := by
  rw [beq_eq_false_iff_ne]
  intro e
  apply h
  have t : ∀ x : ByteArray, x.toList = x.data.toList := fun x => by
    conv => lhs; rw [← bs_of x]
    exact bs_list _
  rw [t, t] at e
  rw [← bs_of a, e, bs_of]
set_option maxRecDepth 100000 in
set_option maxHeartbeats 1600000 in
theorem specAt (a : Option Addr) (len cap : Nat) (ts : List NamV) (s : ByteArray) (w : World) (h : IsNams w a len cap ts) :
    Calls Tryz.prog 70 #[.slice a len cap, .string s] w fun e w' => ∃ z : Int, e = .returned (.int .i64 z) ∧ ((z = -1 ∧ graphAt ts s = []) ∨ ∃ (k : Nat) (r : NamV), z = k ∧ ts[k]? = some r ∧ graphAt ts s = r.2) ∧ Below w.heap.size w w' := by
  have hlen := h.maxl
  have H := Lib.hid h
  have HT := Lib.hid h.len
  clear h
  go_enter Tryz.func70, Tryz.ntmps70
  go_wp2_with fail
  go_loopw [5] (fun i wr => ∃ k : Nat, k ≤ len ∧ i = .int .i64 k ∧ Hid (graphAt ts s = graphAt (ts.drop k) s) ∧ Below w.heap.size w wr) (fun i _ => len - (intOf i).toNat)
  case atStart => exact ⟨0, Nat.zero_le _, rfl, Lib.hid rfl, Below.refl _ _⟩
  case round =>
    obtain ⟨k, hk, rfl, hg, hnx⟩ := hrel
    have hk6 : (0 : Int) ≤ (k : Int) := by omega
    by_cases hlt : k < len
    · have hk7 : (k : Int) < (len : Int) := by omega
      obtain ⟨b, off, rfl, hb, hl, hm, hts, hc⟩ := (H.out.next hnx).cells (by omega)
      have ht : ts[k]? = some (ts[k]'(by omega)) := List.getElem?_eq_getElem (by omega)
      obtain ⟨ga, gn, gc, c0, c1, hz, m0⟩ := hc k _ ht
      generalize ts[k]'(by omega) = r at ht c0 c1 hz m0
      by_cases hs : r.1 = s
      · have E := bytes_is hs
        have HG : Hid (graphAt ts s = r.2) := Lib.hid (by rw [hg.out, graphAt_hit ht hs])
        have HR := Lib.hid ht
        clear hts hc hm hz m0 c1 hs ht
        go_wp2_with fail
        go_ret
        exact ⟨k, rfl, .inr ⟨k, r, rfl, HR.out, HG.out⟩, hnx⟩
      · have E := bytes_not hs
        have HG : Hid (graphAt ts s = graphAt (ts.drop (k + 1)) s) := Lib.hid (by rw [hg.out, graphAt_miss ht hs])
        clear hts hc hm hz m0 c1 hs ht
        go_wp2_with fail
        go_roundw
        case rel => exact ⟨k + 1, by omega, by go_num, HG, hnx⟩
        case measure => simp [intOf]; omega
    · obtain rfl : k = len := by omega
      have HG : Hid (graphAt ts s = []) := Lib.hid (by rw [hg.out, List.drop_of_length_le (by rw [HT.out]; exact Nat.le_refl _)]; rfl)
      go_wp2_with fail
      go_ret
      exact ⟨-1, rfl, .inl ⟨rfl, HG.out⟩, hnx⟩
set_option maxRecDepth 100000 in
set_option maxHeartbeats 1600000 in
theorem specGraphAt (a : Option Addr) (len cap : Nat) (ts : List NamV) (s : ByteArray) (w : World) (h : IsNams w a len cap ts) (ht : totN ts ≤ 1048576) :
    Calls Tryz.prog 41 #[.slice a len cap, .string s] w fun e w' => ∃ v, e = .returned v ∧ OwnT w.heap.size w' v (graphAt ts s) ∧ Below w.heap.size w w' := by
  have H := Lib.hid h
  have HL := Lib.hid h.len
  have hlen := h.maxl
  have C := Lib.hid (specAt a len cap ts s w h)
  clear h
  go_enter Tryz.func41, Tryz.ntmps41
  go_wp2_with fail
  refine C.out.mono ?_
  rintro e w1 ⟨z, rfl, hz, hb1⟩
  rcases hz with ⟨rfl, hg⟩ | ⟨k, r, rfl, hr, hg⟩
  · have HG := Lib.hid hg
    have O0 : Hid (OwnT w1.heap.size (w1.alloc (.cells #[] 26)) (.slice (some ⟨w1.heap.size, 0, none⟩) 0 0) []) := Lib.hid (World.ownsRow_lit (size := 3) (e := 26) w1 #[] 0 (Nat.le_refl _) (by decide) rfl)
    clear hg
    go_wp2_with fail
    go_ret
    exact ⟨_, rfl, by rw [HG.out]; exact own_base O0.out hb1.size, hb1.alloc hb1.size _⟩
  · have hkl : k < len := by rw [← HL.out]; exact (List.getElem?_eq_some_iff.1 hr).1
    have hk6 : (0 : Int) ≤ (k : Int) := by omega
    have hk7 : (k : Int) < (len : Int) := by omega
    have hk8 : ¬ (k : Int) < 0 := by omega
    have HG := Lib.hid hg
    have B2 := hb1.alloc hb1.size (.cells #[] 26)
    obtain ⟨b, off, rfl, hb, hl, hm, hts, hc⟩ := (H.out.next B2).cells (by omega)
    obtain ⟨ga, gn, gc, c0, c1, hz, m0⟩ := hc k _ hr
    have hgn : gn ≤ 1048576 := by have := hz.len; have := totN_mem (List.mem_of_getElem? hr); omega
    have CE := cells_new w1 #[] 26
    have HZ := Lib.hid hz
    have HC := Lib.hid CE.now
    clear hts hc hm m0 c0 hr hg hz CE
    go_wp2_with (at_builtin; refine wpList_copyN rfl _ _ rfl w1.heap.size rfl HC.out ga gn gc r.2 rfl HZ.out hgn ?_)
    intro v' w2 j hj h3 h4
    have hjw : w.heap.size ≤ j := by
      have := hb1.size
      rcases hj.out with rfl | rfl
      · exact this
      · omega
    have HO : Hid (OwnT w.heap.size w2 v' r.2) := Lib.hid (own_base h3.now.1 hjw)
    have B4 := Lib.hid (B2.trans (h4.below B2.size hb1.size))
    clear hj h3 h4
    go_wp2_with fail
    go_ret
    exact ⟨_, rfl, by rw [HG.out]; exact HO.out, B4.out⟩
set_option maxRecDepth 100000 in
set_option maxHeartbeats 1600000 in
theorem specDataGraph (a : Option Addr) (len cap : Nat) (ts : List NamV) (s : ByteArray) (w : World) (h : IsNams w a len cap ts) (hs : SmN ts) (ht : totN ts ≤ 1048576) :
    Calls Tryz.prog 23 #[.slice a len cap, .string s] w fun e w' => ∃ v, e = .returned v ∧ OwnT w.heap.size w' v (dataGraph ts s) ∧ Below w.heap.size w w' := by
  have C := specDataOk a len cap ts w h hs
  have H := Lib.hid h
  clear h
  cases hq : dataOk ts
  · rw [hq] at C
    have HC := Lib.hid C
    have HG : Hid (dataGraph ts s = []) := Lib.hid (by unfold dataGraph; rw [hq]; rfl)
    clear C hq
    go_enter Tryz.func23, Tryz.ntmps23
    go_wp2_with fail
    refine HC.out.mono ?_
    rintro e w1 ⟨rfl, hb1⟩
    have O0 : Hid (OwnT w1.heap.size (w1.alloc (.cells #[] 26)) (.slice (some ⟨w1.heap.size, 0, none⟩) 0 0) []) := Lib.hid (World.ownsRow_lit (size := 3) (e := 26) w1 #[] 0 (Nat.le_refl _) (by decide) rfl)
    go_wp2_with fail
    go_ret
    exact ⟨_, rfl, by rw [HG.out]; exact own_base O0.out hb1.size, hb1.alloc hb1.size _⟩
  · rw [hq] at C
    have HC := Lib.hid C
    have HG : Hid (dataGraph ts s = graphAt ts s) := Lib.hid (by unfold dataGraph; rw [hq]; rfl)
    clear C hq
    go_enter Tryz.func23, Tryz.ntmps23
    go_wp2_with fail
    refine HC.out.mono ?_
    rintro e w1 ⟨rfl, hb1⟩
    go_wp2_with fail
    refine (specGraphAt a len cap ts s w1 (H.out.next hb1) ht).mono ?_
    rintro e w2 ⟨v, rfl, o2, hb2⟩
    have HO : Hid (OwnT w.heap.size w2 v (graphAt ts s)) := Lib.hid (own_base o2 hb1.size)
    clear o2
    go_wp2_with fail
    go_ret
    exact ⟨_, rfl, by rw [HG.out]; exact HO.out, hb1.trans (hb2.mono hb1.size)⟩
end Go.Proofs.YtnjphlaohihbaaaGreat
/- A dataset as the program keeps it: a map from names to graphs, each copied; DataGraph. -/
namespace Go.Proofs.YtnjphlaohihbaaaGreat
open Go.RowKit Go.WideShapes Go.Maps
theorem graphAt_nodup : ∀ (ts : List NamV), (ts.map nmT).Nodup → ∀ t ∈ ts, graphAt ts t.1 = t.2
  | [], _, t, h => by simp at h
  | r :: rs, hn, t, h => by
    rw [List.map_cons, List.nodup_cons] at hn
    unfold graphAt
    rcases List.mem_cons.1 h with rfl | h
    · rw [if_pos rfl]
    · rw [if_neg (fun e => hn.1 (List.mem_map.2 ⟨t, h, by unfold nmT; rw [e]⟩))]
      exact graphAt_nodup rs hn.2 t h
theorem graphAt_none : ∀ (ts : List NamV) (s : ByteArray), s.data.toList ∉ ts.map nmT → graphAt ts s = []
  | [], _, _ => rfl
  | r :: rs, s, h => by
    rw [List.map_cons, List.mem_cons, not_or] at h
    unfold graphAt
    rw [if_neg (fun e => h.1 (by unfold nmT; rw [e]))]
    exact graphAt_none rs s h.2
theorem InnN.grow {B : Nat} {w w' : World} {ts : List NamV} {us : List Value} {row : Option Nat} (h : InnN B w ts us) (hg : w.grownBy w' row) (hne : ∀ u ∈ us, u.ownBlock = none ∨ u.ownBlock ≠ row) : InnN B w' ts us :=
  ⟨h.1, fun i u t hu ht => World.ownsRow.kept (h.2.1 i u t hu ht) hg (hne u (List.mem_of_getElem? hu)), h.2.2⟩
/-- A map's block is no row's. -/
theorem row_no_map {B b e k n : Nat} {w : World} {v : Value} {xs : List Value} (h : w.ownsRow B e k v n xs) (hb : ∃ es c, w.heap[b]? = some (.map es c)) : v.ownBlock = none ∨ v.ownBlock ≠ some b := by
  obtain ⟨es, c, hb⟩ := hb
  rcases h.2 with ⟨rfl, _⟩ | ⟨g, cap, cur, rfl, _, hh, _⟩
  · exact .inl rfl
  · refine .inr fun e => ?_
    simp only [Value.ownBlock, Option.some.injEq] at e
    subst e
    rw [hh] at hb
    cases hb
theorem InnN.noMap {B b : Nat} {w : World} {ts : List NamV} {us : List Value} (h : InnN B w ts us) (hb : ∃ es c, w.heap[b]? = some (.map es c)) : ∀ u ∈ us, u.ownBlock = none ∨ u.ownBlock ≠ some b := by
  intro u hu
  obtain ⟨i, hi⟩ := List.mem_iff_getElem?.1 hu
  have hil := (List.getElem?_eq_some_iff.1 hi).1
  exact row_no_map (h.2.1 i u _ hi (List.getElem?_eq_getElem (by have := h.1; omega : i < ts.length))) hb
def DsPost (B : Nat) (ts : List NamV) (w : World) (e : Ending) (w' : World) : Prop :=
  ∃ b us, e = .returned (.tuple #[.map (some b), .bool true]) ∧ (OwnMapD w' b ts.length (kvsD ts us) ∧ InnN B w' ts us) ∧ B ≤ b ∧ Below B w w'
set_option maxRecDepth 100000 in
set_option maxHeartbeats 3200000 in
theorem implDatasetNo (a : Option Addr) (len cap : Nat) (ts : List NamV) (w : World) (h : IsNams w a len cap ts) (hs : SmN ts) (hq : dataOk ts = false) :
    Calls Tryz.prog 35 #[.slice a len cap] w fun e w' => e = .returned (.tuple #[.map none, .bool false]) ∧ Below w.heap.size w w' := by
  have C := implDataOk a len cap ts w h hs
  rw [hq] at C
  have HC := Lib.hid C
  clear C h
  go_enter Tryz.func35, Tryz.ntmps35
  go_wp2_with fail
  refine HC.out.mono ?_
  rintro e w1 ⟨rfl, hb1⟩
  go_wp2_with fail
  go_ret2
  exact ⟨rfl, hb1⟩
set_option maxRecDepth 100000 in
set_option maxHeartbeats 3200000 in
theorem implDatasetOf (a : Option Addr) (len cap : Nat) (ts : List NamV) (w : World) (h : IsNams w a len cap ts) (hs : SmN ts) (hl : totN ts ≤ 1048576) (hq : dataOk ts = true) :
    Calls Tryz.prog 35 #[.slice a len cap] w (DsPost w.heap.size ts w) := by
  have C := implDataOk a len cap ts w h hs
  rw [hq] at C
  obtain ⟨h6, hri⟩ := dataOk_parts hq
  have HRI := Lib.hid hri
  have HC0 := Lib.hid C
  have HT := Lib.hid h.len
  have H := Lib.hid h
  have HSM := Lib.hid hs
  have hmm := @run_makeMap Tryz.prog
  have h6' : len ≤ 6 := by rw [← h.len]; exact h6
  clear C h hri hs hq h6
  go_enter Tryz.func35, Tryz.ntmps35
  go_wp2_with fail
  refine HC0.out.mono ?_
  rintro e w1 ⟨rfl, hb1⟩
  have hz1 := hb1.size
  have M0 := Lib.hid (OwnMapD.made w1)
  have B0 : Below w.heap.size w (w1.alloc (.map #[] 0)) := hb1.trans (((Below.refl w1.heap.size w1).alloc (Nat.le_refl _) (.map #[] 0)).mono hb1.size)
  go_wp2_with fail
  go_loopw [13] (fun i wr => ∃ (k : Nat) (us : List Value), k ≤ len ∧ i = .int .i64 k ∧ Hid (OwnMapD wr w1.heap.size k (kvsD (ts.take k) us) ∧ InnN w.heap.size wr (ts.take k) us) ∧ Below w.heap.size w wr) (fun i _ => len - (intOf i).toNat)
  case atStart => exact ⟨0, [], Nat.zero_le _, rfl, Lib.hid ⟨M0.out, InnN.nil _ _⟩, B0⟩
  case round =>
    obtain ⟨k, us, hk, rfl, HQ, hnx⟩ := hrel
    clear M0 B0
    have hk6 : (0 : Int) ≤ (k : Int) := by omega
    by_cases hlt : k < len
    · have hk7 : (k : Int) < (len : Int) := by omega
      obtain ⟨b, off, rfl, hb, hll, hm, hts, hc⟩ := (H.out.next hnx).cells (by omega)
      have ht : ts[k]? = some (ts[k]'(by omega)) := List.getElem?_eq_getElem (by omega)
      have HK : Hid (ts.take (k + 1) = ts.take k ++ [ts[k]'(by omega)]) := Lib.hid (List.take_succ_eq_append_getElem (by omega))
      obtain ⟨ga, gn, gc, c0, c1, hz, m0⟩ := hc k _ ht
      have htot := totN_mem (List.mem_of_getElem? ht)
      have HN := Lib.hid (rising_new HRI.out ht)
      have HSZ := HSM.out _ (List.mem_of_getElem? ht)
      generalize ts[k]'(by omega) = t at ht HK c0 c1 hz m0 htot HN HSZ
      obtain ⟨s, g⟩ := t
      simp only at c0 c1 hz m0 htot
      have hgn : gn ≤ 1048576 := by have := hz.len; omega
      have T0 := NamK.Box2.new wr (.string s) (.slice ga gn gc) 35
      have BW := (Below.refl wr.heap.size wr).alloc (Nat.le_refl _) (.cells #[.string s, .slice ga gn gc] 35)
      have HC : Hid (∀ W, Below wr.heap.size wr W → Calls Tryz.prog 61 #[.slice ga gn gc] W fun e w' => ∃ v, e = .returned v ∧ OwnT W.heap.size w' v g ∧ Below W.heap.size W w') := Lib.hid (fun W hW => implCloneN ga gn gc g W (hz.next hW) hgn)
      have hs2 : s.size ≤ maxLen := m0
      have hkm : k < maxLen := by unfold maxLen; omega
      clear ht hts hc hm hz m0 htot HSZ
      go_wp2_with fail
      refine wp_region_held_drew (S := (fun w' => w'.cell? ⟨wr.heap.size, 0, none⟩ = some (.string s) ∧ w'.cell? ⟨wr.heap.size, 1, none⟩ = some (.slice ga gn gc))) (by kernel_rfl) ?_ (fun hHeld => ?_)
      · exact T0.drew.cells
      refine wpAnyH_take (i := 0) (v := ?_) rfl (by kernel_rfl) (by kernel_rfl) (by kernel_rfl) (fun _ _ _ h => h) (Or.inl ⟨by kernel_rfl, ?_⟩) (by assumption) ?_
      rotate_left
      · intro w hSw; (try dsimp only at hSw); go_simp; try with_reducible rfl
      refine wpAnyH_take (i := 1) (v := ?_) rfl (by kernel_rfl) (by kernel_rfl) (by kernel_rfl) (fun _ _ _ h => h) (Or.inl ⟨by kernel_rfl, ?_⟩) (by assumption) ?_
      rotate_left
      · intro w hSw; (try dsimp only at hSw); go_simp; try with_reducible rfl
      refine wpAnyH_take (i := 2) (v := ?_) rfl (by kernel_rfl) (by kernel_rfl) (by kernel_rfl) (fun _ _ _ h => h) (Or.inl ⟨by kernel_rfl, ?_⟩) (by assumption) ?_
      rotate_left
      · intro w hSw; (try dsimp only at hSw); go_simp; try with_reducible rfl
      refine wpAnyH_take (i := 3) (v := ?_) rfl (by kernel_rfl) (by kernel_rfl) (by kernel_rfl) (fun _ _ _ h => h) (Or.inl ⟨by kernel_rfl, ?_⟩) (by assumption) ?_
      rotate_left
      · intro w hSw; (try dsimp only at hSw); go_simp; try with_reducible rfl
      refine wpAnyH_take (i := 4) (v := ?_) rfl (by kernel_rfl) (by kernel_rfl) (by kernel_rfl) (fun _ _ _ h => h) (Or.inl ⟨by kernel_rfl, ?_⟩) (by assumption) ?_
      rotate_left
      · intro w hSw; (try dsimp only at hSw); go_simp; try with_reducible rfl
      refine wpAnyH_ready (rs := [5]) (by kernel_rfl) (by simp) ?_
      refine AllReadyH.cons rfl (fun K hK => ?_) AllReadyH.nil
      go_simp
      refine (HC.out _ (by exact BW.drew)).mono ?_
      rintro e w5 ⟨u, rfl, ou, hb5⟩
      go_wp2_with fail
      clear hHeld
      refine hK.out _ _ ?_ (fun hHeld => ?_)
      · exact (T0.drew.next hb5).cells
      clear hK K
      refine wpAnyH_ready (rs := [6]) (by kernel_rfl) (by simp) ?_
      refine AllReadyH.cons rfl (fun K hK => ?_) AllReadyH.nil
      rw [if_pos (by rfl)]
      have B5 := (BW.drew).trans (hb5.mono BW.size)
      have M5 := HQ.out.1.next B5
      refine upon_putD _ _ _ _ (by rfl) w1.heap.size k (kvsD (ts.take k) us) (by rfl) M5 hkm s hs2 (by rfl) u (by rfl) ?_
      intro w7 M7 g7
      have T7 : NamK.Box2 w7 wr.heap.size (.string s) (.slice ga gn gc) 35 := by
        have T5 := T0.drew.next hb5
        refine (g7.block _ T5.lt (fun e => ?_)).trans T5
        obtain ⟨es, c, hmm⟩ := M5.isMap
        simp only [Option.some.injEq] at e
        rw [← e, T5] at hmm
        cases hmm
      clear hHeld
      refine hK.out _ _ ?_ (fun hHeld => ?_)
      · exact T7.cells
      clear hK K
      refine wpAnyH_done (by kernel_rfl) ?_ _
      try simp only [Act.put, List.getElem_toArray, List.getElem_cons_zero, List.getElem_cons_succ]
      have N5 := hnx.trans (B5.mono hnx.size)
      have I5 : InnN w.heap.size w5 (ts.take k ++ [(s, g)]) (us ++ [u]) := by
        have I4 := HQ.out.2.next (((Below.refl wr.heap.size wr).alloc (Nat.le_refl _) (.cells #[.string s, .slice ga gn gc] 35)).drew)
        have hl4 := HQ.out.2.lt
        exact InnN.snoc (I4.next hb5) (fun v hv j hj => by have := (hl4 v hv j hj).2; exact Nat.lt_of_lt_of_le this (Nat.le_of_lt T0.lt)) (Nat.le_trans hnx.size (Nat.le_of_lt T0.lt)) ou
      have I7 := I5.grow g7 (I5.noMap M5.isMap)
      have N7 := N5.grown g7 N5.size (fun j hj => by cases hj; exact hz1)
      have hlen : us.length = (ts.take k).length := HQ.out.2.1
      have M8 : OwnMapD w7 w1.heap.size (k + 1) (kvsD (ts.take (k + 1)) (us ++ [u])) := by
        rw [HK.out, kvsD_snoc _ _ _ _ hlen]
        have := addD_new (v := u) (show nmT (s, g) ∉ (kvsD (ts.take k) us).map Prod.fst by rw [kvsD_keys _ _ hlen]; exact HN.out)
        rw [← this]
        exact M7
      rw [← HK.out] at I7
      have HQ2 := Lib.hid (And.intro M8 I7)
      clear hHeld HQ M5 M7 g7 T7 T0 BW B5 N5 I5 hb5 ou M8 I7 hnx c0 c1 HC
      go_wp2_with fail
      go_roundw
      case rel => exact ⟨k + 1, us ++ [u], by omega, by go_num, HQ2, N7⟩
      case measure => simp [intOf]; omega
    · obtain rfl : k = len := by omega
      have HF : Hid (OwnMapD wr w1.heap.size ts.length (kvsD ts us) ∧ InnN w.heap.size wr ts us) := Lib.hid (by
        have := HQ.out
        rw [List.take_of_length_le (by rw [HT.out]; exact Nat.le_refl _)] at this
        rw [HT.out]
        exact this)
      clear HQ
      go_wp2_with fail
      go_ret2
      exact ⟨_, us, rfl, HF.out, hz1, hnx⟩
set_option maxRecDepth 100000 in
set_option maxHeartbeats 1600000 in
theorem implDataGraph (a : Option Addr) (len cap : Nat) (ts : List NamV) (s : ByteArray) (w : World) (h : IsNams w a len cap ts) (hs : SmN ts) (ht : totN ts ≤ 1048576) (hz : s.size ≤ maxLen) :
    Calls Tryz.prog 15 #[.slice a len cap, .string s] w fun e w' => ∃ v, e = .returned v ∧ OwnT w.heap.size w' v (dataGraph ts s) ∧ Below w.heap.size w w' := by
  cases hq : dataOk ts
  · have HC := Lib.hid (implDatasetNo a len cap ts w h hs hq)
    have HG : Hid (dataGraph ts s = []) := Lib.hid (by unfold dataGraph; rw [hq]; rfl)
    clear h hq
    go_enter Tryz.func15, Tryz.ntmps15
    go_wp2_with fail
    refine HC.out.mono ?_
    rintro e w1 ⟨rfl, hb1⟩
    go_wp2_with fail
    go_ret
    exact ⟨_, rfl, by rw [HG.out]; exact World.ownsRow_nil .., hb1⟩
  · have HC := Lib.hid (implDatasetOf a len cap ts w h hs ht hq)
    have HG : Hid (dataGraph ts s = graphAt ts s) := Lib.hid (by unfold dataGraph; rw [hq]; rfl)
    have HRI := Lib.hid (dataOk_parts hq).2
    have ZZ : Hid (∀ w : World, (zeroValue 33).run Tryz.prog w = .ok (.slice none 0 0) w) := Lib.hid (fun w => by kernel_rfl)
    clear h hq
    by_cases hm : s.data.toList ∈ ts.map nmT
    · obtain ⟨t, htm, hts⟩ := List.mem_map.1 hm
      have e1 : t.1 = s := by rw [← bs_of t.1, ← bs_of s]; unfold nmT at hts; rw [hts]
      have HG2 : Hid (graphAt ts s = t.2) := Lib.hid (by rw [← e1]; exact graphAt_nodup ts HRI.out.nodup t htm)
      have HTM := Lib.hid htm
      have HTS := Lib.hid hts
      clear hm e1 htm hts
      go_enter Tryz.func15, Tryz.ntmps15
      go_wp2_with fail
      refine HC.out.mono ?_
      rintro e w1 ⟨b, us, rfl, hd, hbb, hb1⟩
      obtain ⟨hM, hI⟩ := hd
      obtain ⟨i, hi⟩ := List.mem_iff_getElem?.1 HTM.out
      have hil := (List.getElem?_eq_some_iff.1 hi).1
      have hu : us[i]? = some (us[i]'(by have := hI.1; omega)) := List.getElem?_eq_getElem _
      have hmem := kvsD_mem ts us hI.1 i t _ hi hu
      have ho := hI.2.1 i _ t hu hi
      generalize us[i]'(by have := hI.1; omega) = u at hu hmem ho
      rw [HTS.out] at hmem
      have HO := Lib.hid ho
      have HMM := Lib.hid hM
      have HME := Lib.hid hmem
      clear hM hI hi hil hu hmem ho hbb
      go_wp2_with (at_lookup; refine wpList_lookD _ rfl _ _ rfl b ts.length (kvsD ts us) rfl HMM.out s hz u HME.out rfl (ZZ.out _) ?_)
      go_ret
      exact ⟨_, rfl, by rw [HG.out, HG2.out]; exact HO.out, hb1⟩
    · have HG2 : Hid (graphAt ts s = []) := Lib.hid (graphAt_none ts s hm)
      have HNM := Lib.hid hm
      clear hm
      go_enter Tryz.func15, Tryz.ntmps15
      go_wp2_with fail
      refine HC.out.mono ?_
      rintro e w1 ⟨b, us, rfl, hd, hbb, hb1⟩
      obtain ⟨hM, hI⟩ := hd
      have HMM := Lib.hid hM
      have HNN : Hid (s.data.toList ∉ (kvsD ts us).map Prod.fst) := Lib.hid (by rw [kvsD_keys ts us hI.1]; exact HNM.out)
      clear hM hI hbb
      go_wp2_with (at_lookup; refine wpList_missD _ rfl _ _ rfl b ts.length (kvsD ts us) rfl HMM.out s hz HNN.out rfl (ZZ.out _) ?_)
      go_ret
      exact ⟨_, rfl, by rw [HG.out, HG2.out]; exact World.ownsRow_nil .., hb1⟩
end Go.Proofs.YtnjphlaohihbaaaGreat
/- A slice of named graphs that grows by one: what the call owns then; a graph put in among the others. -/
namespace Go.Proofs.YtnjphlaohihbaaaGreat
open Go.RowKit Go.WideShapes
/-- Another graph at its place; none of that name where it is empty. -/
def putGo (x : NamV) : Bool → List NamV → List NamV
  | done, [] => if done then [] else [x]
  | done, r :: rs => (if !done && lessN x r then [x] else []) ++ ((if r.1 = x.1 then [] else [r]) ++ putGo x (done || lessN x r) rs)
def putNam (ts : List NamV) (x : NamV) : List NamV := putGo x (decide (x.2.length = 0)) ts
theorem putGo_cons {x : NamV} {done : Bool} {ts : List NamV} {k : Nat} {r : NamV} (h : ts[k]? = some r) : putGo x done (ts.drop k) = (if !done && lessN x r then [x] else []) ++ ((if r.1 = x.1 then [] else [r]) ++ putGo x (done || lessN x r) (ts.drop (k + 1))) := by
  have hk := (List.getElem?_eq_some_iff.1 h).1
  have e : ts.drop k = r :: ts.drop (k + 1) := by rw [List.drop_eq_getElem_cons hk, (List.getElem?_eq_some_iff.1 h).2]
  rw [e]; rfl
theorem putGo_len (x : NamV) : ∀ (ts : List NamV) (d : Bool), (putGo x d ts).length ≤ ts.length + (if d then 0 else 1)
  | [], d => by cases d <;> simp [putGo]
  | r :: rs, d => by
    have h := putGo_len x rs (d || lessN x r)
    unfold putGo
    rw [List.length_append, List.length_append, List.length_cons]
    cases d <;> cases hl : lessN x r <;> by_cases e : r.1 = x.1 <;> simp [hl, e] at h ⊢ <;> omega
/-- The call owns the slice v, each of its graphs is one of us, in a block of its own. -/
def OutN (B : Nat) (w : World) (v : Value) (L : List NamV) (us : List Value) : Prop :=
  w.ownsRow B 35 2 v L.length (flatN L us) ∧ InnN B w L us ∧ ∀ u ∈ us, ∀ j, u.ownBlock = some j → v.ownBlock ≠ some j
theorem OutN.own {B : Nat} {w : World} {v : Value} {L : List NamV} {us : List Value} (h : OutN B w v L us) : OwnNs B w v L := ⟨us, h.1, h.2.1, h.2.2⟩
theorem OutN.next {B : Nat} {w w' : World} {v : Value} {L : List NamV} {us : List Value} (h : OutN B w v L us) (hb : Below w.heap.size w w') : OutN B w' v L us :=
  ⟨World.ownsRow.kept h.1 (grown_of_below hb) (by
    rcases hv : v.ownBlock with _ | i
    · exact .inl rfl
    · exact .inr (by simp)), h.2.1.next hb, h.2.2⟩
theorem OutN.grown {B : Nat} {w w' : World} {v : Value} {L : List NamV} {us : List Value} {row : Option Nat} (h : OutN B w v L us) (hg : w.grownBy w' row) (hv : v.ownBlock = none ∨ v.ownBlock ≠ row) (hu : ∀ u ∈ us, u.ownBlock = none ∨ u.ownBlock ≠ row) : OutN B w' v L us :=
  ⟨World.ownsRow.kept h.1 hg hv, ⟨h.2.1.1, fun i u t a b => World.ownsRow.kept (h.2.1.2.1 i u t a b) hg (hu u (List.mem_of_getElem? a)), h.2.1.2.2⟩, h.2.2⟩
theorem OutN.lt {B : Nat} {w : World} {v : Value} {L : List NamV} {us : List Value} (h : OutN B w v L us) : ∀ u ∈ us, ∀ j, u.ownBlock = some j → B ≤ j ∧ j < w.heap.size := h.2.1.lt
theorem InnN.add {B : Nat} {w : World} {ts : List NamV} {us : List Value} {t : NamV} {u : Value} (h : InnN B w ts us) (hd : ∀ v ∈ us, ∀ j, v.ownBlock = some j → u.ownBlock ≠ some j) (ho : OwnT B w u t.2) : InnN B w (ts ++ [t]) (us ++ [u]) := by
  obtain ⟨h1, h2, h3⟩ := h
  refine ⟨by simp [h1], fun i v s hv hs => ?_, List.pairwise_append.2 ⟨h3, List.pairwise_singleton _ _, fun v hv v' hv' j hj e => ?_⟩⟩
  · rcases Nat.lt_or_ge i us.length with g | g
    · rw [List.getElem?_append_left g] at hv
      rw [List.getElem?_append_left (by omega)] at hs
      exact h2 i v s hv hs
    · have hi : i = us.length := by
        have := (List.getElem?_eq_some_iff.1 hv).1
        simp at this; omega
      subst hi
      rw [List.getElem?_append_right (Nat.le_refl _)] at hv
      rw [h1, List.getElem?_append_right (Nat.le_refl _)] at hs
      simp at hv hs
      subst hv hs
      exact ho
  · obtain rfl : v' = u := by simpa using hv'
    exact hd v hv j hj e
/-- One more graph, appended. -/
theorem OutN.more {B : Nat} {w w' : World} {v v' u : Value} {L : List NamV} {us : List Value} {t : NamV} (h : OutN B w v L us) (ho : OwnT B w u t.2) (hd : ∀ x ∈ us, ∀ j, x.ownBlock = some j → u.ownBlock ≠ some j) (hv : ∀ j, u.ownBlock = some j → v.ownBlock ≠ some j)
    (hr : w'.ownsRow B 35 2 v' (L.length + 1) (flatN L us ++ [.string t.1, u])) (hg : w.grownBy w' v.ownBlock) (hat : v'.ownBlock = v.ownBlock ∨ v'.ownBlock = some w.heap.size) : OutN B w' v' (L ++ [t]) (us ++ [u]) := by
  have hI : InnN B w (L ++ [t]) (us ++ [u]) := h.2.1.add hd ho
  have hne : ∀ x ∈ us ++ [u], x.ownBlock = none ∨ x.ownBlock ≠ v.ownBlock := by
    intro x hx
    rcases hxb : x.ownBlock with _ | j
    · exact .inl rfl
    · refine .inr (fun e => ?_)
      rcases List.mem_append.1 hx with hx | hx
      · exact h.2.2 x hx j hxb e.symm
      · obtain rfl := List.mem_singleton.1 hx
        exact hv j hxb e.symm
  refine ⟨?_, ⟨hI.1, fun i x s a b => World.ownsRow.kept (hI.2.1 i x s a b) hg (hne x (List.mem_of_getElem? a)), hI.2.2⟩, fun x hx j hj e => ?_⟩
  · rw [List.length_append, List.length_singleton, flatN_snoc _ _ _ _ h.2.1.1]
    exact hr
  · have hlt := (hI.lt x hx j hj).2
    rcases hat with q | q
    · rw [q] at e
      rcases hne x hx with z | z
      · rw [z] at hj; cases hj
      · exact z (by rw [hj, e])
    · rw [q] at e
      cases e
      exact Nat.lt_irrefl _ hlt
theorem own_oneCell {B : Nat} {w : World} {u : Value} {ts : List Tri3} (h : OwnT B w u ts) : u.oneCell' = true := by
  obtain ⟨a, n, c, rfl⟩ := NamK.own_slice h
  rfl
/-- 'append(out, x)' at a step of a region that draws its order: x lies alone in a literal's block. -/
theorem upon_moreN {o : Oper} {a : Act} {w : World} {Q : Exit → Act → World → Prop} {K : Act → World → Prop} (s x : Operand)
    (ho : o.op = .call { callee := .builtin .append, args := #[s, x], argTypes := #[24, 24] }) {B : Nat} {v u : Value} {L : List NamV} {us : List Value} {t : NamV} (hs : a.eval s = v) (h : OutN B w v L us) (hB : B ≤ w.heap.size)
    (q : Nat) (hx : a.eval x = .slice (some ⟨q, 0, none⟩) 1 1) (hq : w.cell? ⟨q, 0, none⟩ = some (.string t.1) ∧ w.cell? ⟨q, 1, none⟩ = some u) (hu : OwnT B w u t.2) (hd : ∀ x ∈ us, ∀ j, x.ownBlock = some j → u.ownBlock ≠ some j) (hv : ∀ j, u.ownBlock = some j → v.ownBlock ≠ some j) (hl : L.length ≤ 1048576)
    (k : ∀ (v' : Value) (w' : World), OutN B w' v' (L ++ [t]) (us ++ [u]) → w.grownBy w' v.ownBlock → (v'.ownBlock = v.ownBlock ∨ v'.ownBlock = some w.heap.size) → K (a.put o.dst v') w') : Oper.wp Tryz.prog o a w K Q := by
  obtain ⟨i0, hi, hz0, hz1, hz2⟩ := info_parts infoNam
  have hu1 := own_oneCell hu
  obtain ⟨v', w', hr, ho1, hg1, _, hat⟩ := run_append_own_at (P := Tryz.prog) (w := w) B 24 o.type 35 i0 (.agg #[.string ⟨#[]⟩, .slice none 0 0]) 2 40 Tryz.underlying24 hi hz0 hz1 hz2 rfl (by decide) v L.length _ h.1 ⟨q, 0, none⟩ 1 1 [.string t.1, u] rfl (fun j y hy => by
      rcases j with _ | _ | j
      · simp at hy; subst hy; simpa [Addr.add] using hq.1
      · simp at hy; subst hy; simpa [Addr.add] using hq.2
      · simp at hy) (fun y hy => by
      simp at hy
      rcases hy with rfl | rfl
      · rfl
      · exact hu1) (by unfold maxLen; omega) (by omega) hB
  unfold Oper.wp
  simp [execOp, ho, resolve, invoke, builtin, hs, hx, hr, Result.andThen]
  exact k v' w' (h.more hu hd hv ho1 hg1 hat) hg1 hat
theorem wpList_moreN {ops : Array Oper} {rest : List Oper} {o : Oper} {a : Act} {w : World} {Q : Exit → Act → World → Prop} (hgd : o.guard = none) (s x : Operand)
    (ho : o.op = .call { callee := .builtin .append, args := #[s, x], argTypes := #[24, 24] }) {B : Nat} {v u : Value} {L : List NamV} {us : List Value} {t : NamV} (hs : a.eval s = v) (h : OutN B w v L us) (hB : B ≤ w.heap.size)
    (q : Nat) (hx : a.eval x = .slice (some ⟨q, 0, none⟩) 1 1) (hq : w.cell? ⟨q, 0, none⟩ = some (.string t.1) ∧ w.cell? ⟨q, 1, none⟩ = some u) (hu : OwnT B w u t.2) (hd : ∀ x ∈ us, ∀ j, x.ownBlock = some j → u.ownBlock ≠ some j) (hv : ∀ j, u.ownBlock = some j → v.ownBlock ≠ some j) (hl : L.length ≤ 1048576)
    (k : ∀ (v' : Value) (w' : World), OutN B w' v' (L ++ [t]) (us ++ [u]) → w.grownBy w' v.ownBlock → (v'.ownBlock = v.ownBlock ∨ v'.ownBlock = some w.heap.size) → wpList Tryz.prog ops Q rest (a.put o.dst v') w') : wpList Tryz.prog ops Q (o :: rest) a w :=
  wpList_plain hgd fun _ hK => upon_moreN s x ho hs h hB q hx hq hu hd hv hl fun v' w' h1 h2 h3 => hK _ _ (k v' w' h1 h2 h3)
end Go.Proofs.YtnjphlaohihbaaaGreat
