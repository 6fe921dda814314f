/- A dataset's graphs merged: the specification. -/
import Derived.Test.YtkcbgppplgkkbaaDmgI
import Derived.Test.YtkcbgppplgkkbaaDokS
import Derived.Deep.AppendLies
import Derived.Laws.AppendOwnNone
namespace Go.Proofs.Ytkcbgppplgkkbaa
open Go.RowKit Go.WideShapes
theorem plainOwn {B : Nat} {w : World} {v : Value} {ts : List Tri3} (h : OwnT B w v ts) (hm : ∀ t ∈ ts, t.1.size ≤ maxLen ∧ t.2.1.size ≤ maxLen ∧ t.2.2.size ≤ maxLen) : ∃ a cap, v = .slice a ts.length cap ∧ IsTris w a ts.length cap ts ∧ Plain a := by
  obtain ⟨a, cap, hv, hi⟩ := h.is hm
  refine ⟨a, cap, hv, hi, ?_⟩
  rcases h.2 with ⟨e, _⟩ | ⟨g, c, cur, e, _⟩
  · rw [hv] at e
    simp only [Value.slice.injEq] at e
    exact .inl e.1
  · rw [hv] at e
    simp only [Value.slice.injEq] at e
    exact .inr ⟨g, 0, e.1⟩
set_option maxRecDepth 100000 in
set_option maxHeartbeats 1600000 in
theorem specUnionW (a b : Option Addr) (la ca lb cb : Nat) (ts us : List Tri3) (w : World) (h : IsTris w a la ca ts) (hp : Plain a) (k : IsTris w b lb cb us) (hla : la ≤ 1000) (hlb : lb ≤ 80) :
    Calls Try.prog 30 #[.slice a la ca, .slice b lb cb] w fun e w' => ∃ v, e = .returned v ∧ OwnT w.heap.size w' v (unionT ts us) ∧ Below w.heap.size w w' := by
  obtain ⟨i0, hi, hz0, hz1, hz2⟩ := info_parts infoTri
  have HS : Hid (∀ us' : List Tri3, (∀ u ∈ us', u ∈ us) → ∀ t ∈ unionT ts us', t.1.size ≤ maxLen ∧ t.2.1.size ≤ maxLen ∧ t.2.2.size ≤ maxLen) := Lib.hid (fun us' hu t ht => by
    rcases unionT_mem.1 ht with g | g
    · exact h.small t g
    · exact k.small t (hu t g))
  have HL := Lib.hid h.len
  have KL := Lib.hid k.len
  have K := Lib.hid k
  have O0 : OwnT w.heap.size (w.alloc (.cells #[] 53)) (.slice (some ⟨w.heap.size, 0, none⟩) 0 0) [] := World.ownsRow_lit (size := 3) (e := 53) w #[] 0 (Nat.le_refl _) (by decide) rfl
  have BA := (Below.refl w.heap.size w).alloc (Nat.le_refl _) (.cells #[] 53)
  have hA := h.next BA
  have HO := Lib.hid O0
  clear k O0 h
  have main : ∀ (v : Value) (w1 : World), OwnT w.heap.size w1 v ts → Below w.heap.size w w1 → True := fun _ _ _ _ => trivial
  clear main
  rcases hp with rfl | ⟨bb, off, rfl⟩
  · rcases hA with ⟨_, rfl, rfl, rfl⟩ | ⟨x, hx, _⟩
    rotate_left
    · cases hx
    go_enter Try.func30, Try.ntmps30
    go_wp2_with (at_builtin; refine wpList_append_own_none rfl _ _ 29 rfl w.heap.size 53 i0 3 Try.underlying29 hi _ _ _ rfl HO.out rfl ?_)
    go_wp2_with fail
    have O1 := HO.out
    have B1 := BA
    go_loopw [5, 6] (fun v' i wr => ∃ (j : Nat) (v : Value), j ≤ lb ∧ i = .int .i64 j ∧ v = v' ∧ Hid (OwnT w.heap.size wr v (unionT ([] : List Tri3) (us.take j))) ∧ Below w.heap.size w wr) (fun _ i _ => lb - (intOf i).toNat)
    case atStart => exact ⟨0, _, Nat.zero_le _, rfl, rfl, Lib.hid (by simpa [unionT] using O1), B1⟩
    case round =>
      obtain ⟨j, v, hj, rfl, rfl, hown, hnx⟩ := hrel
      clear O1 B1 BA
      have hj6 : (0 : Int) ≤ (j : Int) := by omega
      by_cases hlt : j < lb
      · have hj7 : (j : Int) < (lb : Int) := by omega
        obtain ⟨b', off', rfl, hb, hl', hm, hts, hcs⟩ := K.out.cells (by omega)
        have ht : us[j]? = some (us[j]'(by omega)) := List.getElem?_eq_getElem (by omega)
        have HT : Hid (us.take (j + 1) = us.take j ++ [us[j]'(by omega)]) := Lib.hid (List.take_succ_eq_append_getElem (by omega))
        obtain ⟨d0, d1, d2, m0, m1, m2⟩ := hcs j _ ht
        rw [← hnx.cell (p := ⟨b', _, none⟩) hb] at d0 d1 d2
        generalize us[j]'(by omega) = u at ht d0 d1 d2 m0 m1 m2 HT
        obtain ⟨u0, u1, u2⟩ := u
        simp only at d0 d1 d2
        have HN : Hid (unionT ([] : List Tri3) (us.take (j + 1)) = putT (unionT ([] : List Tri3) (us.take j)) (u0, u1, u2)) := Lib.hid (by rw [HT.out, unionT_snoc])
        obtain ⟨xv, yv, rfl, iv, pv⟩ := plainOwn hown.out (HS.out _ (fun u hu => List.mem_of_mem_take hu))
        have hul := unionT_len (us.take j) ([] : List Tri3)
        rw [List.length_take, List.length_nil] at hul
        have C := specPutAny xv _ yv _ u0 u1 u2 wr iv pv (by omega)
        obtain ⟨uj, huj⟩ : ∃ l, unionT ([] : List Tri3) (us.take j) = l := ⟨_, rfl⟩
        rw [huj] at C HN ⊢
        have HC := Lib.hid C
        clear C iv pv hown hul huj ht HT hts hcs hm m0 m1 m2 hl'
        go_wp2_with fail
        refine HC.out.mono ?_
        rintro e w2 ⟨v2, rfl, ho2, hb2⟩
        have O2 := Lib.hid (own_base ho2 hnx.size)
        rw [← HN.out] at O2
        have B2 := hnx.trans (hb2.mono hnx.size)
        clear ho2 hb2 HC HN d0 d1 d2
        go_wp2_with fail
        go_roundw
        case rel => exact ⟨j + 1, _, by omega, by go_num, rfl, O2, B2⟩
        case measure => simp [intOf]; omega
      · obtain rfl : j = lb := by omega
        have HO2 : Hid (OwnT w.heap.size wr v (unionT ([] : List Tri3) us)) := Lib.hid (by
          have := hown.out
          rwa [List.take_of_length_le (by rw [KL.out]; exact Nat.le_refl _)] at this)
        clear hown
        go_wp2_with fail
        go_ret
        exact ⟨v, rfl, HO2.out, hnx⟩
  · have F1 := hA.front la
    rw [List.take_of_length_le (by rw [HL.out]; exact Nat.le_refl _)] at F1
    have HF1 := Lib.hid F1
    clear F1 hA
    go_enter Try.func30, Try.ntmps30
    go_wp2_with (at_builtin; refine wpList_append_own _ rfl _ _ 29 rfl w.heap.size 53 i0 (.agg #[.string ⟨#[]⟩, .string ⟨#[]⟩, .string ⟨#[]⟩]) 3 48 Try.underlying29 hi hz0 hz1 hz2 rfl (by decide) _ _ _ rfl HO.out ⟨bb, off, none⟩ la _ (flat ts) rfl (by rw [flat_len, HL.out]) HF1.out (by first | exact flat_one _ | (intro x hx; simp at hx; rcases hx with rfl | rfl | rfl <;> rfl)) ?h63a ?h48a ?hbsa ?_)
    case h63a => rw [List.length_nil]; unfold maxLen; omega
    case h48a => rw [List.length_nil]; omega
    case hbsa => simp only [World.size_alloc]; omega
    intro v1 w1 hown1 hg1 _
    have O1 : OwnT w.heap.size w1 v1 ts := by unfold OwnT; rw [HL.out]; simpa [show flat ([] : List Tri3) = [] from rfl] using hown1
    have B1 : Below w.heap.size w w1 := BA.grown hg1 BA.size (fun j hj => by simp [Value.ownBlock] at hj; omega)
    clear hown1 hg1 HO HF1
    go_wp2_with fail
    go_loopw [5, 6] (fun v' i wr => ∃ (j : Nat) (v : Value), j ≤ lb ∧ i = .int .i64 j ∧ v = v' ∧ Hid (OwnT w.heap.size wr v (unionT ts (us.take j))) ∧ Below w.heap.size w wr) (fun _ i _ => lb - (intOf i).toNat)
    case atStart => exact ⟨0, _, Nat.zero_le _, rfl, rfl, Lib.hid (by simpa [unionT] using O1), B1⟩
    case round =>
      obtain ⟨j, v, hj, rfl, rfl, hown, hnx⟩ := hrel
      clear O1 B1 BA
      have hj6 : (0 : Int) ≤ (j : Int) := by omega
      by_cases hlt : j < lb
      · have hj7 : (j : Int) < (lb : Int) := by omega
        obtain ⟨b', off', rfl, hb, hl', hm, hts, hcs⟩ := K.out.cells (by omega)
        have ht : us[j]? = some (us[j]'(by omega)) := List.getElem?_eq_getElem (by omega)
        have HT : Hid (us.take (j + 1) = us.take j ++ [us[j]'(by omega)]) := Lib.hid (List.take_succ_eq_append_getElem (by omega))
        obtain ⟨d0, d1, d2, m0, m1, m2⟩ := hcs j _ ht
        rw [← hnx.cell (p := ⟨b', _, none⟩) hb] at d0 d1 d2
        generalize us[j]'(by omega) = u at ht d0 d1 d2 m0 m1 m2 HT
        obtain ⟨u0, u1, u2⟩ := u
        simp only at d0 d1 d2
        have HN : Hid (unionT ts (us.take (j + 1)) = putT (unionT ts (us.take j)) (u0, u1, u2)) := Lib.hid (by rw [HT.out, unionT_snoc])
        obtain ⟨xv, yv, rfl, iv, pv⟩ := plainOwn hown.out (HS.out _ (fun u hu => List.mem_of_mem_take hu))
        have hul := unionT_len (us.take j) ts
        rw [HL.out, List.length_take] at hul
        have C := specPutAny xv _ yv _ u0 u1 u2 wr iv pv (by omega)
        obtain ⟨uj, huj⟩ : ∃ l, unionT ts (us.take j) = l := ⟨_, rfl⟩
        rw [huj] at C HN ⊢
        have HC := Lib.hid C
        clear C iv pv hown hul huj ht HT hts hcs hm m0 m1 m2 hl'
        go_wp2_with fail
        refine HC.out.mono ?_
        rintro e w2 ⟨v2, rfl, ho2, hb2⟩
        have O2 := Lib.hid (own_base ho2 hnx.size)
        rw [← HN.out] at O2
        have B2 := hnx.trans (hb2.mono hnx.size)
        clear ho2 hb2 HC HN d0 d1 d2
        go_wp2_with fail
        go_roundw
        case rel => exact ⟨j + 1, _, by omega, by go_num, rfl, O2, B2⟩
        case measure => simp [intOf]; omega
      · obtain rfl : j = lb := by omega
        have HO2 : Hid (OwnT w.heap.size wr v (unionT ts us)) := Lib.hid (by
          have := hown.out
          rwa [List.take_of_length_le (by rw [KL.out]; exact Nat.le_refl _)] at this)
        clear hown
        go_wp2_with fail
        go_ret
        exact ⟨v, rfl, HO2.out, hnx⟩
set_option maxRecDepth 100000 in
set_option maxHeartbeats 1600000 in
theorem specDataMerged (a : Option Addr) (len cap : Nat) (ts : List NamV) (w : World) (h : IsNams w a len cap ts) (hs : SmN ts) :
    Calls Try.prog 17 #[.slice a len cap] w (ResPost (mergeO ts) w) := by
  have C := specDataOk a len cap ts w h hs
  have HT := Lib.hid h.len
  have H := Lib.hid h
  cases hq : dataOk ts
  · rw [hq] at C
    have HC := Lib.hid C
    have HG : Hid (mergeO ts = none) := Lib.hid (by unfold mergeO; rw [if_neg]; intro h; rw [hq] at h; exact Bool.noConfusion h.1)
    clear C hq h
    go_enter Try.func17, Try.ntmps17
    go_wp2_with fail
    refine HC.out.mono ?_
    rintro e w1 ⟨rfl, hb1⟩
    go_wp2_with fail
    go_ret2
    rw [HG.out]
    exact ResPost.no hb1
  rw [hq] at C
  have HC := Lib.hid C
  have h6 := dataOk_six hq
  have H80 := Lib.hid (dataOk_80 hq)
  have HQ0 : Hid (mergeO ts = if (mergeL ts).length ≤ 80 then some (mergeL ts) else none) := Lib.hid (by unfold mergeO; rw [hq]; simp)
  have h6' : len ≤ 6 := by rw [← h.len]; exact h6
  have HS : Hid (∀ rs : List NamV, (∀ r ∈ rs, r ∈ ts) → ∀ t ∈ mergeL rs, t.1.size ≤ maxLen ∧ t.2.1.size ≤ maxLen ∧ t.2.2.size ≤ maxLen) := Lib.hid (fun rs hr t ht => by
    obtain ⟨r, h1, h2⟩ := mergeL_mem.1 ht
    have := hs.sm (hr r h1) t h2
    unfold maxLen
    omega)
  clear C h hs hq h6
  go_enter Try.func17, Try.ntmps17
  go_wp2_with fail
  refine HC.out.mono ?_
  rintro e w1 ⟨rfl, hb1⟩
  have hz1 := hb1.size
  have O0 : Hid (OwnT w.heap.size (w1.alloc (.cells #[] 53)) (.slice (some ⟨w1.heap.size, 0, none⟩) 0 0) []) := Lib.hid (own_base (World.ownsRow_lit (size := 3) (e := 53) w1 #[] 0 (Nat.le_refl _) (by decide) rfl) hz1)
  have B0 := hb1.alloc hz1 (.cells #[] 53)
  go_wp2_with fail
  go_loopw [4, 5] (fun v' i wr => ∃ (k : Nat) (v : Value), k ≤ len ∧ i = .int .i64 k ∧ v = v' ∧ Hid (OwnT w.heap.size wr v (mergeL (ts.take k))) ∧ Below w.heap.size w wr) (fun _ i _ => len - (intOf i).toNat)
  case atStart => exact ⟨0, _, Nat.zero_le _, rfl, rfl, Lib.hid (by simpa [mergeL] using O0.out), B0⟩
  case round =>
    obtain ⟨k, v, hk, rfl, rfl, hown, hnx⟩ := hrel
    clear O0 B0
    have hk6 : (0 : Int) ≤ (k : Int) := by omega
    have hk8 : ¬ (k : Int) < 0 := by omega
    by_cases hlt : k < len
    · have hk7 : (k : Int) < (len : Int) := by omega
      obtain ⟨b, off, rfl, hb, hll, hm, hts, hc⟩ := (H.out.next hnx).cells (by omega)
      have ht : ts[k]? = some (ts[k]'(by omega)) := List.getElem?_eq_getElem (by omega)
      have HK : Hid (mergeL (ts.take (k + 1)) = unionT (mergeL (ts.take k)) (ts[k]'(by omega)).2) := Lib.hid (by rw [List.take_succ_eq_append_getElem (by omega), mergeL_snoc])
      obtain ⟨ga, gn, gc, c0, c1, hz, m0⟩ := hc k _ ht
      have h80 := H80.out _ (List.mem_of_getElem? ht)
      generalize ts[k]'(by omega) = t at ht HK c0 c1 hz m0 h80
      obtain ⟨s, g⟩ := t
      simp only at c0 c1 hz m0 h80 HK
      obtain ⟨xv, yv, rfl, iv, pv⟩ := plainOwn hown.out (HS.out _ (fun r hr => List.mem_of_mem_take hr))
      have hml := mergeL_len (rs := ts.take k) (fun r hr => H80.out r (List.mem_of_mem_take hr))
      rw [List.length_take] at hml
      have hgl := hz.len
      have HU := Lib.hid (specUnionW xv ga _ yv gn gc (mergeL (ts.take k)) g wr iv pv hz (by omega) (by omega))
      generalize mergeL (ts.take k) = acc at hown HU HK iv
      generalize acc.length = al at hown HU iv
      clear hown iv pv hml hgl hz hts hc hm m0 c0 ht
      go_wp2_with fail
      refine HU.out.mono ?_
      rintro e w2 ⟨v2, rfl, ho2, hb2⟩
      have O2 := Lib.hid (own_base ho2 hnx.size)
      rw [← HK.out] at O2
      have B2 := hnx.trans (hb2.mono hnx.size)
      clear ho2 hb2 HK HU
      go_wp2_with fail
      go_roundw
      case rel => exact ⟨k + 1, _, by omega, by go_num, rfl, O2, B2⟩
      case measure => simp [intOf]; omega
    · obtain rfl : k = len := by omega
      have HO : Hid (OwnT w.heap.size wr v (mergeL ts)) := Lib.hid (by
        have := hown.out
        rwa [List.take_of_length_le (by rw [HT.out]; exact Nat.le_refl _)] at this)
      clear hown
      obtain ⟨xv, yv, rfl, _, _⟩ := plainOwn HO.out (HS.out _ (fun r hr => hr))
      have hml := mergeL_len (rs := ts) H80.out
      rw [HT.out] at hml
      generalize mergeL ts = acc at HO HQ0 hml
      by_cases h80 : acc.length ≤ 80
      · have HR : Hid (mergeO ts = some acc) := Lib.hid (by rw [HQ0.out, if_pos h80])
        have h81 : ¬ (80 : Int) < (acc.length : Int) := by omega
        go_wp2_with fail
        go_ret2
        rw [HR.out]
        exact ResPost.yes HO.out hnx
      · have HR : Hid (mergeO ts = none) := Lib.hid (by rw [HQ0.out, if_neg h80])
        have h81 : (80 : Int) < (acc.length : Int) := by omega
        go_wp2_with fail
        go_ret2
        rw [HR.out]
        exact ResPost.no hnx
end Go.Proofs.Ytkcbgppplgkkbaa
