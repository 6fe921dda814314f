/- The specification's look for a triple, and triples without one. -/
import Derived.Test.YthnpchcfjkepaaaG17
import Derived.Test.YthnpchcfjkepaaaG08
import Derived.Test.YthnpchcfjkepaaaG18
import Derived.Test.YthnpchcfjkepaaaG15
import Derived.Test.YthnpchcfjkepaaaG01
import Derived.Deep.QuietTactic
import Derived.BigQuiet
import Derived.Laws.AppendOwnNone
import Derived.Deep.RegionHeld3
namespace Go.Proofs.Ythnpchcfjkepaaa
open Go.RowKit Go.WideShapes
theorem OwnT.plain {B : Nat} {w : World} {v : Value} {ts : List Tri3} (h : OwnT B w v ts) (hm : ∀ t ∈ ts, t.1.size ≤ maxLen ∧ t.2.1.size ≤ maxLen ∧ t.2.2.size ≤ maxLen) : ∃ a cap, v = .slice a ts.length cap ∧ IsTris w a ts.length cap ts ∧ Plain a := by
  obtain ⟨a, cap, hv, hi⟩ := h.is hm
  refine ⟨a, cap, hv, hi, ?_⟩
  rcases h.2 with ⟨e, _⟩ | ⟨g, c, cur, e, _⟩
  · rw [hv] at e
    simp only [Value.slice.injEq] at e
    exact .inl e.1
  · rw [hv] at e
    simp only [Value.slice.injEq] at e
    exact .inr ⟨g, 0, e.1⟩
set_option maxRecDepth 100000 in
set_option maxHeartbeats 1600000 in
theorem specWith (a : Option Addr) (len cap : Nat) (ts : List Tri3) (s p o : ByteArray) (w : World) (h : IsTris w a len cap ts) (hpl : Plain a) (hsm : Sm ts) (hs : s.size ≤ 2097152) (hp : p.size ≤ 2097152) (ho : o.size ≤ 2097152) :
    Calls Try.prog 112 #[.slice a len cap, .agg #[.string s, .string p, .string o]] w (ResPost (withT ts (s, p, o)) w) := by
  have A1 := specGraphOk a len cap ts (w.alloc (.cells #[.string s, .string p, .string o] 34)) (h.next ((Below.refl w.heap.size w).alloc (Nat.le_refl _) _)) hsm
  have B0 := (Below.refl w.heap.size w).alloc (Nat.le_refl _) (.cells #[.string s, .string p, .string o] 34)
  have X0 := Box.new w (.string s) (.string p) (.string o) 34
  have h0 := h.next B0
  cases hg : graphOk ts
  · rw [hg] at A1
    have HR : Hid (withT ts (s, p, o) = none) := Lib.hid (by unfold withT; rw [hg]; simp)
    have C1 := Lib.hid A1
    clear A1 hg h h0 hsm X0
    go_enter Try.func112, Try.ntmps112
    go_wp2_with fail
    refine C1.out.mono ?_
    rintro e w1 ⟨rfl, hb1⟩
    go_wp2_with fail
    go_ret2
    rw [HR.out]
    exact ResPost.no (B0.trans (hb1.mono B0.size))
  rw [hg] at A1
  have hl := h.len
  have hl80 := graphOk_len hg
  have hlen : len ≤ 1048576 := by omega
  have C1 := Lib.hid A1
  have A2 := specTripleOk s p o hs hp ho
  change ∀ w, Calls _ _ _ w fun e w' => e = .returned (.bool (okT (s, p, o))) ∧ Below w.heap.size w w' at A2
  cases ht : okT (s, p, o)
  · rw [ht] at A2
    have HR : Hid (withT ts (s, p, o) = none) := Lib.hid (by unfold withT; rw [ht]; simp)
    have C2 := Lib.hid A2
    clear A1 A2 hg ht h h0 hsm hl hl80
    go_enter Try.func112, Try.ntmps112
    go_wp2_with fail
    refine C1.out.mono ?_
    rintro e w1 ⟨rfl, hb1⟩
    have X1 := X0.next hb1
    obtain ⟨c0, c1, c2⟩ := X1.cells
    have B1 := B0.trans (hb1.mono B0.size)
    clear X0 hb1 B0
    go_wp2_with fail
    refine (C2.out _).mono ?_
    rintro e w2 ⟨rfl, hb2⟩
    go_wp2_with fail
    go_ret2
    rw [HR.out]
    exact ResPost.no (B1.trans (hb2.mono B1.size))
  rw [ht] at A2
  have C2 := Lib.hid A2
  have hlp := putT_len ts (s, p, o)
  have hlp2 : (putT ts (s, p, o)).length ≤ 81 := by omega
  have HY : Hid ((putT ts (s, p, o)).length ≤ 80 → withT ts (s, p, o) = some (putT ts (s, p, o))) := Lib.hid (fun c => by unfold withT; rw [if_pos ⟨hg, ht, c⟩])
  have HN : Hid (¬ (putT ts (s, p, o)).length ≤ 80 → withT ts (s, p, o) = none) := Lib.hid (fun c => by unfold withT; rw [if_neg (fun h => c h.2.2)])
  have HP := Lib.hid hpl
  clear A1 A2 hg ht h hsm hl hl80 hlp hpl
  go_enter Try.func112, Try.ntmps112
  go_wp2_with fail
  refine C1.out.mono ?_
  rintro e w1 ⟨rfl, hb1⟩
  have X1 := X0.next hb1
  have h1 := h0.next hb1
  obtain ⟨c0, c1, c2⟩ := X1.cells
  have B1 := B0.trans (hb1.mono B0.size)
  clear X0 hb1 B0 h0
  go_wp2_with fail
  refine (C2.out _).mono ?_
  rintro e w2 ⟨rfl, hb2⟩
  have X2 := X1.next hb2
  have h2 := h1.next hb2
  have B2 := B1.trans (hb2.mono B1.size)
  clear X1 hb2 B1 h1 c0 c1 c2
  obtain ⟨c0, c1, c2⟩ := X2.cells
  have U := Lib.hid (specPutAny a len cap ts s p o w2 h2 HP.out hlen)
  clear h2
  go_wp2_with fail
  refine U.out.mono ?_
  rintro e w3 ⟨v, rfl, ho3, hb3⟩
  have O3 := own_base ho3 B2.size
  have B3 := B2.trans (hb3.mono B2.size)
  obtain ⟨uu, huu⟩ : ∃ l, putT ts (s, p, o) = l := ⟨_, rfl⟩
  rw [huu] at O3 HY HN hlp2
  obtain ⟨x, y, rfl⟩ : ∃ x y, v = .slice x uu.length y := by
    rcases O3.2 with ⟨rfl, e⟩ | ⟨g, c, cur, rfl, _⟩
    · exact ⟨none, 0, by rw [e]⟩
    · exact ⟨_, _, rfl⟩
  have HO := Lib.hid O3
  clear ho3 hb3 O3 U huu c0 c1 c2 X2
  by_cases c : (80 : Int) < (uu.length : Int)
  · have HR := Lib.hid (HN.out (by omega))
    clear HY HN
    go_wp2_with fail
    go_ret2
    rw [HR.out]
    exact ResPost.no B3
  · have HR := Lib.hid (HY.out (by omega))
    clear HY HN
    go_wp2_with fail
    go_ret2
    rw [HR.out]
    exact ResPost.yes HO.out B3
end Go.Proofs.Ythnpchcfjkepaaa
/- The specification's look for a triple. -/
namespace Go.Proofs.Ythnpchcfjkepaaa
open Go.RowKit Go.WideShapes
end Go.Proofs.Ythnpchcfjkepaaa
/- SpecL, the rest. -/
namespace Go.Proofs.Ythnpchcfjkepaaa
open Go.RowKit Go.WideShapes
theorem lessT_snoc (g : List Tri3) (t u : Tri3) : lessT (g ++ [u]) t = if u = t then lessT g t else lessT g t ++ [u] := by
  unfold lessT
  rw [List.filter_append]
  by_cases h : u = t <;> simp [h]
open Go.RowKit Go.WideShapes
set_option maxRecDepth 100000 in
set_option maxHeartbeats 1600000 in
theorem specUnionL (a b : Option Addr) (la ca lb cb : Nat) (ts us : List Tri3) (w : World) (h : IsTris w a la ca ts) (hp : Plain a) (k : IsTris w b lb cb us) (hla : la ≤ 80) (hlb : lb ≤ 80) :
    Calls Try.prog 33 #[.slice a la ca, .slice b lb cb] w fun e w' => ∃ v, e = .returned v ∧ OwnT w.heap.size w' v (unionT ts us) ∧ Below w.heap.size w w' := by
  obtain ⟨i0, hi, hz0, hz1, hz2⟩ := info_parts infoTri
  have HS : Hid (∀ us' : List Tri3, (∀ u ∈ us', u ∈ us) → ∀ t ∈ unionT ts us', t.1.size ≤ maxLen ∧ t.2.1.size ≤ maxLen ∧ t.2.2.size ≤ maxLen) := Lib.hid (fun us' hu t ht => by
    rcases unionT_mem.1 ht with g | g
    · exact h.small t g
    · exact k.small t (hu t g))
  have HL := Lib.hid h.len
  have KL := Lib.hid k.len
  have K := Lib.hid k
  have O0 : OwnT w.heap.size (w.alloc (.cells #[] 34)) (.slice (some ⟨w.heap.size, 0, none⟩) 0 0) [] := World.ownsRow_lit (size := 3) (e := 34) w #[] 0 (Nat.le_refl _) (by decide) rfl
  have BA := (Below.refl w.heap.size w).alloc (Nat.le_refl _) (.cells #[] 34)
  have hA := h.next BA
  have HO := Lib.hid O0
  clear k O0 h
  have main : ∀ (v : Value) (w1 : World), OwnT w.heap.size w1 v ts → Below w.heap.size w w1 → True := fun _ _ _ _ => trivial
  clear main
  rcases hp with rfl | ⟨bb, off, rfl⟩
  · rcases hA with ⟨_, rfl, rfl, rfl⟩ | ⟨x, hx, _⟩
    rotate_left
    · cases hx
    go_enter Try.func33, Try.ntmps33
    go_wp2_with (at_builtin; refine wpList_append_own_none rfl _ _ 26 rfl w.heap.size 34 i0 3 Try.underlying26 hi _ _ _ rfl HO.out rfl ?_)
    go_wp2_with fail
    have O1 := HO.out
    have B1 := BA
    go_loopw [5, 6] (fun v' i wr => ∃ (j : Nat) (v : Value), j ≤ lb ∧ i = .int .i64 j ∧ v = v' ∧ Hid (OwnT w.heap.size wr v (unionT ([] : List Tri3) (us.take j))) ∧ Below w.heap.size w wr) (fun _ i _ => lb - (intOf i).toNat)
    case atStart => exact ⟨0, _, Nat.zero_le _, rfl, rfl, Lib.hid (by simpa [unionT] using O1), B1⟩
    case round =>
      obtain ⟨j, v, hj, rfl, rfl, hown, hnx⟩ := hrel
      clear O1 B1 BA
      have hj6 : (0 : Int) ≤ (j : Int) := by omega
      by_cases hlt : j < lb
      · have hj7 : (j : Int) < (lb : Int) := by omega
        obtain ⟨b', off', rfl, hb, hl', hm, hts, hcs⟩ := K.out.cells (by omega)
        have ht : us[j]? = some (us[j]'(by omega)) := List.getElem?_eq_getElem (by omega)
        have HT : Hid (us.take (j + 1) = us.take j ++ [us[j]'(by omega)]) := Lib.hid (List.take_succ_eq_append_getElem (by omega))
        obtain ⟨d0, d1, d2, m0, m1, m2⟩ := hcs j _ ht
        rw [← hnx.cell (p := ⟨b', _, none⟩) hb] at d0 d1 d2
        generalize us[j]'(by omega) = u at ht d0 d1 d2 m0 m1 m2 HT
        obtain ⟨u0, u1, u2⟩ := u
        simp only at d0 d1 d2
        have HN : Hid (unionT ([] : List Tri3) (us.take (j + 1)) = putT (unionT ([] : List Tri3) (us.take j)) (u0, u1, u2)) := Lib.hid (by rw [HT.out, unionT_snoc])
        obtain ⟨xv, yv, rfl, iv, pv⟩ := OwnT.plain hown.out (HS.out _ (fun u hu => List.mem_of_mem_take hu))
        have hul := unionT_len (us.take j) ([] : List Tri3)
        rw [List.length_take, List.length_nil] at hul
        have C := specPutAny xv _ yv _ u0 u1 u2 wr iv pv (by omega)
        obtain ⟨uj, huj⟩ : ∃ l, unionT ([] : List Tri3) (us.take j) = l := ⟨_, rfl⟩
        rw [huj] at C HN ⊢
        have HC := Lib.hid C
        clear C iv pv hown hul huj ht HT hts hcs hm m0 m1 m2 hl'
        go_wp2_with fail
        refine HC.out.mono ?_
        rintro e w2 ⟨v2, rfl, ho2, hb2⟩
        have O2 := Lib.hid (own_base ho2 hnx.size)
        rw [← HN.out] at O2
        have B2 := hnx.trans (hb2.mono hnx.size)
        clear ho2 hb2 HC HN d0 d1 d2
        go_wp2_with fail
        go_roundw
        case rel => exact ⟨j + 1, _, by omega, by go_num, rfl, O2, B2⟩
        case measure => simp [intOf]; omega
      · obtain rfl : j = lb := by omega
        have HO2 : Hid (OwnT w.heap.size wr v (unionT ([] : List Tri3) us)) := Lib.hid (by
          have := hown.out
          rwa [List.take_of_length_le (by rw [KL.out]; exact Nat.le_refl _)] at this)
        clear hown
        go_wp2_with fail
        go_ret
        exact ⟨v, rfl, HO2.out, hnx⟩
  · have F1 := hA.front la
    rw [List.take_of_length_le (by rw [HL.out]; exact Nat.le_refl _)] at F1
    have HF1 := Lib.hid F1
    clear F1 hA
    go_enter Try.func33, Try.ntmps33
    go_wp2_with (at_builtin; refine wpList_append_own _ rfl _ _ 26 rfl w.heap.size 34 i0 (.agg #[.string ⟨#[]⟩, .string ⟨#[]⟩, .string ⟨#[]⟩]) 3 48 Try.underlying26 hi hz0 hz1 hz2 rfl (by decide) _ _ _ rfl HO.out ⟨bb, off, none⟩ la _ (flat ts) rfl (by rw [flat_len, HL.out]) HF1.out (by first | exact flat_one _ | (intro x hx; simp at hx; rcases hx with rfl | rfl | rfl <;> rfl)) ?h63a ?h48a ?hbsa ?_)
    case h63a => rw [List.length_nil]; unfold maxLen; omega
    case h48a => rw [List.length_nil]; omega
    case hbsa => simp only [World.size_alloc]; omega
    intro v1 w1 hown1 hg1 _
    have O1 : OwnT w.heap.size w1 v1 ts := by unfold OwnT; rw [HL.out]; simpa [show flat ([] : List Tri3) = [] from rfl] using hown1
    have B1 : Below w.heap.size w w1 := BA.grown hg1 BA.size (fun j hj => by simp [Value.ownBlock] at hj; omega)
    clear hown1 hg1 HO HF1
    go_wp2_with fail
    go_loopw [5, 6] (fun v' i wr => ∃ (j : Nat) (v : Value), j ≤ lb ∧ i = .int .i64 j ∧ v = v' ∧ Hid (OwnT w.heap.size wr v (unionT ts (us.take j))) ∧ Below w.heap.size w wr) (fun _ i _ => lb - (intOf i).toNat)
    case atStart => exact ⟨0, _, Nat.zero_le _, rfl, rfl, Lib.hid (by simpa [unionT] using O1), B1⟩
    case round =>
      obtain ⟨j, v, hj, rfl, rfl, hown, hnx⟩ := hrel
      clear O1 B1 BA
      have hj6 : (0 : Int) ≤ (j : Int) := by omega
      by_cases hlt : j < lb
      · have hj7 : (j : Int) < (lb : Int) := by omega
        obtain ⟨b', off', rfl, hb, hl', hm, hts, hcs⟩ := K.out.cells (by omega)
        have ht : us[j]? = some (us[j]'(by omega)) := List.getElem?_eq_getElem (by omega)
        have HT : Hid (us.take (j + 1) = us.take j ++ [us[j]'(by omega)]) := Lib.hid (List.take_succ_eq_append_getElem (by omega))
        obtain ⟨d0, d1, d2, m0, m1, m2⟩ := hcs j _ ht
        rw [← hnx.cell (p := ⟨b', _, none⟩) hb] at d0 d1 d2
        generalize us[j]'(by omega) = u at ht d0 d1 d2 m0 m1 m2 HT
        obtain ⟨u0, u1, u2⟩ := u
        simp only at d0 d1 d2
        have HN : Hid (unionT ts (us.take (j + 1)) = putT (unionT ts (us.take j)) (u0, u1, u2)) := Lib.hid (by rw [HT.out, unionT_snoc])
        obtain ⟨xv, yv, rfl, iv, pv⟩ := OwnT.plain hown.out (HS.out _ (fun u hu => List.mem_of_mem_take hu))
        have hul := unionT_len (us.take j) ts
        rw [HL.out, List.length_take] at hul
        have C := specPutAny xv _ yv _ u0 u1 u2 wr iv pv (by omega)
        obtain ⟨uj, huj⟩ : ∃ l, unionT ts (us.take j) = l := ⟨_, rfl⟩
        rw [huj] at C HN ⊢
        have HC := Lib.hid C
        clear C iv pv hown hul huj ht HT hts hcs hm m0 m1 m2 hl'
        go_wp2_with fail
        refine HC.out.mono ?_
        rintro e w2 ⟨v2, rfl, ho2, hb2⟩
        have O2 := Lib.hid (own_base ho2 hnx.size)
        rw [← HN.out] at O2
        have B2 := hnx.trans (hb2.mono hnx.size)
        clear ho2 hb2 HC HN d0 d1 d2
        go_wp2_with fail
        go_roundw
        case rel => exact ⟨j + 1, _, by omega, by go_num, rfl, O2, B2⟩
        case measure => simp [intOf]; omega
      · obtain rfl : j = lb := by omega
        have HO2 : Hid (OwnT w.heap.size wr v (unionT ts us)) := Lib.hid (by
          have := hown.out
          rwa [List.take_of_length_le (by rw [KL.out]; exact Nat.le_refl _)] at this)
        clear hown
        go_wp2_with fail
        go_ret
        exact ⟨v, rfl, HO2.out, hnx⟩
end Go.Proofs.Ythnpchcfjkepaaa
