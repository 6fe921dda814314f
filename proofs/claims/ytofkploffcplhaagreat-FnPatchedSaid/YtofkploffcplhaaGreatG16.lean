/- SpecL, the rest. -/
import Derived.Test.YtofkploffcplhaaGreatG14
import Derived.Test.YtofkploffcplhaaGreatG15
import Derived.Test.YtofkploffcplhaaGreatG12
import Derived.Test.YtofkploffcplhaaGreatG10
namespace Go.Proofs.YtofkploffcplhaaGreat
open Go.RowKit Go.WideShapes
theorem lessT_snoc (g : List Tri3) (t u : Tri3) : lessT (g ++ [u]) t = if u = t then lessT g t else lessT g t ++ [u] := by
  unfold lessT
  rw [List.filter_append]
  by_cases h : u = t <;> simp [h]
set_option maxRecDepth 100000 in
set_option maxHeartbeats 1600000 in
theorem specLess (a : Option Addr) (len cap : Nat) (ts : List Tri3) (s p o : ByteArray) (w : World) (h : IsTris w a len cap ts) (hl : len ≤ 1048576) :
    Calls Tryz.prog 53 #[.slice a len cap, .agg #[.string s, .string p, .string o]] w fun e w' => ∃ v, e = .returned v ∧ OwnT w.heap.size w' v (lessT ts (s, p, o)) ∧ Below w.heap.size w w' := by
  obtain ⟨i0, hi, hz0, hz1, hz2⟩ := info_parts infoTri
  have H := Lib.hid h
  have HT := Lib.hid h.len
  have B0 := ((Below.refl w.heap.size w).alloc (Nat.le_refl _) (.cells #[.string s, .string p, .string o] 38)).alloc (by simp) (.cells #[] 38)
  have X0 := (Box.new w (.string s) (.string p) (.string o) 38).alloc (.cells #[] 38)
  have O0 : OwnT (w.heap.size + 1) ((w.alloc (.cells #[.string s, .string p, .string o] 38)).alloc (.cells #[] 38)) (.slice (some ⟨w.heap.size + 1, 0, none⟩) 0 0) [] := by
    have := World.ownsRow_lit (size := 3) (e := 38) (w.alloc (.cells #[.string s, .string p, .string o] 38)) #[] 0 (Nat.le_refl _) (by decide) rfl
    rw [World.size_alloc] at this
    exact this
  clear h
  go_enter Tryz.func53, Tryz.ntmps53
  go_wp2_with fail
  go_loopw [5, 6] (fun v' i wr => ∃ (k : Nat) (v : Value), k ≤ len ∧ i = .int .i64 k ∧ v = v' ∧ Hid (OwnT (w.heap.size + 1) wr v (lessT (ts.take k) (s, p, o))) ∧ Hid (Box wr w.heap.size (.string s) (.string p) (.string o) 38) ∧ Below w.heap.size w wr) (fun _ i _ => len - (intOf i).toNat)
  case atStart => exact ⟨0, _, Nat.zero_le _, rfl, rfl, Lib.hid (by simpa [lessT] using O0), Lib.hid X0, B0⟩
  case round =>
    obtain ⟨k, v, hk, rfl, rfl, hown, hbox, hnx⟩ := hrel
    clear X0 B0 O0
    have hk6 : (0 : Int) ≤ (k : Int) := by omega
    have hk8 : k ≤ 1048576 := by omega
    by_cases hlt : k < len
    · have hk7 : (k : Int) < (len : Int) := by omega
      obtain ⟨b, off, rfl, hb, hl', hm, hts, hcs⟩ := H.out.cells (by omega)
      have ht : ts[k]? = some (ts[k]'(by omega)) := List.getElem?_eq_getElem (by omega)
      have HS : Hid (ts.take (k + 1) = ts.take k ++ [ts[k]'(by omega)]) := Lib.hid (List.take_succ_eq_append_getElem (by omega))
      obtain ⟨d0, d1, d2, m0, m1, m2⟩ := hcs k _ ht
      rw [← hnx.cell (p := ⟨b, _, none⟩) hb] at d0 d1 d2
      generalize ts[k]'(by omega) = u at ht d0 d1 d2 m0 m1 m2 HS
      obtain ⟨c0, c1, c2⟩ := hbox.out.cells
      have hll : (lessT (ts.take k) (s, p, o)).length ≤ k := Nat.le_trans (lessT_len _ _) (by rw [List.length_take]; omega)
      by_cases he : u = (s, p, o)
      · subst he
        have EQ := tri_same s p o
        have HN : Hid (lessT (ts.take (k + 1)) (s, p, o) = lessT (ts.take k) (s, p, o)) := Lib.hid (by rw [HS.out, lessT_snoc, if_pos rfl])
        have HB : Hid (∀ n, Below w.heap.size w (wr.drewN n)) := Lib.hid (fun n => below_drewN hnx n)
        have X1 : Hid (∀ n, Box (wr.drewN n) w.heap.size (.string s) (.string p) (.string o) 38) := Lib.hid (fun n => hbox.out)
        have O1 : Hid (∀ n, OwnT (w.heap.size + 1) (wr.drewN n) v (lessT (ts.take (k + 1)) (s, p, o))) := Lib.hid (fun n => by rw [HN.out]; exact hown.out)
        simp only at d0 d1 d2
        clear ht hts hcs hm m0 m1 m2 hl' HS hown HN hll
        go_wp2_with fail
        go_quiet (fail)
        clear EQ
        go_wp2_with fail
        go_roundw
        case rel => exact ⟨k + 1, _, by omega, by go_num, rfl, Lib.hid (O1.out _), Lib.hid (X1.out _), HB.out _⟩
        case measure => simp [intOf]; omega
      · have EQ : ∀ w, (binOp .neq 38 (.agg #[.string u.1, .string u.2.1, .string u.2.2]) (.agg #[.string s, .string p, .string o])).run Tryz.prog w = .ok (.bool true) w := fun w => by rw [tri_ne, tri_not he]; rfl
        have HN : Hid (lessT (ts.take (k + 1)) (s, p, o) = lessT (ts.take k) (s, p, o) ++ [u]) := Lib.hid (by rw [HS.out, lessT_snoc, if_neg he])
        have BQ : Hid (∀ n, Below w.heap.size w (wr.drewN n)) := Lib.hid (fun n => below_drewN hnx n)
        have XQ : Hid (∀ n, Box (wr.drewN n) w.heap.size (.string s) (.string p) (.string o) 38) := Lib.hid (fun n => hbox.out)
        have OQ : Hid (∀ n, OwnT (w.heap.size + 1) (wr.drewN n) v (lessT (ts.take k) (s, p, o))) := Lib.hid (fun n => hown.out)
        have DQ := Lib.hid (And.intro d0 (And.intro d1 d2))
        obtain ⟨pl, hpl⟩ : ∃ l, lessT (ts.take k) (s, p, o) = l := ⟨_, rfl⟩
        rw [hpl] at HN OQ hll
        clear ht hts hcs hm m0 m1 m2 hl' HS hown he hbox hnx hpl
        go_wp2_with fail
        go_quiet (fail)
        clear EQ c0 c1 c2 d0 d1 d2
        have BE := BQ.out nq
        have XE := XQ.out nq
        have OE := OQ.out nq
        have DE : (wr.drewN nq).cell? ⟨b, off + k * 3, none⟩ = some (.string u.1) ∧ (wr.drewN nq).cell? ⟨b, off + k * 3 + 1, none⟩ = some (.string u.2.1) ∧ (wr.drewN nq).cell? ⟨b, off + k * 3 + 2, none⟩ = some (.string u.2.2) := DQ.out
        clear BQ XQ OQ DQ
        generalize wr.drewN nq = we at BE XE OE DE ⊢
        obtain ⟨d0, d1, d2⟩ := DE
        have hcl : w.heap.size < we.heap.size := XE.lt
        have hne := fun j hj => (World.ownsRow.lt OE j hj).1
        have HC : ∀ (j : Nat) (x : Value), [Value.string u.1, .string u.2.1, .string u.2.2][j]? = some x → (we.alloc (.cells #[.string u.1, .string u.2.1, .string u.2.2] 38)).cell? ((⟨we.heap.size, 0, none⟩ : Addr).add j) = some x := three_cell
        have HH := Lib.hid HC
        have BA := BE.alloc BE.size (.cells #[.string u.1, .string u.2.1, .string u.2.2] 38)
        have XA := XE.alloc (.cells #[.string u.1, .string u.2.1, .string u.2.2] 38)
        have OA := Lib.hid (World.ownsRow.alloc OE (.cells #[.string u.1, .string u.2.1, .string u.2.2] 38))
        clear HC BE XE OE
        go_wp2_with (at_builtin; refine wpList_append_own _ rfl _ _ 24 rfl (w.heap.size + 1) 38 i0 (.agg #[.string ⟨#[]⟩, .string ⟨#[]⟩, .string ⟨#[]⟩]) 3 48 Tryz.underlying24 hi hz0 hz1 hz2 rfl (by decide) _ _ _ rfl OA.out ⟨we.heap.size, 0, none⟩ 1 _ [.string u.1, .string u.2.1, .string u.2.2] rfl rfl HH.out (by first | exact flat_one _ | (intro x hx; simp at hx; rcases hx with rfl | rfl | rfl <;> rfl)) ?h63a ?h48a ?hbsa ?_)
        case h63a => unfold maxLen; omega
        case h48a => omega
        case hbsa => simp only [World.size_alloc]; omega
        intro v2 w2 hown2 hg2 _
        have O2 : OwnT (w.heap.size + 1) w2 v2 (lessT (ts.take (k + 1)) (s, p, o)) := by rw [HN.out]; exact own3_snoc (t := u) hown2
        have B2 : Below w.heap.size w w2 := BA.grown hg2 BA.size (fun j hj => by have := hne j hj; omega)
        have X2 := XA.grown hg2 (by intro e; have := hne _ e.symm; omega)
        have HO2 := Lib.hid O2
        have HX2 := Lib.hid X2
        clear hown2 hg2 OA HH BA XA O2 X2 d0 d1 d2
        go_wp2_with fail
        go_roundw
        case rel => exact ⟨k + 1, _, by omega, by go_num, rfl, HO2, HX2, B2⟩
        case measure => simp [intOf]; omega
    · obtain rfl : k = len := by omega
      have HO : Hid (OwnT (w.heap.size + 1) wr v (lessT ts (s, p, o))) := Lib.hid (by
        have := hown.out
        rwa [List.take_of_length_le (by rw [HT.out]; exact Nat.le_refl _)] at this)
      clear hown
      go_wp2_with fail
      go_ret
      exact ⟨v, rfl, own_base HO.out (by omega), hnx⟩
open Go.RowKit Go.WideShapes
set_option maxRecDepth 100000 in
set_option maxHeartbeats 1600000 in
theorem specUnionL (a b : Option Addr) (la ca lb cb : Nat) (ts us : List Tri3) (w : World) (h : IsTris w a la ca ts) (hp : Plain a) (k : IsTris w b lb cb us) (hla : la ≤ 80) (hlb : lb ≤ 80) :
    Calls Tryz.prog 27 #[.slice a la ca, .slice b lb cb] w fun e w' => ∃ v, e = .returned v ∧ OwnT w.heap.size w' v (unionT ts us) ∧ Below w.heap.size w w' := by
  obtain ⟨i0, hi, hz0, hz1, hz2⟩ := info_parts infoTri
  have HS : Hid (∀ us' : List Tri3, (∀ u ∈ us', u ∈ us) → ∀ t ∈ unionT ts us', t.1.size ≤ maxLen ∧ t.2.1.size ≤ maxLen ∧ t.2.2.size ≤ maxLen) := Lib.hid (fun us' hu t ht => by
    rcases unionT_mem.1 ht with g | g
    · exact h.small t g
    · exact k.small t (hu t g))
  have HL := Lib.hid h.len
  have KL := Lib.hid k.len
  have K := Lib.hid k
  have O0 : OwnT w.heap.size (w.alloc (.cells #[] 38)) (.slice (some ⟨w.heap.size, 0, none⟩) 0 0) [] := World.ownsRow_lit (size := 3) (e := 38) w #[] 0 (Nat.le_refl _) (by decide) rfl
  have BA := (Below.refl w.heap.size w).alloc (Nat.le_refl _) (.cells #[] 38)
  have hA := h.next BA
  have HO := Lib.hid O0
  clear k O0 h
  have main : ∀ (v : Value) (w1 : World), OwnT w.heap.size w1 v ts → Below w.heap.size w w1 → True := fun _ _ _ _ => trivial
  clear main
  rcases hp with rfl | ⟨bb, off, rfl⟩
  · rcases hA with ⟨_, rfl, rfl, rfl⟩ | ⟨x, hx, _⟩
    rotate_left
    · cases hx
    go_enter Tryz.func27, Tryz.ntmps27
    go_wp2_with (at_builtin; refine wpList_append_own_none rfl _ _ 24 rfl w.heap.size 38 i0 3 Tryz.underlying24 hi _ _ _ rfl HO.out rfl ?_)
    go_wp2_with fail
    have O1 := HO.out
    have B1 := BA
    go_loopw [5, 6] (fun v' i wr => ∃ (j : Nat) (v : Value), j ≤ lb ∧ i = .int .i64 j ∧ v = v' ∧ Hid (OwnT w.heap.size wr v (unionT ([] : List Tri3) (us.take j))) ∧ Below w.heap.size w wr) (fun _ i _ => lb - (intOf i).toNat)
    case atStart => exact ⟨0, _, Nat.zero_le _, rfl, rfl, Lib.hid (by simpa [unionT] using O1), B1⟩
    case round =>
      obtain ⟨j, v, hj, rfl, rfl, hown, hnx⟩ := hrel
      clear O1 B1 BA
      have hj6 : (0 : Int) ≤ (j : Int) := by omega
      by_cases hlt : j < lb
      · have hj7 : (j : Int) < (lb : Int) := by omega
        obtain ⟨b', off', rfl, hb, hl', hm, hts, hcs⟩ := K.out.cells (by omega)
        have ht : us[j]? = some (us[j]'(by omega)) := List.getElem?_eq_getElem (by omega)
        have HT : Hid (us.take (j + 1) = us.take j ++ [us[j]'(by omega)]) := Lib.hid (List.take_succ_eq_append_getElem (by omega))
        obtain ⟨d0, d1, d2, m0, m1, m2⟩ := hcs j _ ht
        rw [← hnx.cell (p := ⟨b', _, none⟩) hb] at d0 d1 d2
        generalize us[j]'(by omega) = u at ht d0 d1 d2 m0 m1 m2 HT
        obtain ⟨u0, u1, u2⟩ := u
        simp only at d0 d1 d2
        have HN : Hid (unionT ([] : List Tri3) (us.take (j + 1)) = putT (unionT ([] : List Tri3) (us.take j)) (u0, u1, u2)) := Lib.hid (by rw [HT.out, unionT_snoc])
        obtain ⟨xv, yv, rfl, iv, pv⟩ := OwnT.plain hown.out (HS.out _ (fun u hu => List.mem_of_mem_take hu))
        have hul := unionT_len (us.take j) ([] : List Tri3)
        rw [List.length_take, List.length_nil] at hul
        have C := specPutAny xv _ yv _ u0 u1 u2 wr iv pv (by omega)
        obtain ⟨uj, huj⟩ : ∃ l, unionT ([] : List Tri3) (us.take j) = l := ⟨_, rfl⟩
        rw [huj] at C HN ⊢
        have HC := Lib.hid C
        clear C iv pv hown hul huj ht HT hts hcs hm m0 m1 m2 hl'
        go_wp2_with fail
        refine HC.out.mono ?_
        rintro e w2 ⟨v2, rfl, ho2, hb2⟩
        have O2 := Lib.hid (own_base ho2 hnx.size)
        rw [← HN.out] at O2
        have B2 := hnx.trans (hb2.mono hnx.size)
        clear ho2 hb2 HC HN d0 d1 d2
        go_wp2_with fail
        go_roundw
        case rel => exact ⟨j + 1, _, by omega, by go_num, rfl, O2, B2⟩
        case measure => simp [intOf]; omega
      · obtain rfl : j = lb := by omega
        have HO2 : Hid (OwnT w.heap.size wr v (unionT ([] : List Tri3) us)) := Lib.hid (by
          have := hown.out
          rwa [List.take_of_length_le (by rw [KL.out]; exact Nat.le_refl _)] at this)
        clear hown
        go_wp2_with fail
        go_ret
        exact ⟨v, rfl, HO2.out, hnx⟩
  · have F1 := hA.front la
    rw [List.take_of_length_le (by rw [HL.out]; exact Nat.le_refl _)] at F1
    have HF1 := Lib.hid F1
    clear F1 hA
    go_enter Tryz.func27, Tryz.ntmps27
    go_wp2_with (at_builtin; refine wpList_append_own _ rfl _ _ 24 rfl w.heap.size 38 i0 (.agg #[.string ⟨#[]⟩, .string ⟨#[]⟩, .string ⟨#[]⟩]) 3 48 Tryz.underlying24 hi hz0 hz1 hz2 rfl (by decide) _ _ _ rfl HO.out ⟨bb, off, none⟩ la _ (flat ts) rfl (by rw [flat_len, HL.out]) HF1.out (by first | exact flat_one _ | (intro x hx; simp at hx; rcases hx with rfl | rfl | rfl <;> rfl)) ?h63a ?h48a ?hbsa ?_)
    case h63a => rw [List.length_nil]; unfold maxLen; omega
    case h48a => rw [List.length_nil]; omega
    case hbsa => simp only [World.size_alloc]; omega
    intro v1 w1 hown1 hg1 _
    have O1 : OwnT w.heap.size w1 v1 ts := by unfold OwnT; rw [HL.out]; simpa [show flat ([] : List Tri3) = [] from rfl] using hown1
    have B1 : Below w.heap.size w w1 := BA.grown hg1 BA.size (fun j hj => by simp [Value.ownBlock] at hj; omega)
    clear hown1 hg1 HO HF1
    go_wp2_with fail
    go_loopw [5, 6] (fun v' i wr => ∃ (j : Nat) (v : Value), j ≤ lb ∧ i = .int .i64 j ∧ v = v' ∧ Hid (OwnT w.heap.size wr v (unionT ts (us.take j))) ∧ Below w.heap.size w wr) (fun _ i _ => lb - (intOf i).toNat)
    case atStart => exact ⟨0, _, Nat.zero_le _, rfl, rfl, Lib.hid (by simpa [unionT] using O1), B1⟩
    case round =>
      obtain ⟨j, v, hj, rfl, rfl, hown, hnx⟩ := hrel
      clear O1 B1 BA
      have hj6 : (0 : Int) ≤ (j : Int) := by omega
      by_cases hlt : j < lb
      · have hj7 : (j : Int) < (lb : Int) := by omega
        obtain ⟨b', off', rfl, hb, hl', hm, hts, hcs⟩ := K.out.cells (by omega)
        have ht : us[j]? = some (us[j]'(by omega)) := List.getElem?_eq_getElem (by omega)
        have HT : Hid (us.take (j + 1) = us.take j ++ [us[j]'(by omega)]) := Lib.hid (List.take_succ_eq_append_getElem (by omega))
        obtain ⟨d0, d1, d2, m0, m1, m2⟩ := hcs j _ ht
        rw [← hnx.cell (p := ⟨b', _, none⟩) hb] at d0 d1 d2
        generalize us[j]'(by omega) = u at ht d0 d1 d2 m0 m1 m2 HT
        obtain ⟨u0, u1, u2⟩ := u
        simp only at d0 d1 d2
        have HN : Hid (unionT ts (us.take (j + 1)) = putT (unionT ts (us.take j)) (u0, u1, u2)) := Lib.hid (by rw [HT.out, unionT_snoc])
        obtain ⟨xv, yv, rfl, iv, pv⟩ := OwnT.plain hown.out (HS.out _ (fun u hu => List.mem_of_mem_take hu))
        have hul := unionT_len (us.take j) ts
        rw [HL.out, List.length_take] at hul
        have C := specPutAny xv _ yv _ u0 u1 u2 wr iv pv (by omega)
        obtain ⟨uj, huj⟩ : ∃ l, unionT ts (us.take j) = l := ⟨_, rfl⟩
        rw [huj] at C HN ⊢
        have HC := Lib.hid C
        clear C iv pv hown hul huj ht HT hts hcs hm m0 m1 m2 hl'
        go_wp2_with fail
        refine HC.out.mono ?_
        rintro e w2 ⟨v2, rfl, ho2, hb2⟩
        have O2 := Lib.hid (own_base ho2 hnx.size)
        rw [← HN.out] at O2
        have B2 := hnx.trans (hb2.mono hnx.size)
        clear ho2 hb2 HC HN d0 d1 d2
        go_wp2_with fail
        go_roundw
        case rel => exact ⟨j + 1, _, by omega, by go_num, rfl, O2, B2⟩
        case measure => simp [intOf]; omega
      · obtain rfl : j = lb := by omega
        have HO2 : Hid (OwnT w.heap.size wr v (unionT ts us)) := Lib.hid (by
          have := hown.out
          rwa [List.take_of_length_le (by rw [KL.out]; exact Nat.le_refl _)] at this)
        clear hown
        go_wp2_with fail
        go_ret
        exact ⟨v, rfl, HO2.out, hnx⟩
set_option maxRecDepth 100000 in
set_option maxHeartbeats 1600000 in
theorem specWithout (a : Option Addr) (len cap : Nat) (ts : List Tri3) (s p o : ByteArray) (w : World) (h : IsTris w a len cap ts) (_hpl : Plain a) (hsm : Sm ts) (_hs : s.size ≤ 2097152) (_hp : p.size ≤ 2097152) (_ho : o.size ≤ 2097152) :
    Calls Tryz.prog 39 #[.slice a len cap, .agg #[.string s, .string p, .string o]] w (ResPost (withoutT ts (s, p, o)) w) := by
  have A1 := specGraphOk a len cap ts (w.alloc (.cells #[.string s, .string p, .string o] 38)) (h.next ((Below.refl w.heap.size w).alloc (Nat.le_refl _) _)) hsm
  have B0 := (Below.refl w.heap.size w).alloc (Nat.le_refl _) (.cells #[.string s, .string p, .string o] 38)
  have X0 := Box.new w (.string s) (.string p) (.string o) 38
  have h0 := h.next B0
  cases hg : graphOk ts
  · rw [hg] at A1
    have HR : Hid (withoutT ts (s, p, o) = none) := Lib.hid (by unfold withoutT; rw [hg]; simp)
    have C1 := Lib.hid A1
    clear A1 hg h h0 hsm X0
    go_enter Tryz.func39, Tryz.ntmps39
    go_wp2_with fail
    refine C1.out.mono ?_
    rintro e w1 ⟨rfl, hb1⟩
    go_wp2_with fail
    go_ret2
    rw [HR.out]
    exact ResPost.no (B0.trans (hb1.mono B0.size))
  rw [hg] at A1
  have hl := h.len
  have hl80 := graphOk_len hg
  have hlen : len ≤ 1048576 := by omega
  have C1 := Lib.hid A1
  have HY : Hid ((s, p, o) ∈ ts → withoutT ts (s, p, o) = some (lessT ts (s, p, o))) := Lib.hid (fun c => by unfold withoutT; rw [if_pos ⟨hg, c⟩])
  have HN : Hid ((s, p, o) ∉ ts → withoutT ts (s, p, o) = none) := Lib.hid (fun c => by unfold withoutT; rw [if_neg (fun h => c h.2)])
  have W1 : Hid (∀ w, IsTris w a len cap ts → Calls Tryz.prog 26 #[.slice a len cap, .agg #[.string s, .string p, .string o]] w fun e w' => e = .returned (.bool (decide ((s, p, o) ∈ ts))) ∧ Below w.heap.size w w') := Lib.hid (fun w h => specHas2 a len cap ts s p o w h hlen)
  have W2 : Hid (∀ w, IsTris w a len cap ts → Calls Tryz.prog 53 #[.slice a len cap, .agg #[.string s, .string p, .string o]] w fun e w' => ∃ v, e = .returned v ∧ OwnT w.heap.size w' v (lessT ts (s, p, o)) ∧ Below w.heap.size w w') := Lib.hid (fun w h => specLess a len cap ts s p o w h hlen)
  clear A1 hg h hsm hl hl80
  by_cases hin : (s, p, o) ∈ ts
  · have HR := Lib.hid (HY.out hin)
    rw [decide_eq_true hin] at W1
    clear HY HN hin
    go_enter Tryz.func39, Tryz.ntmps39
    go_wp2_with fail
    refine C1.out.mono ?_
    rintro e w1 ⟨rfl, hb1⟩
    have X1 := X0.next hb1
    have h1 := h0.next hb1
    obtain ⟨c0, c1, c2⟩ := X1.cells
    have B1 := B0.trans (hb1.mono B0.size)
    clear X0 hb1 B0 h0
    go_wp2_with fail
    refine (W1.out _ h1).mono ?_
    rintro e w2 ⟨rfl, hb2⟩
    have X2 := X1.next hb2
    have h2 := h1.next hb2
    have B2 := B1.trans (hb2.mono B1.size)
    clear X1 hb2 B1 h1 c0 c1 c2
    obtain ⟨c0, c1, c2⟩ := X2.cells
    go_wp2_with fail
    refine (W2.out _ h2).mono ?_
    rintro e w3 ⟨v, rfl, ho3, hb3⟩
    have O3 := Lib.hid (own_base ho3 B2.size)
    have B3 := B2.trans (hb3.mono B2.size)
    clear ho3 hb3 h2 X2 c0 c1 c2 W1 W2
    go_wp2_with fail
    go_ret2
    rw [HR.out]
    exact ResPost.yes O3.out B3
  · have HR := Lib.hid (HN.out hin)
    rw [decide_eq_false hin] at W1
    clear HY HN hin W2
    go_enter Tryz.func39, Tryz.ntmps39
    go_wp2_with fail
    refine C1.out.mono ?_
    rintro e w1 ⟨rfl, hb1⟩
    have X1 := X0.next hb1
    have h1 := h0.next hb1
    obtain ⟨c0, c1, c2⟩ := X1.cells
    have B1 := B0.trans (hb1.mono B0.size)
    clear X0 hb1 B0 h0
    go_wp2_with fail
    refine (W1.out _ h1).mono ?_
    rintro e w2 ⟨rfl, hb2⟩
    go_wp2_with fail
    go_ret2
    rw [HR.out]
    exact ResPost.no (B1.trans (hb2.mono B1.size))
end Go.Proofs.YtofkploffcplhaaGreat
/- What is drawn for PatchOf: a graph, and one that is a few steps from it. -/
namespace Go.Proofs.YtofkploffcplhaaGreat
open Go.RowKit Go.WideShapes
theorem ownT_shapeD {B : Nat} {w : World} {v : Value} {ts : List Tri3} (h : OwnT B w v ts) : ∃ a n c, v = .slice a n c := by
  rcases h.2 with ⟨rfl, _⟩ | ⟨g, c, cur, rfl, _⟩
  · exact ⟨_, _, _, rfl⟩
  · exact ⟨_, _, _, rfl⟩
theorem ownT_lenD {B : Nat} {w : World} {a : Option Addr} {n c : Nat} {ts : List Tri3} (h : OwnT B w (.slice a n c) ts) : ts.length = n := by
  rcases h.2 with ⟨e, h0⟩ | ⟨g, c', cur, e, _⟩
  · simp only [Value.slice.injEq] at e; omega
  · simp only [Value.slice.injEq] at e; exact e.2.1.symm
set_option maxRecDepth 100000 in
set_option maxHeartbeats 6400000 in
theorem drawPatchOf (w : World) (a : Option Addr) (len cap : Nat) (zs : List Int) (hrow : Frame.IsRow .u8 w a len cap zs) :
    Calls Tryz.prog 18 #[.slice a len cap] w fun e w' => ∃ (va vb : Value) (ts us : List Tri3), e = .returned (.tuple #[va, vb]) ∧ GotG w' va ts ∧ GotG w' vb us ∧ w.grownBy w' none := by
  go_enter Tryz.func18, Tryz.ntmps18
  go_wp2_with fail
  refine (rdOpen _ _ _ _ _ hrow).mono ?_
  rintro e w1 ⟨rfl, r1, g1⟩
  have hgC : w.heap.size < w1.heap.size := r1.2.1
  go_wp2_with fail
  refine (rdGraph _ _ _ r1 7 (by omega)).mono ?_
  rintro e w2 ⟨va, ts, rfl, s2, o2, r2, g2⟩
  have G2 := Lib.hid (grown_off g1 g2 (fun q e => by cases e; omega))
  have HS := Lib.hid s2
  have HO2 := Lib.hid o2
  have HM := Lib.hid (rdBelow _ _ _ r2 4 (by omega) (by omega))
  obtain ⟨xa, La, ya, rfl⟩ := ownT_shapeD o2
  clear g1 s2 o2 r1
  have hsz := g2.size
  clear g2
  go_wp2_with fail
  refine HM.out.mono ?_
  rintro e w3 ⟨m, hm0, hm1, rfl, r3, g3⟩
  have G3 := Lib.hid (grown_off G2.out g3 (fun q e => by cases e; omega))
  obtain ⟨m, rfl⟩ := Int.eq_ofNat_of_zero_le hm0
  have hm4 : m ≤ 4 := by omega
  have HA3 := Lib.hid (own_rd HO2.out g3 hgC (Nat.le_refl _))
  have HR3 := Lib.hid r3
  have hsz3 : w1.heap.size ≤ w3.heap.size := by have := g3.size; omega
  have HZ3 := Lib.hid hsz3
  clear g3 r3 HM HO2 G2 hm0 hm1 r2 hsz hsz3
  go_wp2_with fail
  go_loopw [6, 7, 8, 9] (fun b i _ _ wr => ∃ (j : Nat) (v : Value) (us : List Tri3), j ≤ 4 ∧ i = .int .i64 j ∧ v = b ∧ Hid (SmG us) ∧ Hid (OwnT w1.heap.size wr v us) ∧ Hid (OwnT w1.heap.size wr (.slice xa La ya) ts) ∧ Hid (Rd w.heap.size wr w.heap.size) ∧ Hid (w.grownBy wr none) ∧ Hid (w1.heap.size ≤ wr.heap.size)) (fun _ i _ _ _ => (intOf i).toNat)
  case atStart => exact ⟨m, _, ts, hm4, rfl, rfl, HS, HA3, HA3, HR3, G3, HZ3⟩
  case round =>
    obtain ⟨j, v, us, hj, rfl, rfl, hsm, hb, ha, hrd, hg, hz0⟩ := hrel
    clear HA3 HR3 G3 hm4
    obtain ⟨x, L, y, rfl⟩ := ownT_shapeD hb.out
    have HL := Lib.hid (ownT_lenD hb.out)
    have hL81 : L ≤ 81 := by have := hsm.out.1; have := HL.out; omega
    by_cases hj0 : 0 < j
    · have hj1 : (0 : Int) < (j : Int) := by omega
      have HT := Lib.hid (rdTriple _ _ wr hrd.out)
      go_wp2_with fail
      refine HT.out.mono ?_
      rintro e w2 ⟨s, p, o, hs, hp, ho, rfl, r2, g2⟩
      have G2 := Lib.hid (grown_off hg.out g2 (fun q e => by cases e; omega))
      have Z2 := Lib.hid (Nat.le_trans hz0.out g2.size)
      have HB2 := Lib.hid (own_rd hb.out g2 hgC (Nat.le_refl _))
      have HA2 := Lib.hid (own_rd ha.out g2 hgC (Nat.le_refl _))
      have HR2 := Lib.hid r2
      obtain ⟨x2, y2, hv2, i2, p2⟩ := OwnT.plain HB2.out hsm.out.maxLen
      rw [HL.out] at hv2 i2
      simp only [Value.slice.injEq, true_and] at hv2
      obtain ⟨rfl, rfl⟩ := hv2
      have C := specWith x L y us s p o w2 i2 p2 hsm.out.sm (by omega) (by omega) (by omega)
      have HW := (hsm.out.with_ (t := (s, p, o)) ⟨hs.2, hp, ho⟩).1
      obtain ⟨N3, hN3⟩ : ∃ l, (withT us (s, p, o)).getD [] = l := ⟨_, rfl⟩
      unfold ResPost at C
      rw [hN3] at C HW
      generalize (withT us (s, p, o)).isSome = ok at C
      have HC := Lib.hid C
      have HW3 := Lib.hid HW
      clear hrd hb ha hg g2 r2 i2 p2 C hN3 hs hp ho HT HW
      go_wp2_with fail
      refine HC.out.mono ?_
      rintro e w3 ⟨v3, rfl, o3, hb3⟩
      have G3 := Lib.hid (G2.out.trans (grown_of_below hb3))
      have HR3 := Lib.hid (rd_far HR2.out hb3)
      have Z3 := Lib.hid (Nat.le_trans Z2.out hb3.size)
      have HB3 := Lib.hid (own_next HB2.out (grown_of_below hb3))
      have HA3 := Lib.hid (own_next HA2.out (grown_of_below hb3))
      have HN3 := Lib.hid (own_base (B' := w1.heap.size) o3 Z2.out)
      obtain ⟨p3, q3, r3, rfl⟩ := ownT_shapeD HN3.out
      clear o3 hb3 HC G2 HR2 HB2 HA2
      by_cases hL0 : 0 < L
      · have hL1 : (0 : Int) < (L : Int) := by omega
        have HN := Lib.hid (rdOnce _ _ _ HR3.out 2 (by omega) (by omega))
        go_wp2_with fail
        refine HN.out.mono ?_
        rintro e w4 ⟨bb, rfl, r4, g4⟩
        have G4 := Lib.hid (grown_off G3.out g4 (fun q e => by cases e; omega))
        have Z4 := Lib.hid (Nat.le_trans Z3.out g4.size)
        have HB4 := Lib.hid (own_rd HB3.out g4 hgC (Nat.le_refl _))
        have HA4 := Lib.hid (own_rd HA3.out g4 hgC (Nat.le_refl _))
        have HN4 := Lib.hid (own_rd HN3.out g4 hgC (Nat.le_refl _))
        have HR4 := Lib.hid r4
        clear HN r4 g4 G3 HB3 HA3 HN3 HR3
        cases bb
        · cases ok
          · go_wp2_with fail
            go_roundw
            case rel => exact ⟨j - 1, _, us, by omega, by rw [show ((j - 1 : Nat) : Int) = (j : Int) - 1 from by omega], rfl, hsm, HB4, HA4, HR4, G4, Z4⟩
            case measure => simp [intOf]; omega
          · go_wp2_with fail
            go_roundw
            case rel => exact ⟨j - 1, _, N3, by omega, by rw [show ((j - 1 : Nat) : Int) = (j : Int) - 1 from by omega], rfl, HW3, HN4, HA4, HR4, G4, Z4⟩
            case measure => simp [intOf]; omega
        · have HM := Lib.hid (rdBelow _ _ _ HR4.out (L : Int) (by omega) (by omega))
          go_wp2_with fail
          refine HM.out.mono ?_
          rintro e w5 ⟨m, hm0, hm1, rfl, r5, g5⟩
          obtain ⟨m, rfl⟩ := Int.eq_ofNat_of_zero_le hm0
          have hmL : m < L := by omega
          have G5 := Lib.hid (grown_off G4.out g5 (fun q e => by cases e; omega))
          have Z5 := Lib.hid (Nat.le_trans Z4.out g5.size)
          have HB5 := Lib.hid (own_rd HB4.out g5 hgC (Nat.le_refl _))
          have HA5 := Lib.hid (own_rd HA4.out g5 hgC (Nat.le_refl _))
          have HR5 := Lib.hid r5
          obtain ⟨b1, off, u, rfl, c0, c1, c2, k0, k1, k2⟩ := pick_of HB5.out hsm.out HL.out hmL
          obtain ⟨x5, y5, hv5, i5, p5⟩ := OwnT.plain HB5.out hsm.out.maxLen
          rw [HL.out] at hv5 i5
          simp only [Value.slice.injEq, true_and] at hv5
          obtain ⟨rfl, rfl⟩ := hv5
          have C := specWithout _ L y us u.1 u.2.1 u.2.2 w5 i5 p5 hsm.out.sm (by omega) (by omega) (by omega)
          have HW := hsm.out.less (t := (u.1, u.2.1, u.2.2))
          obtain ⟨N6, hN6⟩ : ∃ l, (withoutT us (u.1, u.2.1, u.2.2)).getD [] = l := ⟨_, rfl⟩
          unfold ResPost at C
          rw [hN6] at C HW
          generalize (withoutT us (u.1, u.2.1, u.2.2)).isSome = ok2 at C
          have HC := Lib.hid C
          have HW6 := Lib.hid HW
          clear HM r5 g5 i5 p5 C HW hN6 k0 k1 k2 G4 HB4 HA4 HR4
          go_wp2_with fail
          refine HC.out.mono ?_
          rintro e w6 ⟨v6, rfl, o6, hb6⟩
          have G6 := Lib.hid (G5.out.trans (grown_of_below hb6))
          have HR6 := Lib.hid (rd_far HR5.out hb6)
          have Z6 := Lib.hid (Nat.le_trans Z5.out hb6.size)
          have HB6 := Lib.hid (own_next HB5.out (grown_of_below hb6))
          have HA6 := Lib.hid (own_next HA5.out (grown_of_below hb6))
          have HN6 := Lib.hid (own_base (B' := w1.heap.size) o6 Z5.out)
          obtain ⟨p6, q6, r6, rfl⟩ := ownT_shapeD HN6.out
          clear o6 hb6 HC c0 c1 c2 G5 HR5 HB5 HA5
          cases ok2
          · go_wp2_with fail
            go_roundw
            case rel => exact ⟨j - 1, _, us, by omega, by rw [show ((j - 1 : Nat) : Int) = (j : Int) - 1 from by omega], rfl, hsm, HB6, HA6, HR6, G6, Z6⟩
            case measure => simp [intOf]; omega
          · go_wp2_with fail
            go_roundw
            case rel => exact ⟨j - 1, _, N6, by omega, by rw [show ((j - 1 : Nat) : Int) = (j : Int) - 1 from by omega], rfl, HW6, HN6, HA6, HR6, G6, Z6⟩
            case measure => simp [intOf]; omega
      · obtain rfl : L = 0 := by omega
        cases ok
        · go_wp2_with fail
          go_roundw
          case rel => exact ⟨j - 1, _, us, by omega, by rw [show ((j - 1 : Nat) : Int) = (j : Int) - 1 from by omega], rfl, hsm, HB3, HA3, HR3, G3, Z3⟩
          case measure => simp [intOf]; omega
        · go_wp2_with fail
          go_roundw
          case rel => exact ⟨j - 1, _, N3, by omega, by rw [show ((j - 1 : Nat) : Int) = (j : Int) - 1 from by omega], rfl, HW3, HN3, HA3, HR3, G3, Z3⟩
          case measure => simp [intOf]; omega
    · obtain rfl : j = 0 := by omega
      go_wp2_with fail
      go_ret2
      exact ⟨_, _, ts, us, rfl, got_of ha.out HS.out, got_of hb.out hsm.out, hg.out⟩
end Go.Proofs.YtofkploffcplhaaGreat
/- Patches: plain facts on lists of triples. -/
namespace Go.Proofs.YtofkploffcplhaaGreat
/-- What of a is not in b. -/
def outT (a b : List Tri3) : List Tri3 := a.filter fun t => decide (¬ t ∈ b)
/-- Whether one of b is in a. -/
def anyT (a b : List Tri3) : Bool := b.any fun t => decide (t ∈ a)
/-- Whether all of b are in a. -/
def subT (a b : List Tri3) : Bool := b.all fun t => decide (t ∈ a)
theorem outT_mem {a b : List Tri3} {t : Tri3} : t ∈ outT a b ↔ t ∈ a ∧ ¬ t ∈ b := by
  unfold outT; rw [List.mem_filter, decide_eq_true_eq]
theorem outT_len (a b : List Tri3) : (outT a b).length ≤ a.length := List.length_filter_le _ _
theorem outT_snoc (a b : List Tri3) (t : Tri3) : outT (a ++ [t]) b = if t ∈ b then outT a b else outT a b ++ [t] := by
  unfold outT
  rw [List.filter_append]
  by_cases h : t ∈ b <;> simp [h]
theorem outT_rising {a b : List Tri3} (h : Rising a) : Rising (outT a b) := List.Pairwise.filter _ h
theorem outT_ok {a b : List Tri3} (h : graphOk a = true) : graphOk (outT a b) = true :=
  graphOk_iff.2 ⟨Nat.le_trans (outT_len a b) (graphOk_len h), fun t ht => graphOk_okT h t (outT_mem.1 ht).1, outT_rising (graphOk_rising h)⟩
theorem outT_same {a b c : List Tri3} (h : ∀ t, t ∈ b ↔ t ∈ c) : outT a b = outT a c := by
  unfold outT
  refine List.filter_congr fun t _ => ?_
  rw [decide_eq_decide, h]
theorem anyT_iff {a b : List Tri3} : anyT a b = true ↔ ∃ t, t ∈ a ∧ t ∈ b := by
  unfold anyT
  rw [List.any_eq_true]
  exact ⟨fun ⟨t, h1, h2⟩ => ⟨t, of_decide_eq_true h2, h1⟩, fun ⟨t, h1, h2⟩ => ⟨t, h2, decide_eq_true h1⟩⟩
theorem anyT_no {a b : List Tri3} : anyT a b = false ↔ ∀ t, t ∈ a → ¬ t ∈ b := by
  rw [← Bool.not_eq_true, anyT_iff]
  exact ⟨fun h t h1 h2 => h ⟨t, h1, h2⟩, fun h ⟨t, h1, h2⟩ => h t h1 h2⟩
theorem anyT_comm (a b : List Tri3) : anyT a b = anyT b a := by
  rw [Bool.eq_iff_iff, anyT_iff, anyT_iff]
  exact ⟨fun ⟨t, h1, h2⟩ => ⟨t, h2, h1⟩, fun ⟨t, h1, h2⟩ => ⟨t, h2, h1⟩⟩
theorem anyT_same {a b c : List Tri3} (h : ∀ t, t ∈ b ↔ t ∈ c) : anyT b a = anyT c a := by
  rw [Bool.eq_iff_iff, anyT_iff, anyT_iff]
  exact ⟨fun ⟨t, h1, h2⟩ => ⟨t, (h t).1 h1, h2⟩, fun ⟨t, h1, h2⟩ => ⟨t, (h t).2 h1, h2⟩⟩
theorem anyT_snoc (a b : List Tri3) (t : Tri3) : anyT a (b ++ [t]) = (anyT a b || decide (t ∈ a)) := by
  unfold anyT; simp
theorem subT_iff {a b : List Tri3} : subT a b = true ↔ ∀ t, t ∈ b → t ∈ a := by
  unfold subT
  rw [List.all_eq_true]
  exact ⟨fun h t ht => of_decide_eq_true (h t ht), fun h t ht => decide_eq_true (h t ht)⟩
theorem subT_same {a b c : List Tri3} (h : ∀ t, t ∈ b ↔ t ∈ c) : subT b a = subT c a := by
  rw [Bool.eq_iff_iff, subT_iff, subT_iff]
  exact ⟨fun g t ht => (h t).1 (g t ht), fun g t ht => (h t).2 (g t ht)⟩
def patchOk (d a : List Tri3) : Bool := graphOk d && (graphOk a && !anyT d a)
theorem patchOk_iff {d a : List Tri3} : patchOk d a = true ↔ graphOk d = true ∧ graphOk a = true ∧ anyT d a = false := by
  unfold patchOk; simp
def patchOf (a b : List Tri3) : Option (List Tri3 × List Tri3) := if graphOk a = true ∧ graphOk b = true then some (outT a b, outT b a) else none
def patchedO (g d a : List Tri3) : Option (List Tri3) := if graphOk g = true ∧ patchOk d a = true ∧ subT g d = true ∧ anyT g a = false then unionO (outT g d) a else none
def chainable (pd pa qd qa : List Tri3) : Prop := patchOk pd pa = true ∧ patchOk qd qa = true ∧ anyT pd qd = false ∧ anyT pa qa = false
instance (pd pa qd qa : List Tri3) : Decidable (chainable pd pa qd qa) := by unfold chainable; exact inferInstance
def chDrop (pd pa qd qa : List Tri3) : List Tri3 := unionT (outT pd qa) (outT qd pa)
def chAdd (pd pa qd qa : List Tri3) : List Tri3 := unionT (outT pa qd) (outT qa pd)
def chainedO (pd pa qd qa : List Tri3) : Option (List Tri3 × List Tri3) :=
  if chainable pd pa qd qa ∧ (chDrop pd pa qd qa).length ≤ 80 ∧ (chAdd pd pa qd qa).length ≤ 80 then some (chDrop pd pa qd qa, chAdd pd pa qd qa) else none
theorem unionO_out {g d a : List Tri3} (hg : graphOk g = true) (ha : graphOk a = true) : unionO (outT g d) a = if (unionT (outT g d) a).length ≤ 80 then some (unionT (outT g d) a) else none := by
  unfold unionO
  by_cases h : (unionT (outT g d) a).length ≤ 80
  · rw [if_pos ⟨outT_ok hg, ha, h⟩, if_pos h]
  · rw [if_neg (fun c => h c.2.2), if_neg h]
theorem unionO_outs {a b c d : List Tri3} (ha : graphOk a = true) (hc : graphOk c = true) : unionO (outT a b) (outT c d) = if (unionT (outT a b) (outT c d)).length ≤ 80 then some (unionT (outT a b) (outT c d)) else none :=
  unionO_out ha (outT_ok hc)
/-- What comes of two patches has nothing together. -/
theorem chain_parts {pd pa qd qa : List Tri3} (h : chainable pd pa qd qa) : anyT (chDrop pd pa qd qa) (chAdd pd pa qd qa) = false := by
  obtain ⟨h1, h2, h3, h4⟩ := h
  have p := anyT_no.1 (patchOk_iff.1 h1).2.2
  have q := anyT_no.1 (patchOk_iff.1 h2).2.2
  refine anyT_no.2 fun t h5 h6 => ?_
  unfold chDrop at h5
  unfold chAdd at h6
  rw [unionT_mem, outT_mem, outT_mem] at h5 h6
  rcases h5 with ⟨a1, a2⟩ | ⟨a1, a2⟩ <;> rcases h6 with ⟨b1, b2⟩ | ⟨b1, b2⟩
  · exact p t a1 b1
  · exact a2 b1
  · exact a2 b1
  · exact q t a1 b1
theorem chain_ok {pd pa qd qa : List Tri3} (h : chainable pd pa qd qa) : patchOk (chDrop pd pa qd qa) (chAdd pd pa qd qa) = (decide ((chDrop pd pa qd qa).length ≤ 80) && decide ((chAdd pd pa qd qa).length ≤ 80)) := by
  have hp := chain_parts h
  obtain ⟨h1, h2, _, _⟩ := h
  obtain ⟨p1, p2, _⟩ := patchOk_iff.1 h1
  obtain ⟨q1, q2, _⟩ := patchOk_iff.1 h2
  have gd : graphOk (chDrop pd pa qd qa) = decide ((chDrop pd pa qd qa).length ≤ 80) := by
    by_cases g : (chDrop pd pa qd qa).length ≤ 80
    · rw [decide_eq_true g]; exact unionT_graphOk (outT_ok p1) (outT_ok q1) g
    · rw [decide_eq_false g, ← Bool.not_eq_true]; exact fun c => g (graphOk_len c)
  have ga : graphOk (chAdd pd pa qd qa) = decide ((chAdd pd pa qd qa).length ≤ 80) := by
    by_cases g : (chAdd pd pa qd qa).length ≤ 80
    · rw [decide_eq_true g]; exact unionT_graphOk (outT_ok p2) (outT_ok q2) g
    · rw [decide_eq_false g, ← Bool.not_eq_true]; exact fun c => g (graphOk_len c)
  unfold patchOk
  rw [gd, ga, hp]
  simp
theorem patchedO_some {g d a h : List Tri3} (e : patchedO g d a = some h) : graphOk g = true ∧ patchOk d a = true ∧ (∀ t, t ∈ d → t ∈ g) ∧ (∀ t, t ∈ g → ¬ t ∈ a) ∧ h = unionT (outT g d) a ∧ graphOk h = true := by
  unfold patchedO at e
  split at e
  · rename_i c
    obtain ⟨_, _, e2, e3⟩ := unionO_some e
    exact ⟨c.1, c.2.1, subT_iff.1 c.2.2.1, anyT_no.1 c.2.2.2, e2, e3⟩
  · cases e
theorem patched_mem {g d a h : List Tri3} (e : patchedO g d a = some h) (t : Tri3) : t ∈ h ↔ (t ∈ g ∧ ¬ t ∈ d) ∨ t ∈ a := by
  obtain ⟨_, _, _, _, rfl, _⟩ := patchedO_some e
  rw [unionT_mem, outT_mem]
theorem patched_is {g d a h : List Tri3} (hg : graphOk g = true) (hp : patchOk d a = true) (h1 : ∀ t, t ∈ d → t ∈ g) (h2 : ∀ t, t ∈ g → ¬ t ∈ a) (hh : graphOk h = true) (hm : ∀ t, t ∈ h ↔ (t ∈ g ∧ ¬ t ∈ d) ∨ t ∈ a) : patchedO g d a = some h := by
  obtain ⟨_, pa, _⟩ := patchOk_iff.1 hp
  have e : unionT (outT g d) a = h := eq_of_rising (unionT_rising (outT_rising (graphOk_rising hg))) (graphOk_rising hh) (fun t => by rw [unionT_mem, outT_mem, hm])
  unfold patchedO
  rw [if_pos ⟨hg, hp, subT_iff.2 h1, anyT_no.2 h2⟩, unionO_out hg pa, e, if_pos (graphOk_len hh)]
/-- What turns one graph into another one. -/
theorem patch_turns {a b : List Tri3} (ha : graphOk a = true) (hb : graphOk b = true) : patchOk (outT a b) (outT b a) = true ∧ patchedO a (outT a b) (outT b a) = some b ∧ patchedO b (outT b a) (outT a b) = some a ∧ outT a a = [] := by
  have key : ∀ a b : List Tri3, graphOk a = true → graphOk b = true → patchOk (outT a b) (outT b a) = true ∧ patchedO a (outT a b) (outT b a) = some b := by
    intro a b ha hb
    have hp : patchOk (outT a b) (outT b a) = true := patchOk_iff.2 ⟨outT_ok ha, outT_ok hb, anyT_no.2 fun t h1 h2 => (outT_mem.1 h1).2 (outT_mem.1 h2).1⟩
    refine ⟨hp, patched_is ha hp (fun t h => (outT_mem.1 h).1) (fun t h1 h2 => (outT_mem.1 h2).2 h1) hb fun t => ?_⟩
    rw [outT_mem, outT_mem]
    by_cases h1 : t ∈ a <;> by_cases h2 : t ∈ b <;> simp [h1, h2]
  refine ⟨(key a b ha hb).1, (key a b ha hb).2, (key b a hb ha).2, ?_⟩
  unfold outT
  rw [List.filter_eq_nil_iff]
  intro t ht
  simp [ht]
theorem patched_len {g d a h : List Tri3} (e : patchedO g d a = some h) : h.length + d.length = g.length + a.length := by
  obtain ⟨h1, h2, h3, h4, rfl, h5⟩ := patchedO_some e
  obtain ⟨p1, p2, p3⟩ := patchOk_iff.1 h2
  have n1 : (outT g d ++ a).Nodup := List.nodup_append.2 ⟨(outT_rising (graphOk_rising h1)).nodup, (graphOk_rising p2).nodup, fun x hx y hy => by rintro rfl; exact h4 x (outT_mem.1 hx).1 hy⟩
  have q1 : (unionT (outT g d) a).Perm (outT g d ++ a) := (List.perm_ext_iff_of_nodup (graphOk_rising h5).nodup n1).2 fun t => by rw [unionT_mem, List.mem_append]
  have n2 : (outT g d ++ d).Nodup := List.nodup_append.2 ⟨(outT_rising (graphOk_rising h1)).nodup, (graphOk_rising p1).nodup, fun x hx y hy => by rintro rfl; exact (outT_mem.1 hx).2 hy⟩
  have q2 : (outT g d ++ d).Perm g := (List.perm_ext_iff_of_nodup n2 (graphOk_rising h1).nodup).2 fun t => by
    rw [List.mem_append, outT_mem]
    by_cases c : t ∈ d
    · simp [c, h3 t c]
    · simp [c]
  have l1 := q1.length_eq
  have l2 := q2.length_eq
  rw [List.length_append] at l1 l2
  omega
/-- Two patches one behind the other are one that does what both do. -/
theorem chain_does {g pd pa qd qa x y : List Tri3} (hc : chainable pd pa qd qa) (h1 : (chDrop pd pa qd qa).length ≤ 80) (h2 : (chAdd pd pa qd qa).length ≤ 80) (hx : patchedO g pd pa = some x) (hy : patchedO x qd qa = some y) :
    patchedO g (chDrop pd pa qd qa) (chAdd pd pa qd qa) = some y := by
  have hok : patchOk (chDrop pd pa qd qa) (chAdd pd pa qd qa) = true := by rw [chain_ok hc, decide_eq_true h1, decide_eq_true h2]; rfl
  obtain ⟨c1, _, c3, _⟩ := hc
  have p := anyT_no.1 (patchOk_iff.1 c1).2.2
  have c3 := anyT_no.1 c3
  obtain ⟨x1, _, x3, x4, _, _⟩ := patchedO_some hx
  obtain ⟨_, _, y3, y4, _, y6⟩ := patchedO_some hy
  have mx := patched_mem hx
  have my := patched_mem hy
  have md : ∀ t, t ∈ chDrop pd pa qd qa ↔ (t ∈ pd ∧ ¬ t ∈ qa) ∨ (t ∈ qd ∧ ¬ t ∈ pa) := fun t => by unfold chDrop; rw [unionT_mem, outT_mem, outT_mem]
  have ma : ∀ t, t ∈ chAdd pd pa qd qa ↔ (t ∈ pa ∧ ¬ t ∈ qd) ∨ (t ∈ qa ∧ ¬ t ∈ pd) := fun t => by unfold chAdd; rw [unionT_mem, outT_mem, outT_mem]
  refine patched_is x1 hok (fun t ht => ?_) (fun t ht hta => ?_) y6 fun t => ?_
  · rcases (md t).1 ht with ⟨a1, _⟩ | ⟨a1, a2⟩
    · exact x3 t a1
    · rcases (mx t).1 (y3 t a1) with ⟨b, _⟩ | b
      · exact b
      · exact absurd b a2
  · rcases (ma t).1 hta with ⟨a1, _⟩ | ⟨a1, a2⟩
    · exact x4 t ht a1
    · exact y4 t ((mx t).2 (.inl ⟨ht, a2⟩)) a1
  · have p := p t
    have c3 := c3 t
    have x3 := x3 t
    have x4 := x4 t
    rw [my, mx, md, ma]
    clear my mx md ma
    generalize (t ∈ g) = G at *
    generalize (t ∈ pd) = PD at *
    generalize (t ∈ pa) = PA at *
    generalize (t ∈ qd) = QD at *
    generalize (t ∈ qa) = QA at *
    clear hy hx hok
    grind
end Go.Proofs.YtofkploffcplhaaGreat
