/- SpecL, the rest. -/
import Derived.Test.YtmklnkogmidkdaaG16
import Derived.Test.YtmklnkogmidkdaaG14
import Derived.Test.YtmklnkogmidkdaaG01
import Derived.Test.YtmklnkogmidkdaaG00
import Derived.WalkSpells
import Derived.WalkLawsBesides
import Derived.Outline
import Derived.Lib.Hide
import Derived.Deep.QuietTactic
import Derived.BigQuiet
import Derived.Maps.AppendAt
import Derived.Deep.RegionWith
import Derived.IntWalk
import Derived.RegionTactic
namespace Go.Proofs.Ytmklnkogmidkdaa
open Go.RowKit Go.WideShapes
theorem lessT_snoc (g : List Tri3) (t u : Tri3) : lessT (g ++ [u]) t = if u = t then lessT g t else lessT g t ++ [u] := by
  unfold lessT
  rw [List.filter_append]
  by_cases h : u = t <;> simp [h]
set_option maxRecDepth 100000 in
set_option maxHeartbeats 1600000 in
theorem specLess (a : Option Addr) (len cap : Nat) (ts : List Tri3) (s p o : ByteArray) (w : World) (h : IsTris w a len cap ts) (hl : len ≤ 1048576) :
    Calls Try.prog 54 #[.slice a len cap, .agg #[.string s, .string p, .string o]] w fun e w' => ∃ v, e = .returned v ∧ OwnT w.heap.size w' v (lessT ts (s, p, o)) ∧ Below w.heap.size w w' := by
  obtain ⟨i0, hi, hz0, hz1, hz2⟩ := info_parts infoTri
  have H := Lib.hid h
  have HT := Lib.hid h.len
  have B0 := ((Below.refl w.heap.size w).alloc (Nat.le_refl _) (.cells #[.string s, .string p, .string o] 26)).alloc (by simp) (.cells #[] 26)
  have X0 := (Box.new w (.string s) (.string p) (.string o) 26).alloc (.cells #[] 26)
  have O0 : OwnT (w.heap.size + 1) ((w.alloc (.cells #[.string s, .string p, .string o] 26)).alloc (.cells #[] 26)) (.slice (some ⟨w.heap.size + 1, 0, none⟩) 0 0) [] := by
    have := World.ownsRow_lit (size := 3) (e := 26) (w.alloc (.cells #[.string s, .string p, .string o] 26)) #[] 0 (Nat.le_refl _) (by decide) rfl
    rw [World.size_alloc] at this
    exact this
  clear h
  go_enter Try.func54, Try.ntmps54
  go_wp2_with fail
  go_loopw [5, 6] (fun v' i wr => ∃ (k : Nat) (v : Value), k ≤ len ∧ i = .int .i64 k ∧ v = v' ∧ Hid (OwnT (w.heap.size + 1) wr v (lessT (ts.take k) (s, p, o))) ∧ Hid (Box wr w.heap.size (.string s) (.string p) (.string o) 26) ∧ Below w.heap.size w wr) (fun _ i _ => len - (intOf i).toNat)
  case atStart => exact ⟨0, _, Nat.zero_le _, rfl, rfl, Lib.hid (by simpa [lessT] using O0), Lib.hid X0, B0⟩
  case round =>
    obtain ⟨k, v, hk, rfl, rfl, hown, hbox, hnx⟩ := hrel
    clear X0 B0 O0
    have hk6 : (0 : Int) ≤ (k : Int) := by omega
    have hk8 : k ≤ 1048576 := by omega
    by_cases hlt : k < len
    · have hk7 : (k : Int) < (len : Int) := by omega
      obtain ⟨b, off, rfl, hb, hl', hm, hts, hcs⟩ := H.out.cells (by omega)
      have ht : ts[k]? = some (ts[k]'(by omega)) := List.getElem?_eq_getElem (by omega)
      have HS : Hid (ts.take (k + 1) = ts.take k ++ [ts[k]'(by omega)]) := Lib.hid (List.take_succ_eq_append_getElem (by omega))
      obtain ⟨d0, d1, d2, m0, m1, m2⟩ := hcs k _ ht
      rw [← hnx.cell (p := ⟨b, _, none⟩) hb] at d0 d1 d2
      generalize ts[k]'(by omega) = u at ht d0 d1 d2 m0 m1 m2 HS
      obtain ⟨c0, c1, c2⟩ := hbox.out.cells
      have hll : (lessT (ts.take k) (s, p, o)).length ≤ k := Nat.le_trans (lessT_len _ _) (by rw [List.length_take]; omega)
      by_cases he : u = (s, p, o)
      · subst he
        have EQ := tri_same s p o
        have HN : Hid (lessT (ts.take (k + 1)) (s, p, o) = lessT (ts.take k) (s, p, o)) := Lib.hid (by rw [HS.out, lessT_snoc, if_pos rfl])
        have HB : Hid (∀ n, Below w.heap.size w (wr.drewN n)) := Lib.hid (fun n => below_drewN hnx n)
        have X1 : Hid (∀ n, Box (wr.drewN n) w.heap.size (.string s) (.string p) (.string o) 26) := Lib.hid (fun n => hbox.out)
        have O1 : Hid (∀ n, OwnT (w.heap.size + 1) (wr.drewN n) v (lessT (ts.take (k + 1)) (s, p, o))) := Lib.hid (fun n => by rw [HN.out]; exact hown.out)
        simp only at d0 d1 d2
        clear ht hts hcs hm m0 m1 m2 hl' HS hown HN hll
        go_wp2_with fail
        go_quiet (fail)
        clear EQ
        go_wp2_with fail
        go_roundw
        case rel => exact ⟨k + 1, _, by omega, by go_num, rfl, Lib.hid (O1.out _), Lib.hid (X1.out _), HB.out _⟩
        case measure => simp [intOf]; omega
      · have EQ : ∀ w, (binOp .neq 26 (.agg #[.string u.1, .string u.2.1, .string u.2.2]) (.agg #[.string s, .string p, .string o])).run Try.prog w = .ok (.bool true) w := fun w => by rw [tri_ne, tri_not he]; rfl
        have HN : Hid (lessT (ts.take (k + 1)) (s, p, o) = lessT (ts.take k) (s, p, o) ++ [u]) := Lib.hid (by rw [HS.out, lessT_snoc, if_neg he])
        have BQ : Hid (∀ n, Below w.heap.size w (wr.drewN n)) := Lib.hid (fun n => below_drewN hnx n)
        have XQ : Hid (∀ n, Box (wr.drewN n) w.heap.size (.string s) (.string p) (.string o) 26) := Lib.hid (fun n => hbox.out)
        have OQ : Hid (∀ n, OwnT (w.heap.size + 1) (wr.drewN n) v (lessT (ts.take k) (s, p, o))) := Lib.hid (fun n => hown.out)
        have DQ := Lib.hid (And.intro d0 (And.intro d1 d2))
        obtain ⟨pl, hpl⟩ : ∃ l, lessT (ts.take k) (s, p, o) = l := ⟨_, rfl⟩
        rw [hpl] at HN OQ hll
        clear ht hts hcs hm m0 m1 m2 hl' HS hown he hbox hnx hpl
        go_wp2_with fail
        go_quiet (fail)
        clear EQ c0 c1 c2 d0 d1 d2
        have BE := BQ.out nq
        have XE := XQ.out nq
        have OE := OQ.out nq
        have DE : (wr.drewN nq).cell? ⟨b, off + k * 3, none⟩ = some (.string u.1) ∧ (wr.drewN nq).cell? ⟨b, off + k * 3 + 1, none⟩ = some (.string u.2.1) ∧ (wr.drewN nq).cell? ⟨b, off + k * 3 + 2, none⟩ = some (.string u.2.2) := DQ.out
        clear BQ XQ OQ DQ
        generalize wr.drewN nq = we at BE XE OE DE ⊢
        obtain ⟨d0, d1, d2⟩ := DE
        have hcl : w.heap.size < we.heap.size := XE.lt
        have hne := fun j hj => (World.ownsRow.lt OE j hj).1
        have HC : ∀ (j : Nat) (x : Value), [Value.string u.1, .string u.2.1, .string u.2.2][j]? = some x → (we.alloc (.cells #[.string u.1, .string u.2.1, .string u.2.2] 26)).cell? ((⟨we.heap.size, 0, none⟩ : Addr).add j) = some x := three_cell
        have HH := Lib.hid HC
        have BA := BE.alloc BE.size (.cells #[.string u.1, .string u.2.1, .string u.2.2] 26)
        have XA := XE.alloc (.cells #[.string u.1, .string u.2.1, .string u.2.2] 26)
        have OA := Lib.hid (World.ownsRow.alloc OE (.cells #[.string u.1, .string u.2.1, .string u.2.2] 26))
        clear HC BE XE OE
        go_wp2_with (at_builtin; refine wpList_append_own _ rfl _ _ 24 rfl (w.heap.size + 1) 26 i0 (.agg #[.string ⟨#[]⟩, .string ⟨#[]⟩, .string ⟨#[]⟩]) 3 48 Try.underlying24 hi hz0 hz1 hz2 rfl (by decide) _ _ _ rfl OA.out ⟨we.heap.size, 0, none⟩ 1 _ [.string u.1, .string u.2.1, .string u.2.2] rfl rfl HH.out (by first | exact flat_one _ | (intro x hx; simp at hx; rcases hx with rfl | rfl | rfl <;> rfl)) ?h63a ?h48a ?hbsa ?_)
        case h63a => unfold maxLen; omega
        case h48a => omega
        case hbsa => simp only [World.size_alloc]; omega
        intro v2 w2 hown2 hg2 _
        have O2 : OwnT (w.heap.size + 1) w2 v2 (lessT (ts.take (k + 1)) (s, p, o)) := by rw [HN.out]; exact own3_snoc (t := u) hown2
        have B2 : Below w.heap.size w w2 := BA.grown hg2 BA.size (fun j hj => by have := hne j hj; omega)
        have X2 := XA.grown hg2 (by intro e; have := hne _ e.symm; omega)
        have HO2 := Lib.hid O2
        have HX2 := Lib.hid X2
        clear hown2 hg2 OA HH BA XA O2 X2 d0 d1 d2
        go_wp2_with fail
        go_roundw
        case rel => exact ⟨k + 1, _, by omega, by go_num, rfl, HO2, HX2, B2⟩
        case measure => simp [intOf]; omega
    · obtain rfl : k = len := by omega
      have HO : Hid (OwnT (w.heap.size + 1) wr v (lessT ts (s, p, o))) := Lib.hid (by
        have := hown.out
        rwa [List.take_of_length_le (by rw [HT.out]; exact Nat.le_refl _)] at this)
      clear hown
      go_wp2_with fail
      go_ret
      exact ⟨v, rfl, own_base HO.out (by omega), hnx⟩
open Go.RowKit Go.WideShapes
set_option maxRecDepth 100000 in
set_option maxHeartbeats 1600000 in
theorem specUnionL (a b : Option Addr) (la ca lb cb : Nat) (ts us : List Tri3) (w : World) (h : IsTris w a la ca ts) (hp : Plain a) (k : IsTris w b lb cb us) (hla : la ≤ 80) (hlb : lb ≤ 80) :
    Calls Try.prog 55 #[.slice a la ca, .slice b lb cb] w fun e w' => ∃ v, e = .returned v ∧ OwnT w.heap.size w' v (unionT ts us) ∧ Below w.heap.size w w' := by
  obtain ⟨i0, hi, hz0, hz1, hz2⟩ := info_parts infoTri
  have HS : Hid (∀ us' : List Tri3, (∀ u ∈ us', u ∈ us) → ∀ t ∈ unionT ts us', t.1.size ≤ maxLen ∧ t.2.1.size ≤ maxLen ∧ t.2.2.size ≤ maxLen) := Lib.hid (fun us' hu t ht => by
    rcases unionT_mem.1 ht with g | g
    · exact h.small t g
    · exact k.small t (hu t g))
  have HL := Lib.hid h.len
  have KL := Lib.hid k.len
  have K := Lib.hid k
  have O0 : OwnT w.heap.size (w.alloc (.cells #[] 26)) (.slice (some ⟨w.heap.size, 0, none⟩) 0 0) [] := World.ownsRow_lit (size := 3) (e := 26) w #[] 0 (Nat.le_refl _) (by decide) rfl
  have BA := (Below.refl w.heap.size w).alloc (Nat.le_refl _) (.cells #[] 26)
  have hA := h.next BA
  have HO := Lib.hid O0
  clear k O0 h
  have main : ∀ (v : Value) (w1 : World), OwnT w.heap.size w1 v ts → Below w.heap.size w w1 → True := fun _ _ _ _ => trivial
  clear main
  rcases hp with rfl | ⟨bb, off, rfl⟩
  · rcases hA with ⟨_, rfl, rfl, rfl⟩ | ⟨x, hx, _⟩
    rotate_left
    · cases hx
    go_enter Try.func55, Try.ntmps55
    go_wp2_with (at_builtin; refine wpList_append_own_none rfl _ _ 24 rfl w.heap.size 26 i0 3 Try.underlying24 hi _ _ _ rfl HO.out rfl ?_)
    go_wp2_with fail
    have O1 := HO.out
    have B1 := BA
    go_loopw [5, 6] (fun v' i wr => ∃ (j : Nat) (v : Value), j ≤ lb ∧ i = .int .i64 j ∧ v = v' ∧ Hid (OwnT w.heap.size wr v (unionT ([] : List Tri3) (us.take j))) ∧ Below w.heap.size w wr) (fun _ i _ => lb - (intOf i).toNat)
    case atStart => exact ⟨0, _, Nat.zero_le _, rfl, rfl, Lib.hid (by simpa [unionT] using O1), B1⟩
    case round =>
      obtain ⟨j, v, hj, rfl, rfl, hown, hnx⟩ := hrel
      clear O1 B1 BA
      have hj6 : (0 : Int) ≤ (j : Int) := by omega
      by_cases hlt : j < lb
      · have hj7 : (j : Int) < (lb : Int) := by omega
        obtain ⟨b', off', rfl, hb, hl', hm, hts, hcs⟩ := K.out.cells (by omega)
        have ht : us[j]? = some (us[j]'(by omega)) := List.getElem?_eq_getElem (by omega)
        have HT : Hid (us.take (j + 1) = us.take j ++ [us[j]'(by omega)]) := Lib.hid (List.take_succ_eq_append_getElem (by omega))
        obtain ⟨d0, d1, d2, m0, m1, m2⟩ := hcs j _ ht
        rw [← hnx.cell (p := ⟨b', _, none⟩) hb] at d0 d1 d2
        generalize us[j]'(by omega) = u at ht d0 d1 d2 m0 m1 m2 HT
        obtain ⟨u0, u1, u2⟩ := u
        simp only at d0 d1 d2
        have HN : Hid (unionT ([] : List Tri3) (us.take (j + 1)) = putT (unionT ([] : List Tri3) (us.take j)) (u0, u1, u2)) := Lib.hid (by rw [HT.out, unionT_snoc])
        obtain ⟨xv, yv, rfl, iv, pv⟩ := OwnT.plain hown.out (HS.out _ (fun u hu => List.mem_of_mem_take hu))
        have hul := unionT_len (us.take j) ([] : List Tri3)
        rw [List.length_take, List.length_nil] at hul
        have C := specPutAny xv _ yv _ u0 u1 u2 wr iv pv (by omega)
        obtain ⟨uj, huj⟩ : ∃ l, unionT ([] : List Tri3) (us.take j) = l := ⟨_, rfl⟩
        rw [huj] at C HN ⊢
        have HC := Lib.hid C
        clear C iv pv hown hul huj ht HT hts hcs hm m0 m1 m2 hl'
        go_wp2_with fail
        refine HC.out.mono ?_
        rintro e w2 ⟨v2, rfl, ho2, hb2⟩
        have O2 := Lib.hid (own_base ho2 hnx.size)
        rw [← HN.out] at O2
        have B2 := hnx.trans (hb2.mono hnx.size)
        clear ho2 hb2 HC HN d0 d1 d2
        go_wp2_with fail
        go_roundw
        case rel => exact ⟨j + 1, _, by omega, by go_num, rfl, O2, B2⟩
        case measure => simp [intOf]; omega
      · obtain rfl : j = lb := by omega
        have HO2 : Hid (OwnT w.heap.size wr v (unionT ([] : List Tri3) us)) := Lib.hid (by
          have := hown.out
          rwa [List.take_of_length_le (by rw [KL.out]; exact Nat.le_refl _)] at this)
        clear hown
        go_wp2_with fail
        go_ret
        exact ⟨v, rfl, HO2.out, hnx⟩
  · have F1 := hA.front la
    rw [List.take_of_length_le (by rw [HL.out]; exact Nat.le_refl _)] at F1
    have HF1 := Lib.hid F1
    clear F1 hA
    go_enter Try.func55, Try.ntmps55
    go_wp2_with (at_builtin; refine wpList_append_own _ rfl _ _ 24 rfl w.heap.size 26 i0 (.agg #[.string ⟨#[]⟩, .string ⟨#[]⟩, .string ⟨#[]⟩]) 3 48 Try.underlying24 hi hz0 hz1 hz2 rfl (by decide) _ _ _ rfl HO.out ⟨bb, off, none⟩ la _ (flat ts) rfl (by rw [flat_len, HL.out]) HF1.out (by first | exact flat_one _ | (intro x hx; simp at hx; rcases hx with rfl | rfl | rfl <;> rfl)) ?h63a ?h48a ?hbsa ?_)
    case h63a => rw [List.length_nil]; unfold maxLen; omega
    case h48a => rw [List.length_nil]; omega
    case hbsa => simp only [World.size_alloc]; omega
    intro v1 w1 hown1 hg1 _
    have O1 : OwnT w.heap.size w1 v1 ts := by unfold OwnT; rw [HL.out]; simpa [show flat ([] : List Tri3) = [] from rfl] using hown1
    have B1 : Below w.heap.size w w1 := BA.grown hg1 BA.size (fun j hj => by simp [Value.ownBlock] at hj; omega)
    clear hown1 hg1 HO HF1
    go_wp2_with fail
    go_loopw [5, 6] (fun v' i wr => ∃ (j : Nat) (v : Value), j ≤ lb ∧ i = .int .i64 j ∧ v = v' ∧ Hid (OwnT w.heap.size wr v (unionT ts (us.take j))) ∧ Below w.heap.size w wr) (fun _ i _ => lb - (intOf i).toNat)
    case atStart => exact ⟨0, _, Nat.zero_le _, rfl, rfl, Lib.hid (by simpa [unionT] using O1), B1⟩
    case round =>
      obtain ⟨j, v, hj, rfl, rfl, hown, hnx⟩ := hrel
      clear O1 B1 BA
      have hj6 : (0 : Int) ≤ (j : Int) := by omega
      by_cases hlt : j < lb
      · have hj7 : (j : Int) < (lb : Int) := by omega
        obtain ⟨b', off', rfl, hb, hl', hm, hts, hcs⟩ := K.out.cells (by omega)
        have ht : us[j]? = some (us[j]'(by omega)) := List.getElem?_eq_getElem (by omega)
        have HT : Hid (us.take (j + 1) = us.take j ++ [us[j]'(by omega)]) := Lib.hid (List.take_succ_eq_append_getElem (by omega))
        obtain ⟨d0, d1, d2, m0, m1, m2⟩ := hcs j _ ht
        rw [← hnx.cell (p := ⟨b', _, none⟩) hb] at d0 d1 d2
        generalize us[j]'(by omega) = u at ht d0 d1 d2 m0 m1 m2 HT
        obtain ⟨u0, u1, u2⟩ := u
        simp only at d0 d1 d2
        have HN : Hid (unionT ts (us.take (j + 1)) = putT (unionT ts (us.take j)) (u0, u1, u2)) := Lib.hid (by rw [HT.out, unionT_snoc])
        obtain ⟨xv, yv, rfl, iv, pv⟩ := OwnT.plain hown.out (HS.out _ (fun u hu => List.mem_of_mem_take hu))
        have hul := unionT_len (us.take j) ts
        rw [HL.out, List.length_take] at hul
        have C := specPutAny xv _ yv _ u0 u1 u2 wr iv pv (by omega)
        obtain ⟨uj, huj⟩ : ∃ l, unionT ts (us.take j) = l := ⟨_, rfl⟩
        rw [huj] at C HN ⊢
        have HC := Lib.hid C
        clear C iv pv hown hul huj ht HT hts hcs hm m0 m1 m2 hl'
        go_wp2_with fail
        refine HC.out.mono ?_
        rintro e w2 ⟨v2, rfl, ho2, hb2⟩
        have O2 := Lib.hid (own_base ho2 hnx.size)
        rw [← HN.out] at O2
        have B2 := hnx.trans (hb2.mono hnx.size)
        clear ho2 hb2 HC HN d0 d1 d2
        go_wp2_with fail
        go_roundw
        case rel => exact ⟨j + 1, _, by omega, by go_num, rfl, O2, B2⟩
        case measure => simp [intOf]; omega
      · obtain rfl : j = lb := by omega
        have HO2 : Hid (OwnT w.heap.size wr v (unionT ts us)) := Lib.hid (by
          have := hown.out
          rwa [List.take_of_length_le (by rw [KL.out]; exact Nat.le_refl _)] at this)
        clear hown
        go_wp2_with fail
        go_ret
        exact ⟨v, rfl, HO2.out, hnx⟩
set_option maxRecDepth 100000 in
set_option maxHeartbeats 1600000 in
theorem specUnion (a b : Option Addr) (la ca lb cb : Nat) (ts us : List Tri3) (w : World) (h : IsTris w a la ca ts) (hp : Plain a) (k : IsTris w b lb cb us) (hsm : Sm ts) (ksm : Sm us) :
    Calls Try.prog 26 #[.slice a la ca, .slice b lb cb] w (ResPost (unionO ts us) w) := by
  have A1 := specGraphOk a la ca ts w h hsm
  cases hg : graphOk ts
  · rw [hg] at A1
    have HR : Hid (unionO ts us = none) := Lib.hid (by unfold unionO; rw [hg]; simp)
    have C1 := Lib.hid A1
    clear A1 hg h hsm k ksm
    go_enter Try.func26, Try.ntmps26
    go_wp2_with fail
    refine C1.out.mono ?_
    rintro e w1 ⟨rfl, hb1⟩
    go_wp2_with fail
    go_ret2
    rw [HR.out]
    exact ResPost.no hb1
  rw [hg] at A1
  have C1 := Lib.hid A1
  cases kg : graphOk us
  · have HR : Hid (unionO ts us = none) := Lib.hid (by unfold unionO; rw [kg]; simp)
    have HK := Lib.hid kg
    clear A1 hg kg h hsm
    go_enter Try.func26, Try.ntmps26
    go_wp2_with fail
    refine C1.out.mono ?_
    rintro e w1 ⟨rfl, hb1⟩
    have A2 := specGraphOk b lb cb us w1 (k.next hb1) ksm
    rw [HK.out] at A2
    have C2 := Lib.hid A2
    clear A2 k ksm
    go_wp2_with fail
    refine C2.out.mono ?_
    rintro e w2 ⟨rfl, hb2⟩
    go_wp2_with fail
    go_ret2
    rw [HR.out]
    exact ResPost.no (hb1.trans (hb2.mono hb1.size))
  have HK := Lib.hid kg
  have hla : la ≤ 80 := by have := graphOk_len hg; have := h.len; omega
  have hlb : lb ≤ 80 := by have := graphOk_len kg; have := k.len; omega
  have hlu := unionT_len us ts
  have hlh := h.len
  have hlk := k.len
  have HY : Hid ((unionT ts us).length ≤ 80 → unionO ts us = some (unionT ts us)) := Lib.hid (fun c => by unfold unionO; rw [if_pos ⟨hg, kg, c⟩])
  have HN : Hid (¬ (unionT ts us).length ≤ 80 → unionO ts us = none) := Lib.hid (fun c => by unfold unionO; rw [if_neg (fun h => c h.2.2)])
  have hlu2 : (unionT ts us).length ≤ 160 := by omega
  have HP := Lib.hid hp
  clear A1 hg kg hsm hlu hlh hlk hp
  go_enter Try.func26, Try.ntmps26
  go_wp2_with fail
  refine C1.out.mono ?_
  rintro e w1 ⟨rfl, hb1⟩
  have A2 := specGraphOk b lb cb us w1 (k.next hb1) ksm
  rw [HK.out] at A2
  have C2 := Lib.hid A2
  have h1 := h.next hb1
  have k1 := k.next hb1
  clear A2 h k ksm
  go_wp2_with fail
  refine C2.out.mono ?_
  rintro e w2 ⟨rfl, hb2⟩
  have h2 := h1.next hb2
  have k2 := k1.next hb2
  have B2 := hb1.trans (hb2.mono hb1.size)
  clear hb1 hb2 h1 k1
  have U := Lib.hid (specUnionL a b la ca lb cb ts us w2 h2 HP.out k2 hla hlb)
  clear h2 k2
  go_wp2_with fail
  refine U.out.mono ?_
  rintro e w3 ⟨v, rfl, ho, hb3⟩
  have O3 := own_base ho B2.size
  have B3 := B2.trans (hb3.mono B2.size)
  obtain ⟨uu, huu⟩ : ∃ l, unionT ts us = l := ⟨_, rfl⟩
  rw [huu] at O3 HY HN hlu2
  obtain ⟨x, y, rfl⟩ : ∃ x y, v = .slice x uu.length y := by
    rcases O3.2 with ⟨rfl, e⟩ | ⟨g, c, cur, rfl, _⟩
    · exact ⟨none, 0, by rw [e]⟩
    · exact ⟨_, _, rfl⟩
  have HO := Lib.hid O3
  clear ho hb3 O3 U huu
  by_cases c : (80 : Int) < (uu.length : Int)
  · have HR := Lib.hid (HN.out (by omega))
    clear HY HN
    go_wp2_with fail
    go_ret2
    rw [HR.out]
    exact ResPost.no B3
  · have HR := Lib.hid (HY.out (by omega))
    clear HY HN
    go_wp2_with fail
    go_ret2
    rw [HR.out]
    exact ResPost.yes HO.out B3
set_option maxRecDepth 100000 in
set_option maxHeartbeats 1600000 in
theorem specWithout (a : Option Addr) (len cap : Nat) (ts : List Tri3) (s p o : ByteArray) (w : World) (h : IsTris w a len cap ts) (_hpl : Plain a) (hsm : Sm ts) (_hs : s.size ≤ 2097152) (_hp : p.size ≤ 2097152) (_ho : o.size ≤ 2097152) :
    Calls Try.prog 23 #[.slice a len cap, .agg #[.string s, .string p, .string o]] w (ResPost (withoutT ts (s, p, o)) w) := by
  have A1 := specGraphOk a len cap ts (w.alloc (.cells #[.string s, .string p, .string o] 26)) (h.next ((Below.refl w.heap.size w).alloc (Nat.le_refl _) _)) hsm
  have B0 := (Below.refl w.heap.size w).alloc (Nat.le_refl _) (.cells #[.string s, .string p, .string o] 26)
  have X0 := Box.new w (.string s) (.string p) (.string o) 26
  have h0 := h.next B0
  cases hg : graphOk ts
  · rw [hg] at A1
    have HR : Hid (withoutT ts (s, p, o) = none) := Lib.hid (by unfold withoutT; rw [hg]; simp)
    have C1 := Lib.hid A1
    clear A1 hg h h0 hsm X0
    go_enter Try.func23, Try.ntmps23
    go_wp2_with fail
    refine C1.out.mono ?_
    rintro e w1 ⟨rfl, hb1⟩
    go_wp2_with fail
    go_ret2
    rw [HR.out]
    exact ResPost.no (B0.trans (hb1.mono B0.size))
  rw [hg] at A1
  have hl := h.len
  have hl80 := graphOk_len hg
  have hlen : len ≤ 1048576 := by omega
  have C1 := Lib.hid A1
  have HY : Hid ((s, p, o) ∈ ts → withoutT ts (s, p, o) = some (lessT ts (s, p, o))) := Lib.hid (fun c => by unfold withoutT; rw [if_pos ⟨hg, c⟩])
  have HN : Hid ((s, p, o) ∉ ts → withoutT ts (s, p, o) = none) := Lib.hid (fun c => by unfold withoutT; rw [if_neg (fun h => c h.2)])
  have W1 : Hid (∀ w, IsTris w a len cap ts → Calls Try.prog 53 #[.slice a len cap, .agg #[.string s, .string p, .string o]] w fun e w' => e = .returned (.bool (decide ((s, p, o) ∈ ts))) ∧ Below w.heap.size w w') := Lib.hid (fun w h => specHas2 a len cap ts s p o w h hlen)
  have W2 : Hid (∀ w, IsTris w a len cap ts → Calls Try.prog 54 #[.slice a len cap, .agg #[.string s, .string p, .string o]] w fun e w' => ∃ v, e = .returned v ∧ OwnT w.heap.size w' v (lessT ts (s, p, o)) ∧ Below w.heap.size w w') := Lib.hid (fun w h => specLess a len cap ts s p o w h hlen)
  clear A1 hg h hsm hl hl80
  by_cases hin : (s, p, o) ∈ ts
  · have HR := Lib.hid (HY.out hin)
    rw [decide_eq_true hin] at W1
    clear HY HN hin
    go_enter Try.func23, Try.ntmps23
    go_wp2_with fail
    refine C1.out.mono ?_
    rintro e w1 ⟨rfl, hb1⟩
    have X1 := X0.next hb1
    have h1 := h0.next hb1
    obtain ⟨c0, c1, c2⟩ := X1.cells
    have B1 := B0.trans (hb1.mono B0.size)
    clear X0 hb1 B0 h0
    go_wp2_with fail
    refine (W1.out _ h1).mono ?_
    rintro e w2 ⟨rfl, hb2⟩
    have X2 := X1.next hb2
    have h2 := h1.next hb2
    have B2 := B1.trans (hb2.mono B1.size)
    clear X1 hb2 B1 h1 c0 c1 c2
    obtain ⟨c0, c1, c2⟩ := X2.cells
    go_wp2_with fail
    refine (W2.out _ h2).mono ?_
    rintro e w3 ⟨v, rfl, ho3, hb3⟩
    have O3 := Lib.hid (own_base ho3 B2.size)
    have B3 := B2.trans (hb3.mono B2.size)
    clear ho3 hb3 h2 X2 c0 c1 c2 W1 W2
    go_wp2_with fail
    go_ret2
    rw [HR.out]
    exact ResPost.yes O3.out B3
  · have HR := Lib.hid (HN.out hin)
    rw [decide_eq_false hin] at W1
    clear HY HN hin W2
    go_enter Try.func23, Try.ntmps23
    go_wp2_with fail
    refine C1.out.mono ?_
    rintro e w1 ⟨rfl, hb1⟩
    have X1 := X0.next hb1
    have h1 := h0.next hb1
    obtain ⟨c0, c1, c2⟩ := X1.cells
    have B1 := B0.trans (hb1.mono B0.size)
    clear X0 hb1 B0 h0
    go_wp2_with fail
    refine (W1.out _ h1).mono ?_
    rintro e w2 ⟨rfl, hb2⟩
    go_wp2_with fail
    go_ret2
    rw [HR.out]
    exact ResPost.no (B1.trans (hb2.mono B1.size))
end Go.Proofs.Ytmklnkogmidkdaa
/- WithI, the rest. -/
namespace Go.Proofs.Ytmklnkogmidkdaa
open Go.RowKit Go.WideShapes Go.Maps
set_option maxRecDepth 100000 in
set_option maxHeartbeats 800000 in
theorem implGraphOf (b m : Nat) (ts : List Tri3) (w : World) (h : OwnSet w b m ts) (hm : m ≤ 1001) :
    Calls Try.prog 48 #[.map (some b)] w (ResPost (ofSet ts) w) := by
  have hle := h.size_le
  have C := Lib.hid (implInOrder b m ts w h (by omega))
  have H := Lib.hid h
  clear h
  by_cases g : (80 : Int) < (ts.length : Int)
  · have HR : Hid (ofSet ts = none) := Lib.hid (by unfold ofSet; rw [if_neg (by omega)])
    go_enter Try.func48, Try.ntmps48
    go_wp2_with (at_len; refine wpList_count _ rfl _ rfl b m ts rfl H.out ?_)
    go_wp2_with fail
    go_ret2
    rw [HR.out]
    exact ResPost.no (Below.refl _ _)
  · have HR : Hid (ofSet ts = some (sortT ts)) := Lib.hid (by unfold ofSet; rw [if_pos (by omega)])
    go_enter Try.func48, Try.ntmps48
    go_wp2_with (at_len; refine wpList_count _ rfl _ rfl b m ts rfl H.out ?_)
    go_wp2_with fail
    refine C.out.mono ?_
    rintro e w1 ⟨v, rfl, ho, hb⟩
    go_wp2_with fail
    go_ret2
    rw [HR.out]
    exact ResPost.yes ho hb
set_option maxRecDepth 100000 in
set_option maxHeartbeats 1600000 in
theorem implWith (a : Option Addr) (len cap : Nat) (ts : List Tri3) (s p o : ByteArray) (w : World) (h : IsTris w a len cap ts) (hsm : Sm ts) (hs : s.size ≤ 2097152) (hp : p.size ≤ 2097152) (ho : o.size ≤ 2097152) :
    Calls Try.prog 15 #[.slice a len cap, .agg #[.string s, .string p, .string o]] w (ResPost (withT ts (s, p, o)) w) := by
  have A1 := implGraphOk a len cap ts (w.alloc (.cells #[.string s, .string p, .string o] 26)) (h.next ((Below.refl w.heap.size w).alloc (Nat.le_refl _) _)) hsm
  have A2 := implTripleOk s p o hs hp ho
  change ∀ w, Calls _ _ _ w fun e w' => e = .returned (.bool (okT (s, p, o))) ∧ Below w.heap.size w w' at A2
  have B0 := (Below.refl w.heap.size w).alloc (Nat.le_refl _) (.cells #[.string s, .string p, .string o] 26)
  have X0 := Box.new w (.string s) (.string p) (.string o) 26
  have h0 := h.next B0
  cases hg : graphOk ts
  · rw [hg] at A1
    have HR : Hid (withT ts (s, p, o) = none) := Lib.hid (by unfold withT; rw [hg]; simp)
    have C1 := Lib.hid A1
    clear A1 A2 hg h h0 hsm X0
    go_enter Try.func15, Try.ntmps15
    go_wp2_with fail
    refine C1.out.mono ?_
    rintro e w1 ⟨rfl, hb1⟩
    go_wp2_with fail
    go_ret2
    rw [HR.out]
    exact ResPost.no (B0.trans (hb1.mono B0.size))
  rw [hg] at A1
  cases ht : okT (s, p, o)
  · rw [ht] at A2
    have HR : Hid (withT ts (s, p, o) = none) := Lib.hid (by unfold withT; rw [ht]; simp)
    have C1 := Lib.hid A1
    have C2 := Lib.hid A2
    clear A1 A2 hg ht h h0 hsm
    go_enter Try.func15, Try.ntmps15
    go_wp2_with fail
    refine C1.out.mono ?_
    rintro e w1 ⟨rfl, hb1⟩
    have X1 := X0.next hb1
    obtain ⟨c0, c1, c2⟩ := X1.cells
    have B1 := B0.trans (hb1.mono B0.size)
    clear X0 hb1 B0
    go_wp2_with fail
    refine (C2.out _).mono ?_
    rintro e w2 ⟨rfl, hb2⟩
    go_wp2_with fail
    go_ret2
    rw [HR.out]
    exact ResPost.no (B1.trans (hb2.mono B1.size))
  rw [ht] at A2
  have hl := h.len
  have hl80 := graphOk_len hg
  have hall : (allT [(a, len, cap, ts)]).length ≤ 1000 := by rw [allT_one]; omega
  have HW : Hid (∀ us : List Tri3, us.Nodup → (∀ u, u ∈ us ↔ u ∈ ts ∨ u = (s, p, o)) → ofSet us = withT ts (s, p, o)) := Lib.hid (fun us hn hm => ofSet_with hg ht hn hm)
  have hsk : SmK (s, p, o) := ⟨by unfold maxLen; simp only; omega, by unfold maxLen; simp only; omega, by unfold maxLen; simp only; omega⟩
  have C1 := Lib.hid A1
  have C2 := Lib.hid A2
  have HALL := Lib.hid hall
  clear A1 A2 hg ht h hsm hl hl80 hall
  go_enter Try.func15, Try.ntmps15
  go_wp2_with fail
  refine C1.out.mono ?_
  rintro e w1 ⟨rfl, hb1⟩
  have X1 := X0.next hb1
  have h1 := h0.next hb1
  obtain ⟨c0, c1, c2⟩ := X1.cells
  have B1 := B0.trans (hb1.mono B0.size)
  clear X0 hb1 B0 h0
  go_wp2_with fail
  refine (C2.out _).mono ?_
  rintro e w2 ⟨rfl, hb2⟩
  have X2 := X1.next hb2
  have h2 := h1.next hb2
  have B2 := B1.trans (hb2.mono B1.size)
  clear X1 hb2 B1 h1 c0 c1 c2
  have T := implTripleSet w2.heap.size 1 [(a, len, cap, ts)] (w2.alloc (.cells #[.slice a len cap] 24)) rfl (by simp) (by omega) HALL.out (fun i x hx => by
    match i, hx with
    | 0, hx =>
      simp at hx; subst hx
      exact ⟨by simp, h2.next ((Below.refl w2.heap.size w2).alloc (Nat.le_refl _) _)⟩)
  rw [allT_one] at T
  have CT := Lib.hid T
  have B3 := B2.alloc B2.size (.cells #[.slice a len cap] 24)
  have X3 := X2.alloc (.cells #[.slice a len cap] 24)
  clear T h2 X2 B2
  go_wp2_with fail
  refine CT.out.mono ?_
  rintro e w4 ⟨b, m, rfl, hbb, hm, hown, hb4⟩
  have X4 := X3.next hb4
  obtain ⟨c0, c1, c2⟩ := X4.cells
  have B4 := B3.trans (hb4.mono B3.size)
  have hbl : w.heap.size ≤ b := Nat.le_trans B3.size hbb
  have H4 := Lib.hid hown
  have hml : m < maxLen := by unfold maxLen; omega
  clear hown hb4 X3 B3 CT
  go_wp2_with (at_mapUpdate; refine wpList_putG _ rfl _ _ _ rfl b m (addAll [] ts) rfl H4.out hml (s, p, o) hsk rfl rfl ?_)
  intro w5 hown5 hg5
  have B5 : Below w.heap.size w w5 := B4.grown hg5 B4.size (fun r e => by cases e; exact hbl)
  have G := implGraphOf b (m + 1) _ w5 hown5 (by omega)
  rw [HW.out _ hown5.nodup (fun u => by rw [addT_mem, addAll_mem]; simp)] at G
  have CG := Lib.hid G
  clear G hown5 hg5 H4 B4 c0 c1 c2 X4
  go_wp2_with fail
  refine CG.out.mono ?_
  rintro e w6 hr
  obtain ⟨v, rfl, hv⟩ := hr.far B5
  go_wp2_with fail
  go_ret2
  exact ⟨v, rfl, hv⟩
open Go.RowKit Go.WideShapes Go.Maps
theorem zeroB (w : World) : (zeroValue 4).run Try.prog w = .ok (.bool false) w := by kernel_rfl
set_option maxRecDepth 100000 in
set_option maxHeartbeats 1600000 in
theorem implWithout (a : Option Addr) (len cap : Nat) (ts : List Tri3) (s p o : ByteArray) (w : World) (h : IsTris w a len cap ts) (hsm : Sm ts) (hs : s.size ≤ 2097152) (hp : p.size ≤ 2097152) (ho : o.size ≤ 2097152) :
    Calls Try.prog 18 #[.slice a len cap, .agg #[.string s, .string p, .string o]] w (ResPost (withoutT ts (s, p, o)) w) := by
  have A1 := implGraphOk a len cap ts (w.alloc (.cells #[.string s, .string p, .string o] 26)) (h.next ((Below.refl w.heap.size w).alloc (Nat.le_refl _) _)) hsm
  have A2 := implTripleOk s p o hs hp ho
  change ∀ w, Calls _ _ _ w fun e w' => e = .returned (.bool (okT (s, p, o))) ∧ Below w.heap.size w w' at A2
  have B0 := (Below.refl w.heap.size w).alloc (Nat.le_refl _) (.cells #[.string s, .string p, .string o] 26)
  have X0 := Box.new w (.string s) (.string p) (.string o) 26
  have h0 := h.next B0
  cases hg : graphOk ts
  · rw [hg] at A1
    have HR : Hid (withoutT ts (s, p, o) = none) := Lib.hid (by unfold withoutT; rw [hg]; simp)
    have C1 := Lib.hid A1
    clear A1 A2 hg h h0 hsm X0
    go_enter Try.func18, Try.ntmps18
    go_wp2_with fail
    refine C1.out.mono ?_
    rintro e w1 ⟨rfl, hb1⟩
    go_wp2_with fail
    go_ret2
    rw [HR.out]
    exact ResPost.no (B0.trans (hb1.mono B0.size))
  rw [hg] at A1
  cases ht : okT (s, p, o)
  · rw [ht] at A2
    have HR : Hid (withoutT ts (s, p, o) = none) := Lib.hid (by
      unfold withoutT
      rw [if_neg]
      rintro ⟨_, hm⟩
      rw [graphOk_okT hg _ hm] at ht
      cases ht)
    have C1 := Lib.hid A1
    have C2 := Lib.hid A2
    clear A1 A2 hg ht h h0 hsm
    go_enter Try.func18, Try.ntmps18
    go_wp2_with fail
    refine C1.out.mono ?_
    rintro e w1 ⟨rfl, hb1⟩
    have X1 := X0.next hb1
    obtain ⟨c0, c1, c2⟩ := X1.cells
    have B1 := B0.trans (hb1.mono B0.size)
    clear X0 hb1 B0
    go_wp2_with fail
    refine (C2.out _).mono ?_
    rintro e w2 ⟨rfl, hb2⟩
    go_wp2_with fail
    go_ret2
    rw [HR.out]
    exact ResPost.no (B1.trans (hb2.mono B1.size))
  rw [ht] at A2
  have hl := h.len
  have hl80 := graphOk_len hg
  have hall : (allT [(a, len, cap, ts)]).length ≤ 1000 := by rw [allT_one]; omega
  have HW : Hid ((s, p, o) ∈ ts → ∀ us : List Tri3, us.Nodup → (∀ u, u ∈ us ↔ u ≠ (s, p, o) ∧ u ∈ ts) → ofSet us = withoutT ts (s, p, o)) := Lib.hid (fun hin us hn hm => ofSet_without hg hin hn hm)
  have HN : Hid ((s, p, o) ∉ ts → withoutT ts (s, p, o) = none) := Lib.hid (fun hin => by unfold withoutT; rw [if_neg (fun h => hin h.2)])
  have hsk : SmK (s, p, o) := ⟨by unfold maxLen; simp only; omega, by unfold maxLen; simp only; omega, by unfold maxLen; simp only; omega⟩
  have C1 := Lib.hid A1
  have C2 := Lib.hid A2
  have HALL := Lib.hid hall
  have HZ := Lib.hid zeroB
  clear A1 A2 hg ht h hsm hl hl80 hall
  go_enter Try.func18, Try.ntmps18
  go_wp2_with fail
  refine C1.out.mono ?_
  rintro e w1 ⟨rfl, hb1⟩
  have X1 := X0.next hb1
  have h1 := h0.next hb1
  obtain ⟨c0, c1, c2⟩ := X1.cells
  have B1 := B0.trans (hb1.mono B0.size)
  clear X0 hb1 B0 h0
  go_wp2_with fail
  refine (C2.out _).mono ?_
  rintro e w2 ⟨rfl, hb2⟩
  have X2 := X1.next hb2
  have h2 := h1.next hb2
  have B2 := B1.trans (hb2.mono B1.size)
  clear X1 hb2 B1 h1 c0 c1 c2
  have T := implTripleSet w2.heap.size 1 [(a, len, cap, ts)] (w2.alloc (.cells #[.slice a len cap] 24)) rfl (by simp) (by omega) HALL.out (fun i x hx => by
    match i, hx with
    | 0, hx =>
      simp at hx; subst hx
      exact ⟨by simp, h2.next ((Below.refl w2.heap.size w2).alloc (Nat.le_refl _) _)⟩)
  rw [allT_one] at T
  have CT := Lib.hid T
  have B3 := B2.alloc B2.size (.cells #[.slice a len cap] 24)
  have X3 := X2.alloc (.cells #[.slice a len cap] 24)
  clear T h2 X2 B2
  go_wp2_with fail
  refine CT.out.mono ?_
  rintro e w4 ⟨b, m, rfl, hbb, hm, hown, hb4⟩
  have X4 := X3.next hb4
  obtain ⟨c0, c1, c2⟩ := X4.cells
  have B4 := B3.trans (hb4.mono B3.size)
  have hbl : w.heap.size ≤ b := Nat.le_trans B3.size hbb
  have H4 := Lib.hid hown
  clear hown hb4 X3 B3 CT
  by_cases hin : (s, p, o) ∈ ts
  · have hd : Hid (decide ((s, p, o) ∈ addAll [] ts) = true) := Lib.hid (decide_eq_true (addAll_mem.2 (.inr hin)))
    have HW2 := Lib.hid (HW.out hin)
    clear hin HW HN
    go_wp2_with (first
      | (at_lookup; refine wpList_lookG _ rfl _ _ rfl b m (addAll [] ts) rfl H4.out (s, p, o) hsk rfl (HZ.out _) ?_; rw [hd.out])
      | (at_delete; refine wpList_dropG _ rfl _ _ rfl b m (addAll [] ts) rfl H4.out (s, p, o) hsk rfl ?_))
    intro w5 hown5 hg5
    have B5 : Below w.heap.size w w5 := B4.grown hg5 B4.size (fun r e => by cases e; exact hbl)
    have G := implGraphOf b m _ w5 hown5 (by omega)
    rw [HW2.out _ hown5.nodup (fun u => by rw [lessT_mem, addAll_mem]; simp)] at G
    have CG := Lib.hid G
    clear G hown5 hg5 H4 B4 c0 c1 c2 X4
    go_wp2_with fail
    refine CG.out.mono ?_
    rintro e w6 hr
    obtain ⟨v, rfl, hv⟩ := hr.far B5
    go_wp2_with fail
    go_ret2
    exact ⟨v, rfl, hv⟩
  · have hd : Hid (decide ((s, p, o) ∈ addAll [] ts) = false) := Lib.hid (decide_eq_false (fun h => by
      rcases addAll_mem.1 h with h | h
      · simp at h
      · exact hin h))
    have HR := Lib.hid (HN.out hin)
    clear hin HW HN
    go_wp2_with (at_lookup; refine wpList_lookG _ rfl _ _ rfl b m (addAll [] ts) rfl H4.out (s, p, o) hsk rfl (HZ.out _) ?_; rw [hd.out])
    go_wp2_with fail
    go_ret2
    rw [HR.out]
    exact ResPost.no B4
theorem allT_two (a b : Option Addr) (la ca lb cb : Nat) (ts us : List Tri3) : allT [(a, la, ca, ts), (b, lb, cb, us)] = ts ++ us := by simp [allT]
set_option maxRecDepth 100000 in
set_option maxHeartbeats 1600000 in
theorem implUnion (a b : Option Addr) (la ca lb cb : Nat) (ts us : List Tri3) (w : World) (h : IsTris w a la ca ts) (k : IsTris w b lb cb us) (hsm : Sm ts) (ksm : Sm us) :
    Calls Try.prog 25 #[.slice a la ca, .slice b lb cb] w (ResPost (unionO ts us) w) := by
  have A1 := implGraphOk a la ca ts w h hsm
  cases hg : graphOk ts
  · rw [hg] at A1
    have HR : Hid (unionO ts us = none) := Lib.hid (by unfold unionO; rw [hg]; simp)
    have C1 := Lib.hid A1
    clear A1 hg h hsm k ksm
    go_enter Try.func25, Try.ntmps25
    go_wp2_with fail
    refine C1.out.mono ?_
    rintro e w1 ⟨rfl, hb1⟩
    go_wp2_with fail
    go_ret2
    rw [HR.out]
    exact ResPost.no hb1
  rw [hg] at A1
  have C1 := Lib.hid A1
  cases kg : graphOk us
  · have HR : Hid (unionO ts us = none) := Lib.hid (by unfold unionO; rw [kg]; simp)
    have HK := Lib.hid kg
    clear A1 hg kg h hsm
    go_enter Try.func25, Try.ntmps25
    go_wp2_with fail
    refine C1.out.mono ?_
    rintro e w1 ⟨rfl, hb1⟩
    have A2 := implGraphOk b lb cb us w1 (k.next hb1) ksm
    rw [HK.out] at A2
    have C2 := Lib.hid A2
    clear A2 k ksm
    go_wp2_with fail
    refine C2.out.mono ?_
    rintro e w2 ⟨rfl, hb2⟩
    go_wp2_with fail
    go_ret2
    rw [HR.out]
    exact ResPost.no (hb1.trans (hb2.mono hb1.size))
  have HK := Lib.hid kg
  have hall : (allT [(a, la, ca, ts), (b, lb, cb, us)]).length ≤ 1000 := by
    have := graphOk_len hg
    have := graphOk_len kg
    rw [allT_two, List.length_append]; omega
  have HW : Hid (∀ vs : List Tri3, vs.Nodup → (∀ u, u ∈ vs ↔ u ∈ ts ∨ u ∈ us) → ofSet vs = unionO ts us) := Lib.hid (fun vs hn hm => ofSet_union hg kg hn hm)
  have HALL := Lib.hid hall
  clear A1 hg kg hsm hall
  go_enter Try.func25, Try.ntmps25
  go_wp2_with fail
  refine C1.out.mono ?_
  rintro e w1 ⟨rfl, hb1⟩
  have A2 := implGraphOk b lb cb us w1 (k.next hb1) ksm
  rw [HK.out] at A2
  have C2 := Lib.hid A2
  have h1 := h.next hb1
  have k1 := k.next hb1
  clear A2 h k ksm
  go_wp2_with fail
  refine C2.out.mono ?_
  rintro e w2 ⟨rfl, hb2⟩
  have h2 := h1.next hb2
  have k2 := k1.next hb2
  have B2 := hb1.trans (hb2.mono hb1.size)
  clear hb1 hb2 h1 k1
  have T := implTripleSet w2.heap.size 2 [(a, la, ca, ts), (b, lb, cb, us)] (w2.alloc (.cells #[.slice a la ca, .slice b lb cb] 24)) rfl (by simp) (by omega) HALL.out (fun i x hx => by
    match i, hx with
    | 0, hx =>
      simp at hx; subst hx
      exact ⟨by simp, h2.next ((Below.refl w2.heap.size w2).alloc (Nat.le_refl _) _)⟩
    | 1, hx =>
      simp at hx; subst hx
      exact ⟨by simp, k2.next ((Below.refl w2.heap.size w2).alloc (Nat.le_refl _) _)⟩)
  rw [allT_two] at T
  have CT := Lib.hid T
  have B3 := B2.alloc B2.size (.cells #[.slice a la ca, .slice b lb cb] 24)
  clear T h2 k2 B2
  go_wp2_with fail
  refine CT.out.mono ?_
  rintro e w4 ⟨c, m, rfl, hbb, hm, hown, hb4⟩
  have B4 := B3.trans (hb4.mono B3.size)
  have G := implGraphOf c m _ w4 hown (by omega)
  rw [HW.out _ hown.nodup (fun u => by rw [addAll_mem]; simp)] at G
  have CG := Lib.hid G
  clear G hown hb4 B3 CT
  go_wp2_with fail
  refine CG.out.mono ?_
  rintro e w6 hr
  obtain ⟨v, rfl, hv⟩ := hr.far B4
  go_wp2_with fail
  go_ret2
  exact ⟨v, rfl, hv⟩
end Go.Proofs.Ytmklnkogmidkdaa
/- The contracts of the functions that escape. -/
namespace Go.Proofs.Ytmklnkogmidkdaa
open Go.RowKit
set_option maxHeartbeats 400000 in
theorem specEscaped (s : ByteArray) (w : World) (hs : s.size ≤ 2097152) :
    Calls Try.prog 77 #[.string s] w fun e w' => e = .returned (.string (bs (esc s.data.toList))) ∧ w = w' := by
  go_enter Try.func77, Try.ntmps77
  go_wp2
  go_loop [3, 4] (fun o i => ∃ k : Nat, k ≤ s.size ∧ i = .int .i64 k ∧ ∃ b : ByteArray, o = .string b ∧ b.size ≤ 2 * k ∧ Hid (b.data.toList = esc (s.data.toList.take k))) (fun _ i => s.size - (intOf i).toNat)
  case atStart => exact ⟨0, Nat.zero_le _, rfl, _, rfl, Nat.le_refl _, Lib.hid rfl⟩
  case round =>
    obtain ⟨k, hk, rfl, b, rfl, hbs, hb⟩ := hrel
    by_cases hlt : k < s.size
    · have HS : Hid (esc (s.data.toList.take (k + 1)) = b.data.toList ++ escB s[k]) := Lib.hid (by rw [take_snoc s k hlt, esc_snoc, hb.out])
      go_wp2
      all_goals
        go_round
        case rel => exact ⟨k + 1, by omega, by go_num, _, rfl, by simp [lit_size]; omega, Lib.hid (by rw [HS.out, app_toList, escB_b]; simp [*, drop_cons s k hlt])⟩
        case measure => simp [intOf]; omega
    · go_wp2
      go_ret
      exact ⟨by rw [bs_eq hb.out, take_all _ _ (by omega)]; rfl, rfl⟩
open Go.RowKit Go.WideShapes
/-- Block g holds a reader over bytes that lie below block B. -/
def Rd (B : Nat) (w : World) (g : Nat) : Prop := B ≤ g ∧ g < w.heap.size ∧ ∃ (a : Option Addr) (len cap : Nat) (zs : List Int) (p : Nat), Frame.IsRow .u8 w a len cap zs ∧ (∀ x, a = some x → 0 < zs.length → x.block < B) ∧
  w.cell? ⟨g, 0, none⟩ = some (.slice a len cap) ∧ w.cell? ⟨g, 1, none⟩ = some (.int .i64 p) ∧ p ≤ len ∧ len ≤ 9223372036854775807 ∧ w.frozen? ⟨g, 1, none⟩ = false
theorem isRow_keep {k : IntKind} {w w' : World} {a : Option Addr} {len cap : Nat} {zs : List Int} (h : Frame.IsRow k w a len cap zs) (hc : ∀ x, a = some x → 0 < zs.length → w'.heap[x.block]? = w.heap[x.block]?) : Frame.IsRow k w' a len cap zs := by
  rcases h with h | ⟨x, rfl, h1, h2, h3, h4, h5⟩
  · exact .inl h
  · refine .inr ⟨x, rfl, h1, h2, h3, fun i hi => ?_, h5⟩
    rw [← h4 i hi]
    refine World.cell?_of_block ?_
    have : (x.add i).block = x.block := by unfold Addr.add; split <;> rfl
    rw [this]
    exact hc x rfl (by omega)
/-- What is left as it was where another block, or none of old, was written. -/
theorem Rd.keep {B g : Nat} {w w' : World} (h : Rd B w g) (hs : w.heap.size ≤ w'.heap.size) (hg : w'.heap[g]? = w.heap[g]?) (hb : ∀ k, k < B → w'.heap[k]? = w.heap[k]?) : Rd B w' g := by
  obtain ⟨hB, hgs, a, len, cap, zs, p, hrow, hlt, hc0, hc1, hp, hlen, hfz⟩ := h
  refine ⟨hB, by omega, a, len, cap, zs, p, isRow_keep hrow fun x hx hz => hb _ (hlt x hx hz), hlt, ?_, ?_, hp, hlen, ?_⟩
  · rw [World.cell?_of_block (w := w) hg]; exact hc0
  · rw [World.cell?_of_block (w := w) hg]; exact hc1
  · rw [World.frozen?_of_block (w := w) hg]; exact hfz
theorem Rd.grown {B g : Nat} {w w' : World} {row : Option Nat} (h : Rd B w g) (hg : w.grownBy w' row) (hr : ∀ k, row = some k → B ≤ k ∧ k ≠ g) : Rd B w' g :=
  have h2 := h.1
  have h3 := h.2.1
  h.keep hg.size (hg.block g h3 fun e => (hr g e.symm).2 rfl) fun k hk => hg.block k (by omega) fun e => by have := (hr k e.symm).1; omega
theorem Rd.alloc {B g : Nat} {w : World} (h : Rd B w g) (o : Obj) : Rd B (w.alloc o) g := h.grown (World.grownBy_alloc w o none) (by simp)
theorem Rd.drewN {B g : Nat} {w : World} (h : Rd B w g) (n : Nat) : Rd B (w.drewN n) g := h.keep (Nat.le_refl _) rfl fun _ _ => rfl
theorem Rd.drew {B g : Nat} {w : World} (h : Rd B w g) : Rd B w.drew g := h.keep (Nat.le_refl _) rfl fun _ _ => rfl
theorem grownBy_drewN {w w' : World} {row : Option Nat} (h : w.grownBy w' row) (n : Nat) : w.grownBy (w'.drewN n) row := ⟨h.os, h.tape, h.output, h.size, h.block⟩
theorem grownBy_drew {w w' : World} {row : Option Nat} (h : w.grownBy w' row) : w.grownBy w'.drew row := ⟨h.os, h.tape, h.output, h.size, h.block⟩
theorem grownBy_set {w w' : World} {g : Nat} (h : w.grownBy w' (some g)) {a : Addr} (ha : a.block = g) (u : Value) : w.grownBy (w'.setCell a u) (some g) := by
  refine ⟨h.os, h.tape, h.output, by have := h.size; simp [World.setCell]; omega, fun k hk hne => ?_⟩
  rw [Below.heap_setCell _ _ _ _ (by intro e; exact hne (by rw [e, ha]))]
  exact h.block k hk hne
theorem rd_step {B g : Nat} {w : World} {a : Option Addr} {len cap p : Nat} {zs : List Int} (hB : B ≤ g) (hg : g < w.heap.size) (hrow : Frame.IsRow .u8 w a len cap zs) (hlt : ∀ x, a = some x → 0 < zs.length → x.block < B)
    (hc0 : w.cell? ⟨g, 0, none⟩ = some (.slice a len cap)) (hc1 : w.cell? ⟨g, 1, none⟩ = some (.int .i64 p)) (hp : p < len) (hlen : len ≤ 9223372036854775807) (hfz : w.frozen? ⟨g, 1, none⟩ = false) (n m : Nat) :
    Rd B (((w.drewN n).setCell ⟨g, 1, none⟩ (.int .i64 ((p : Int) + 1))).drewN m) g ∧ w.grownBy (((w.drewN n).setCell ⟨g, 1, none⟩ (.int .i64 ((p : Int) + 1))).drewN m) (some g) := by
  refine ⟨?_, grownBy_drewN (grownBy_set (grownBy_drewN (World.grownBy.refl _ _) _) rfl _) _⟩
  have H : ∀ k, k ≠ g → ((w.drewN n).setCell ⟨g, 1, none⟩ (.int .i64 ((p : Int) + 1))).heap[k]? = w.heap[k]? := fun k hk => Below.heap_setCell (w.drewN n) _ _ k hk
  refine Rd.drewN (w := (w.drewN n).setCell ⟨g, 1, none⟩ (.int .i64 ((p : Int) + 1))) ?_ m
  refine ⟨hB, by simpa [World.setCell] using hg, a, len, cap, zs, p + 1, isRow_keep hrow fun x hx hz => H _ (by have := hlt x hx hz; omega), hlt, ?_, ?_, hp, hlen, ?_⟩
  · rw [World.cell?_setCell_other _ _ _ _ (by simp)]; exact hc0
  · exact World.cell?_setCell_same (w.drewN n) _ _ (u := .int .i64 p) hc1
  · rw [World.frozen?_setCell]; exact hfz
set_option maxHeartbeats 800000 in
theorem rdNext (B g : Nat) (w : World) (h : Rd B w g) :
    Calls Try.prog 63 #[.pointer (some ⟨g, 0, none⟩)] w fun e w' => ∃ n : Nat, n < 256 ∧ e = .returned (.int .i64 n) ∧ Rd B w' g ∧ w.grownBy w' (some g) := by
  obtain ⟨hB, hg, a, len, cap, zs, p, hrow, hlt, hc0, hc1, hp, hlen, hfz⟩ := h
  by_cases hpl : p = len
  · subst hpl
    go_enter Try.func63, Try.ntmps63
    go_wp2
    go_quiet (fail)
    go_wp2
    go_ret
    exact ⟨0, by omega, rfl, Rd.drewN ⟨hB, hg, a, p, cap, zs, p, hrow, hlt, hc0, hc1, hp, hlen, hfz⟩ _, grownBy_drewN (World.grownBy.refl _ _) _⟩
  · have hpl' : (p : Int) < (len : Int) := by omega
    have hnn : ¬ ((len : Int) ≤ (p : Int)) := by omega
    obtain ⟨rfl, rfl, _, _⟩ | ⟨x, rfl, hlc, hcm, hzl, hcell, hwf⟩ := hrow
    · omega
    obtain ⟨xb, xo, xs⟩ := x
    have hcp := hcell p (by omega)
    obtain rfl : xs = none := by simpa [Addr.add] using World.cell?_spot (hcell 0 (by omega))
    have hxb : xb < B := hlt _ rfl (by omega)
    rw [add_plain] at hcp
    have hcp' : w.cell? ⟨xb, xo + p, none⟩ = some (.int .u8 (zs.getD p 0)) := hcp
    have hne : ¬ xb = g := by omega
    clear hcp
    have hz1 : 0 ≤ zs[p]?.getD 0 ∧ zs[p]?.getD 0 ≤ 255 := by
      have := hwf (zs.getD p 0) (by rw [List.getD, List.getElem?_eq_getElem (by omega)]; exact List.getElem_mem _)
      have := bounds_u8 this
      simpa using this
    obtain ⟨hz1, hz2⟩ := hz1
    have HR := Lib.hid (rd_step hB hg (.inr ⟨_, rfl, hlc, hcm, hzl, hcell, hwf⟩) hlt hc0 hc1 (by omega) hlen hfz)
    have HC := Lib.hid hcell; clear hcell
    have HW := Lib.hid hwf; clear hwf
    have HL := Lib.hid hlt; clear hlt
    have HZ := Lib.hid hzl; clear hzl
    go_enter Try.func63, Try.ntmps63
    go_wp2
    go_quiet (fail)
    go_wp2
    go_quiet (fail)
    go_wp2
    go_ret
    obtain ⟨n, hn⟩ := Int.eq_ofNat_of_zero_le hz1
    exact ⟨n, by omega, by rw [← hn]; simp, HR.out _ _⟩
set_option maxHeartbeats 800000 in
theorem rdBelow (B g : Nat) (w : World) (h : Rd B w g) (n : Int) (h1 : 1 ≤ n) (h2 : n ≤ 65536) :
    Calls Try.prog 44 #[.pointer (some ⟨g, 0, none⟩), .int .i64 n] w fun e w' => ∃ m : Int, 0 ≤ m ∧ m < n ∧ e = .returned (.int .i64 m) ∧ Rd B w' g ∧ w.grownBy w' (some g) := by
  by_cases c1 : n ≤ 1
  · go_enter Try.func44, Try.ntmps44
    go_wp2_with fail
    go_ret
    exact ⟨0, by omega, by omega, rfl, h, World.grownBy.refl _ _⟩
  by_cases c2 : n ≤ 256
  · go_enter Try.func44, Try.ntmps44
    go_wp2_with fail
    refine (rdNext B g _ h).mono ?_
    rintro e w1 ⟨x, hx, rfl, hr, hg⟩
    go_wp2_with fail
    go_ret
    exact ⟨x % n, Int.emod_nonneg _ (by omega), Int.emod_lt_of_pos _ (by omega), rfl, hr, hg⟩
  · go_enter Try.func44, Try.ntmps44
    go_wp2_with fail
    refine (rdNext B g _ h).mono ?_
    rintro e w1 ⟨x, hx, rfl, hr, hg⟩
    go_wp2_with fail
    refine (rdNext B g _ hr).mono ?_
    rintro e w2 ⟨y, hy, rfl, hr2, hg2⟩
    go_wp2_with fail
    go_ret
    exact ⟨(x * 256 + y) % n, Int.emod_nonneg _ (by omega), Int.emod_lt_of_pos _ (by omega), rfl, hr2, hg.trans hg2⟩
theorem lt_of_cell {w : World} {a : Addr} {v : Value} (h : w.cell? a = some v) : a.block < w.heap.size := by
  rcases Nat.lt_or_ge a.block w.heap.size with h1 | h1
  · exact h1
  · simp [World.cell?, Array.getElem?_eq_none h1] at h
theorem add_block (a : Addr) (i : Nat) : (a.add i).block = a.block := by unfold Addr.add; split <;> rfl
set_option maxHeartbeats 400000 in
theorem rdOpen (w : World) (a : Option Addr) (len cap : Nat) (zs : List Int) (hrow : Frame.IsRow .u8 w a len cap zs) :
    Calls Try.prog 41 #[.slice a len cap] w fun e w' => e = .returned (.pointer (some ⟨w.heap.size, 0, none⟩)) ∧ Rd w.heap.size w' w.heap.size ∧ w.grownBy w' none := by
  go_enter Try.func41, Try.ntmps41
  go_wp2
  go_ret
  have hlt : ∀ x, a = some x → 0 < zs.length → x.block < w.heap.size := by
    intro x hx hz
    rcases hrow with ⟨rfl, _⟩ | ⟨y, rfl, h1, h2, h3, h4, h5⟩
    · simp at hx
    · obtain rfl : y = x := by simpa using hx
      have := lt_of_cell (h4 0 hz)
      rwa [add_block] at this
  have hlen : len ≤ 9223372036854775807 := by
    rcases hrow with ⟨_, rfl, _⟩ | ⟨y, _, h1, h2, _⟩
    · omega
    · unfold maxLen at h2; omega
  refine ⟨rfl, ⟨Nat.le_refl _, by simp, a, len, cap, zs, 0, isRow_keep hrow fun x hx hz => Below.heap_alloc _ _ _ (hlt x hx hz), hlt, ?_, ?_, Nat.zero_le _, hlen, ?_⟩, World.grownBy_alloc _ _ _⟩
  · rw [World.cell?_alloc_at _ _ _ _ rfl]; rfl
  · rw [World.cell?_alloc_at _ _ _ _ rfl]; rfl
  · exact World.frozen?_alloc_at _ _ _ _ rfl
theorem rdOnce (B g : Nat) (w : World) (h : Rd B w g) (n : Int) (h1 : 1 ≤ n) (h2 : n ≤ 65536) :
    Calls Try.prog 43 #[.pointer (some ⟨g, 0, none⟩), .int .i64 n] w fun e w' => ∃ b : Bool, e = .returned (.bool b) ∧ Rd B w' g ∧ w.grownBy w' (some g) := by
  go_enter Try.func43, Try.ntmps43
  go_wp2_with fail
  refine (rdBelow B g _ h n h1 h2).mono ?_
  rintro e w1 ⟨x, hx, hx2, rfl, hr, hg⟩
  go_wp2_with fail
  go_ret
  exact ⟨_, rfl, hr, hg⟩
open Go.RowKit Go.WideShapes
theorem undrew {w w' : World} {r : Option Nat} (h : w.drew.grownBy w' r) : w.grownBy w' r := ⟨h.os, h.tape, h.output, h.size, h.block⟩
def strsOk (L K : Nat) (cs : List Value) : Bool := cs.all fun | .string s => decide (L ≤ s.size ∧ s.size ≤ K) | _ => false
theorem strs_cell {w w1 : World} {cs : List Value} {T g : Nat} (hg : (w.alloc (.cells cs.toArray T)).grownBy w1 (some g)) (hgw : g < w.heap.size) (L K : Nat) (hall : strsOk L K cs = true) (m : Nat) (hm : m < cs.length) :
    ∃ s : ByteArray, (L ≤ s.size ∧ s.size ≤ K) ∧ w1.cell? ⟨w.heap.size, m, none⟩ = some (.string s) := by
  have h1 := List.all_eq_true.1 hall cs[m] (List.getElem_mem hm)
  split at h1
  · rename_i s hs
    refine ⟨s, by simpa using h1, hg.cell ?_ (by simp; omega)⟩
    rw [World.cell?_alloc_at _ _ _ _ rfl]
    simp [List.getElem?_eq_getElem hm, hs]
  · simp at h1
set_option maxHeartbeats 400000 in
theorem rdContent (B g : Nat) (w : World) (h : Rd B w g) :
    Calls Try.prog 78 #[.pointer (some ⟨g, 0, none⟩)] w fun e w' => ∃ s : ByteArray, 0 ≤ s.size ∧ s.size ≤ 6 ∧ e = .returned (.string s) ∧ Rd B w' g ∧ w.grownBy w' (some g) := by
  have hgw := h.2.1
  go_enter Try.func78, Try.ntmps78
  go_wp2_with fail
  refine (rdBelow B g _ (h.alloc _) 6 (by omega) (by omega)).mono ?_
  rintro e w1 ⟨m, hm, hm2, rfl, hr, hg⟩
  obtain ⟨m, rfl⟩ := Int.eq_ofNat_of_zero_le hm
  obtain ⟨s, hs, hc⟩ := strs_cell hg hgw 0 6 rfl m (by simp; omega)
  go_wp2_with fail
  go_ret
  exact ⟨s, hs.1, hs.2, rfl, hr, ((World.grownBy_alloc _ _ _).trans hg)⟩
set_option maxHeartbeats 400000 in
theorem rdName (B g : Nat) (w : World) (h : Rd B w g) :
    Calls Try.prog 66 #[.pointer (some ⟨g, 0, none⟩)] w fun e w' => ∃ s : ByteArray, 1 ≤ s.size ∧ s.size ≤ 6 ∧ e = .returned (.string s) ∧ Rd B w' g ∧ w.grownBy w' (some g) := by
  have hgw := h.2.1
  go_enter Try.func66, Try.ntmps66
  go_wp2_with fail
  refine (rdBelow B g _ (h.alloc _) 5 (by omega) (by omega)).mono ?_
  rintro e w1 ⟨m, hm, hm2, rfl, hr, hg⟩
  obtain ⟨m, rfl⟩ := Int.eq_ofNat_of_zero_le hm
  obtain ⟨s, hs, hc⟩ := strs_cell hg hgw 1 6 rfl m (by simp; omega)
  go_wp2_with fail
  go_ret
  exact ⟨s, hs.1, hs.2, rfl, hr, ((World.grownBy_alloc _ _ _).trans hg)⟩
set_option maxHeartbeats 400000 in
theorem rdPred (B g : Nat) (w : World) (h : Rd B w g) :
    Calls Try.prog 65 #[.pointer (some ⟨g, 0, none⟩)] w fun e w' => ∃ s : ByteArray, 1 ≤ s.size ∧ s.size ≤ 6 ∧ e = .returned (.string s) ∧ Rd B w' g ∧ w.grownBy w' (some g) := by
  have hgw := h.2.1
  go_enter Try.func65, Try.ntmps65
  go_wp2_with fail
  refine (rdBelow B g _ (h.alloc _) 7 (by omega) (by omega)).mono ?_
  rintro e w1 ⟨m, hm, hm2, rfl, hr, hg⟩
  obtain ⟨m, rfl⟩ := Int.eq_ofNat_of_zero_le hm
  obtain ⟨s, hs, hc⟩ := strs_cell hg hgw 1 6 rfl m (by simp; omega)
  go_wp2_with fail
  go_ret
  exact ⟨s, hs.1, hs.2, rfl, hr, ((World.grownBy_alloc _ _ _).trans hg)⟩
set_option maxHeartbeats 400000 in
theorem rdThing (B g : Nat) (w : World) (h : Rd B w g) :
    Calls Try.prog 64 #[.pointer (some ⟨g, 0, none⟩)] w fun e w' => ∃ s : ByteArray, s.size ≤ 20 ∧ 1 ≤ s.size ∧ e = .returned (.string s) ∧ Rd B w' g ∧ w.grownBy w' (some g) := by
  have hgw := h.2.1
  go_enter Try.func64, Try.ntmps64
  go_wp2_with fail
  refine (rdBelow B g _ h 6 (by omega) (by omega)).mono ?_
  rintro e w1 ⟨m, hm, hm2, rfl, hr, hg⟩
  have hg1 := hr.2.1
  by_cases h0 : m = 0
  · subst h0
    go_wp2_with fail
    refine (rdBelow B g _ (hr.alloc _) 3 (by omega) (by omega)).mono ?_
    rintro e w2 ⟨m, hm, hm2, rfl, hr2, hg2⟩
    obtain ⟨m, rfl⟩ := Int.eq_ofNat_of_zero_le hm
    obtain ⟨s, hs, hc⟩ := strs_cell hg2 hg1 0 1 rfl m (by simp; omega)
    go_wp2_with fail
    go_ret
    exact ⟨_, by (simp [lit_size]; try omega), by (simp [lit_size]; try omega), rfl, hr2, (hg.trans (World.grownBy_alloc _ _ _)).trans hg2⟩
  by_cases h1 : m = 1
  · subst h1
    go_wp2_with fail
    refine (rdContent B g _ hr).mono ?_
    rintro e w2 ⟨s, hs1, hs, rfl, hr2, hg2⟩
    go_wp2_with fail
    refine (specEscaped s _ (by omega)).mono ?_
    rintro e w3 ⟨rfl, rfl⟩
    have hl := (esc_len s.data.toList).2
    rw [size_len] at hl
    have hl2 : (bs (esc s.data.toList)).size ≤ 12 := by rw [bs_size]; omega
    clear hl
    go_wp2_with fail
    go_ret
    exact ⟨_, by (simp [lit_size]; try omega), by (simp [lit_size]; try omega), rfl, hr2, hg.trans hg2⟩
  · have e0 : (m == 0) = false := by simpa using h0
    have e1 : (m == 1) = false := by simpa using h1
    go_wp2_with fail
    refine (rdName B g _ hr).mono ?_
    rintro e w2 ⟨s, hs1, hs, rfl, hr2, hg2⟩
    go_wp2_with fail
    go_ret
    exact ⟨s, by omega, hs1, rfl, hr2, hg.trans hg2⟩
open Go.RowKit Go.WideShapes
theorem grown_new {a b c : World} (h : a.grownBy b none) (k : b.grownBy c (some a.heap.size)) : a.grownBy c none := h.andThen k (by intro j hj; simp at hj; omega)
theorem isRow_grown {k : IntKind} {w w' : World} {a : Option Addr} {len cap : Nat} {zs : List Int} (h : Frame.IsRow k w a len cap zs) (hg : w.grownBy w' none) : Frame.IsRow k w' a len cap zs := by
  refine isRow_keep h fun x hx hz => hg.block _ ?_ (by simp)
  rcases h with ⟨rfl, _⟩ | ⟨y, rfl, h1, h2, h3, h4, h5⟩
  · simp at hx
  · obtain rfl : y = x := by simpa using hx
    have := lt_of_cell (h4 0 hz)
    rwa [add_block] at this
open Go.RowKit Go.WideShapes
open Go.RowKit Go.WideShapes
theorem Rd.setFar {B g : Nat} {w : World} (h : Rd B w g) {a : Addr} (h1 : B ≤ a.block) (h2 : a.block ≠ g) (u : Value) : Rd B (w.setCell a u) g :=
  h.keep (by simp [World.setCell]) (Below.heap_setCell w a u g (Ne.symm h2)) fun k hk => Below.heap_setCell w a u k (by omega)
set_option maxRecDepth 100000 in
set_option maxHeartbeats 1600000 in
theorem rdTriple (B g : Nat) (w : World) (h : Rd B w g) :
    Calls Try.prog 45 #[.pointer (some ⟨g, 0, none⟩)] w fun e w' => ∃ s p o : ByteArray, (1 ≤ s.size ∧ s.size ≤ 20) ∧ p.size ≤ 20 ∧ o.size ≤ 20 ∧ e = .returned (.agg #[.string s, .string p, .string o]) ∧ Rd B w' g ∧ w.grownBy w' (some g) := by
  have hgw := h.2.1
  have hB := h.1
  have R0 := Box.new w (.string ⟨#[]⟩) (.string ⟨#[]⟩) (.string ⟨#[]⟩) 26
  have G0 := World.grownBy_alloc w (.cells #[.string ⟨#[]⟩, .string ⟨#[]⟩, .string ⟨#[]⟩] 26) (some g)
  go_enter Try.func45, Try.ntmps45
  go_wp2_with fail
  refine (rdThing B g _ (h.alloc _)).mono ?_
  rintro e w1 ⟨s, hs2, hs1, rfl, hr1, hg1⟩
  have R1 := R0.grown hg1 (by simp; omega)
  have G1 := G0.trans hg1
  clear hg1 R0 G0
  go_wp2_with fail
  refine (rdPred B g _ hr1).mono ?_
  rintro e w2 ⟨p, _, hp, rfl, hr2, hg2⟩
  have R2 := R1.grown hg2 (by simp; omega)
  have G2 := G1.trans hg2
  clear hg2 R1 G1 hr1
  go_wp2_with fail
  refine (rdThing B g _ hr2).mono ?_
  rintro e w3 ⟨o, ho, _, rfl, hr3, hg3⟩
  have R3 := R2.grown hg3 (by simp; omega)
  have G3 := G2.trans hg3
  have l3 := R3.lt
  clear hg3 R2 G2 hr2
  have T3 := Box.new w3 (.string s) (.string p) (.string o) 26
  have i0 : (0 : Int) < s.size := by omega
  cases hq : ((s[0].toNat : Int) == 34)
  · go_wp2_with fail
    refine (rdOnce B g _ (hr3.alloc _) 60 (by omega) (by omega)).mono ?_
    rintro e w4 ⟨b, rfl, hr4, hg4⟩
    have R4 := (R3.alloc _).grown hg4 (by simp; omega)
    have T4 := T3.grown hg4 (by have := hr3.2.1; simp; omega)
    have G4 := (G3.trans (World.grownBy_alloc w3 _ _)).trans hg4
    clear hg4 R3 T3 G3 hr3 hq
    obtain ⟨c0, c1, c2⟩ := T4.cells
    obtain ⟨f0, f1, f2⟩ := T4.free
    obtain ⟨d0, d1, d2⟩ := R4.cells
    obtain ⟨k0, k1, k2⟩ := R4.free
    have hne : ¬ w.heap.size = w3.heap.size := by omega
    have hne2 : ¬ w3.heap.size = w.heap.size := by omega
    clear T4 R4
    cases b
    · go_wp2_with fail
      refine bodyPost_ret (v := .agg #[.string s, .string p, .string o]) (by simp [results, Try.results45, go_sem, *]) rfl ⟨s, p, o, ⟨hs1, hs2⟩, by omega, ho, rfl, ?_, ?_⟩
      · exact ((hr4.setFar (by simp; omega) (by simp; omega) _).setFar (by simp; omega) (by simp; omega) _).setFar (by simp; omega) (by simp; omega) _
      · exact grown_setNew (grown_setNew (grown_setNew G4 (by simp) _) (by simp) _) (by simp) _
    · go_wp2_with fail
      refine bodyPost_ret (v := .agg #[.string s, .string ⟨#[95, 58, 98]⟩, .string o]) (by simp [results, Try.results45, go_sem, *]) rfl ⟨s, _, o, ⟨hs1, hs2⟩, by simp [lit_size], ho, rfl, ?_, ?_⟩
      · exact (((hr4.setFar (by simp; omega) (by simp; omega) _).setFar (by simp; omega) (by simp; omega) _).setFar (by simp; omega) (by simp; omega) _).setFar (by simp; omega) (by simp; omega) _
      · exact grown_setNew (grown_setNew (grown_setNew (grown_setNew G4 (by simp; omega) _) (by simp) _) (by simp) _) (by simp) _
  · go_wp2_with fail
    refine (rdName B g _ (hr3.alloc _)).mono ?_
    rintro e w5 ⟨s', hs1', hs2', rfl, hr5, hg5⟩
    have R5 := (R3.alloc _).grown hg5 (by simp; omega)
    have T5 := T3.grown hg5 (by have := hr3.2.1; simp; omega)
    have G5 := (G3.trans (World.grownBy_alloc w3 _ _)).trans hg5
    have hg3 := hr3.2.1
    clear hg5 R3 T3 G3 hr3 hq i0
    obtain ⟨c0, c1, c2⟩ := T5.cells
    obtain ⟨f0, f1, f2⟩ := T5.free
    have hne : ¬ w.heap.size = w3.heap.size := by omega
    have hne2 : ¬ w3.heap.size = w.heap.size := by omega
    have T6 := T5.set0 (.string s')
    have R6 := R5.far (a := ⟨w3.heap.size, 0, none⟩) (by simp; omega) (.string s')
    have hr6 := hr5.setFar (a := ⟨w3.heap.size, 0, none⟩) (by simp; omega) (by simp; omega) (.string s')
    have G6 := grown_setNew G5 (a := ⟨w3.heap.size, 0, none⟩) (by simp; omega) (.string s')
    clear T5 R5 G5 hr5
    go_wp2_with fail
    refine (rdOnce B g _ hr6 60 (by omega) (by omega)).mono ?_
    rintro e w4 ⟨b, rfl, hr4, hg4⟩
    have R4 := R6.grown hg4 (by simp; omega)
    have T4 := T6.grown hg4 (by simp; omega)
    have G4 := G6.trans hg4
    clear hg4 R6 T6 G6 hr6 c0 c1 c2 f0 f1 f2
    obtain ⟨c0, c1, c2⟩ := T4.cells
    obtain ⟨f0, f1, f2⟩ := T4.free
    obtain ⟨d0, d1, d2⟩ := R4.cells
    obtain ⟨k0, k1, k2⟩ := R4.free
    clear T4 R4
    cases b
    · go_wp2_with fail
      refine bodyPost_ret (v := .agg #[.string s', .string p, .string o]) (by simp [results, Try.results45, go_sem, *]) rfl ⟨s', p, o, ⟨hs1', by omega⟩, by omega, ho, rfl, ?_, ?_⟩
      · exact ((hr4.setFar (by simp; omega) (by simp; omega) _).setFar (by simp; omega) (by simp; omega) _).setFar (by simp; omega) (by simp; omega) _
      · exact grown_setNew (grown_setNew (grown_setNew G4 (by simp) _) (by simp) _) (by simp) _
    · go_wp2_with fail
      refine bodyPost_ret (v := .agg #[.string s', .string ⟨#[95, 58, 98]⟩, .string o]) (by simp [results, Try.results45, go_sem, *]) rfl ⟨s', _, o, ⟨hs1', by omega⟩, by simp [lit_size], ho, rfl, ?_, ?_⟩
      · exact (((hr4.setFar (by simp; omega) (by simp; omega) _).setFar (by simp; omega) (by simp; omega) _).setFar (by simp; omega) (by simp; omega) _).setFar (by simp; omega) (by simp; omega) _
      · exact grown_setNew (grown_setNew (grown_setNew (grown_setNew G4 (by simp; omega) _) (by simp) _) (by simp) _) (by simp) _
end Go.Proofs.Ytmklnkogmidkdaa
