/- The specification's look for a triple, and triples without one. -/
import Derived.Test.YtinmjbgljgljkaaPut0
import Derived.Test.YtinmjbgljgljkaaGraph
namespace Go.Proofs.Ytinmjbgljgljkaa
open Go.RowKit Go.WideShapes
theorem lessT_snoc (g : List Tri3) (t u : Tri3) : lessT (g ++ [u]) t = if u = t then lessT g t else lessT g t ++ [u] := by
  unfold lessT
  rw [List.filter_append]
  by_cases h : u = t <;> simp [h]
set_option maxRecDepth 100000 in
set_option maxHeartbeats 1600000 in
theorem specHas (a : Option Addr) (len cap : Nat) (ts : List Tri3) (s p o : ByteArray) (w : World) (h : IsTris w a len cap ts) (hl : len ≤ 1048576) :
    Calls Try.prog 68 #[.slice a len cap, .agg #[.string s, .string p, .string o]] w fun e w' => e = .returned (.bool (decide ((s, p, o) ∈ ts))) ∧ Below w.heap.size w w' := by
  have H := Lib.hid h
  have HT := Lib.hid h.len
  have B0 := (Below.refl w.heap.size w).alloc (Nat.le_refl _) (.cells #[.string s, .string p, .string o] 33)
  have X0 := Box.new w (.string s) (.string p) (.string o) 33
  clear h
  go_enter Try.func68, Try.ntmps68
  go_wp2_with fail
  go_loopw [5] (fun i wr => ∃ k : Nat, k ≤ len ∧ i = .int .i64 k ∧ Hid ((s, p, o) ∉ ts.take k) ∧ Hid (Box wr w.heap.size (.string s) (.string p) (.string o) 33) ∧ Below w.heap.size w wr) (fun i _ => len - (intOf i).toNat)
  case atStart => exact ⟨0, Nat.zero_le _, rfl, Lib.hid (by simp), Lib.hid X0, B0⟩
  case round =>
    obtain ⟨k, hk, rfl, hnot, hbox, hnx⟩ := hrel
    clear X0 B0
    have hk6 : (0 : Int) ≤ (k : Int) := by omega
    have hk8 : k ≤ 1048576 := by omega
    by_cases hlt : k < len
    · have hk7 : (k : Int) < (len : Int) := by omega
      obtain ⟨b, off, rfl, hb, hl', hm, hts, hcs⟩ := H.out.cells (by omega)
      have ht : ts[k]? = some (ts[k]'(by omega)) := List.getElem?_eq_getElem (by omega)
      have HS : Hid (ts.take (k + 1) = ts.take k ++ [ts[k]'(by omega)]) := Lib.hid (List.take_succ_eq_append_getElem (by omega))
      obtain ⟨d0, d1, d2, m0, m1, m2⟩ := hcs k _ ht
      rw [← hnx.cell (p := ⟨b, _, none⟩) hb] at d0 d1 d2
      generalize ts[k]'(by omega) = u at ht d0 d1 d2 m0 m1 m2 HS
      obtain ⟨c0, c1, c2⟩ := hbox.out.cells
      by_cases he : u = (s, p, o)
      · subst he
        have HR : Hid (decide ((s, p, o) ∈ ts) = true) := Lib.hid (decide_eq_true (List.mem_of_getElem? ht))
        have EQ := tri_is s p o
        simp only at d0 d1 d2
        clear ht hts hcs hm m0 m1 m2 hl' hnot HS
        go_wp2_with fail
        go_quiet (fail)
        clear EQ
        go_wp2_with fail
        go_ret
        exact ⟨by rw [HR.out]; rfl, below_drewN hnx nq⟩
      · have EQ := tri_isnt he
        simp only at EQ
        have HN : Hid ((s, p, o) ∉ ts.take (k + 1)) := Lib.hid (by
          rw [HS.out, List.mem_append]
          rintro (h | h)
          · exact hnot.out h
          · exact he (List.mem_singleton.1 h).symm)
        have X1 : Hid (∀ n, Box (wr.drewN n) w.heap.size (.string s) (.string p) (.string o) 33) := Lib.hid (fun n => hbox.out)
        have HB : Hid (∀ n, Below w.heap.size w (wr.drewN n)) := Lib.hid (fun n => below_drewN hnx n)
        clear ht hts hcs hm m0 m1 m2 hl' hnot HS he
        go_wp2_with fail
        go_quiet (fail)
        clear EQ
        go_wp2_with fail
        go_roundw
        case rel => exact ⟨k + 1, by omega, by go_num, HN, Lib.hid (X1.out _), HB.out _⟩
        case measure => simp [intOf]; omega
    · obtain rfl : k = len := by omega
      have HR : Hid (decide ((s, p, o) ∈ ts) = false) := Lib.hid (decide_eq_false (by
        have := hnot.out
        rwa [List.take_of_length_le (by rw [HT.out]; exact Nat.le_refl _)] at this))
      go_wp2_with fail
      go_ret
      exact ⟨by rw [HR.out]; rfl, hnx⟩
set_option maxRecDepth 100000 in
set_option maxHeartbeats 1600000 in
theorem specLess (a : Option Addr) (len cap : Nat) (ts : List Tri3) (s p o : ByteArray) (w : World) (h : IsTris w a len cap ts) (hl : len ≤ 1048576) :
    Calls Try.prog 69 #[.slice a len cap, .agg #[.string s, .string p, .string o]] w fun e w' => ∃ v, e = .returned v ∧ OwnT w.heap.size w' v (lessT ts (s, p, o)) ∧ Below w.heap.size w w' := by
  obtain ⟨i0, hi, hz0, hz1, hz2⟩ := info_parts infoTri
  have H := Lib.hid h
  have HT := Lib.hid h.len
  have B0 := ((Below.refl w.heap.size w).alloc (Nat.le_refl _) (.cells #[.string s, .string p, .string o] 33)).alloc (by simp) (.cells #[] 33)
  have X0 := (Box.new w (.string s) (.string p) (.string o) 33).alloc (.cells #[] 33)
  have O0 : OwnT (w.heap.size + 1) ((w.alloc (.cells #[.string s, .string p, .string o] 33)).alloc (.cells #[] 33)) (.slice (some ⟨w.heap.size + 1, 0, none⟩) 0 0) [] := by
    have := World.ownsRow_lit (size := 3) (e := 33) (w.alloc (.cells #[.string s, .string p, .string o] 33)) #[] 0 (Nat.le_refl _) (by decide) rfl
    rw [World.size_alloc] at this
    exact this
  clear h
  go_enter Try.func69, Try.ntmps69
  go_wp2_with fail
  go_loopw [5, 6] (fun v' i wr => ∃ (k : Nat) (v : Value), k ≤ len ∧ i = .int .i64 k ∧ v = v' ∧ Hid (OwnT (w.heap.size + 1) wr v (lessT (ts.take k) (s, p, o))) ∧ Hid (Box wr w.heap.size (.string s) (.string p) (.string o) 33) ∧ Below w.heap.size w wr) (fun _ i _ => len - (intOf i).toNat)
  case atStart => exact ⟨0, _, Nat.zero_le _, rfl, rfl, Lib.hid (by simpa [lessT] using O0), Lib.hid X0, B0⟩
  case round =>
    obtain ⟨k, v, hk, rfl, rfl, hown, hbox, hnx⟩ := hrel
    clear X0 B0 O0
    have hk6 : (0 : Int) ≤ (k : Int) := by omega
    have hk8 : k ≤ 1048576 := by omega
    by_cases hlt : k < len
    · have hk7 : (k : Int) < (len : Int) := by omega
      obtain ⟨b, off, rfl, hb, hl', hm, hts, hcs⟩ := H.out.cells (by omega)
      have ht : ts[k]? = some (ts[k]'(by omega)) := List.getElem?_eq_getElem (by omega)
      have HS : Hid (ts.take (k + 1) = ts.take k ++ [ts[k]'(by omega)]) := Lib.hid (List.take_succ_eq_append_getElem (by omega))
      obtain ⟨d0, d1, d2, m0, m1, m2⟩ := hcs k _ ht
      rw [← hnx.cell (p := ⟨b, _, none⟩) hb] at d0 d1 d2
      generalize ts[k]'(by omega) = u at ht d0 d1 d2 m0 m1 m2 HS
      obtain ⟨c0, c1, c2⟩ := hbox.out.cells
      have hll : (lessT (ts.take k) (s, p, o)).length ≤ k := Nat.le_trans (lessT_len _ _) (by rw [List.length_take]; omega)
      by_cases he : u = (s, p, o)
      · subst he
        have EQ := tri_same s p o
        have HN : Hid (lessT (ts.take (k + 1)) (s, p, o) = lessT (ts.take k) (s, p, o)) := Lib.hid (by rw [HS.out, lessT_snoc, if_pos rfl])
        have HB : Hid (∀ n, Below w.heap.size w (wr.drewN n)) := Lib.hid (fun n => below_drewN hnx n)
        have X1 : Hid (∀ n, Box (wr.drewN n) w.heap.size (.string s) (.string p) (.string o) 33) := Lib.hid (fun n => hbox.out)
        have O1 : Hid (∀ n, OwnT (w.heap.size + 1) (wr.drewN n) v (lessT (ts.take (k + 1)) (s, p, o))) := Lib.hid (fun n => by rw [HN.out]; exact hown.out)
        simp only at d0 d1 d2
        clear ht hts hcs hm m0 m1 m2 hl' HS hown HN hll
        go_wp2_with fail
        go_quiet (fail)
        clear EQ
        go_wp2_with fail
        go_roundw
        case rel => exact ⟨k + 1, _, by omega, by go_num, rfl, Lib.hid (O1.out _), Lib.hid (X1.out _), HB.out _⟩
        case measure => simp [intOf]; omega
      · have EQ : ∀ w, (binOp .neq 33 (.agg #[.string u.1, .string u.2.1, .string u.2.2]) (.agg #[.string s, .string p, .string o])).run Try.prog w = .ok (.bool true) w := fun w => by rw [tri_ne, tri_not he]; rfl
        have HN : Hid (lessT (ts.take (k + 1)) (s, p, o) = lessT (ts.take k) (s, p, o) ++ [u]) := Lib.hid (by rw [HS.out, lessT_snoc, if_neg he])
        have BQ : Hid (∀ n, Below w.heap.size w (wr.drewN n)) := Lib.hid (fun n => below_drewN hnx n)
        have XQ : Hid (∀ n, Box (wr.drewN n) w.heap.size (.string s) (.string p) (.string o) 33) := Lib.hid (fun n => hbox.out)
        have OQ : Hid (∀ n, OwnT (w.heap.size + 1) (wr.drewN n) v (lessT (ts.take k) (s, p, o))) := Lib.hid (fun n => hown.out)
        have DQ := Lib.hid (And.intro d0 (And.intro d1 d2))
        obtain ⟨pl, hpl⟩ : ∃ l, lessT (ts.take k) (s, p, o) = l := ⟨_, rfl⟩
        rw [hpl] at HN OQ hll
        clear ht hts hcs hm m0 m1 m2 hl' HS hown he hbox hnx hpl
        go_wp2_with fail
        go_quiet (fail)
        clear EQ c0 c1 c2 d0 d1 d2
        have BE := BQ.out nq
        have XE := XQ.out nq
        have OE := OQ.out nq
        have DE : (wr.drewN nq).cell? ⟨b, off + k * 3, none⟩ = some (.string u.1) ∧ (wr.drewN nq).cell? ⟨b, off + k * 3 + 1, none⟩ = some (.string u.2.1) ∧ (wr.drewN nq).cell? ⟨b, off + k * 3 + 2, none⟩ = some (.string u.2.2) := DQ.out
        clear BQ XQ OQ DQ
        generalize wr.drewN nq = we at BE XE OE DE ⊢
        obtain ⟨d0, d1, d2⟩ := DE
        have hcl : w.heap.size < we.heap.size := XE.lt
        have hne := fun j hj => (World.ownsRow.lt OE j hj).1
        have HC : ∀ (j : Nat) (x : Value), [Value.string u.1, .string u.2.1, .string u.2.2][j]? = some x → (we.alloc (.cells #[.string u.1, .string u.2.1, .string u.2.2] 33)).cell? ((⟨we.heap.size, 0, none⟩ : Addr).add j) = some x := three_cell
        have HH := Lib.hid HC
        have BA := BE.alloc BE.size (.cells #[.string u.1, .string u.2.1, .string u.2.2] 33)
        have XA := XE.alloc (.cells #[.string u.1, .string u.2.1, .string u.2.2] 33)
        have OA := Lib.hid (World.ownsRow.alloc OE (.cells #[.string u.1, .string u.2.1, .string u.2.2] 33))
        clear HC BE XE OE
        go_wp2_with (at_builtin; refine wpList_append_own _ rfl _ _ 24 rfl (w.heap.size + 1) 33 i0 (.agg #[.string ⟨#[]⟩, .string ⟨#[]⟩, .string ⟨#[]⟩]) 3 48 Try.underlying24 hi hz0 hz1 hz2 rfl (by decide) _ _ _ rfl OA.out ⟨we.heap.size, 0, none⟩ 1 _ [.string u.1, .string u.2.1, .string u.2.2] rfl rfl HH.out (by first | exact flat_one _ | (intro x hx; simp at hx; rcases hx with rfl | rfl | rfl <;> rfl)) ?h63a ?h48a ?hbsa ?_)
        case h63a => unfold maxLen; omega
        case h48a => omega
        case hbsa => simp only [World.size_alloc]; omega
        intro v2 w2 hown2 hg2 _
        have O2 : OwnT (w.heap.size + 1) w2 v2 (lessT (ts.take (k + 1)) (s, p, o)) := by rw [HN.out]; exact own3_snoc (t := u) hown2
        have B2 : Below w.heap.size w w2 := BA.grown hg2 BA.size (fun j hj => by have := hne j hj; omega)
        have X2 := XA.grown hg2 (by intro e; have := hne _ e.symm; omega)
        have HO2 := Lib.hid O2
        have HX2 := Lib.hid X2
        clear hown2 hg2 OA HH BA XA O2 X2 d0 d1 d2
        go_wp2_with fail
        go_roundw
        case rel => exact ⟨k + 1, _, by omega, by go_num, rfl, HO2, HX2, B2⟩
        case measure => simp [intOf]; omega
    · obtain rfl : k = len := by omega
      have HO : Hid (OwnT (w.heap.size + 1) wr v (lessT ts (s, p, o))) := Lib.hid (by
        have := hown.out
        rwa [List.take_of_length_le (by rw [HT.out]; exact Nat.le_refl _)] at this)
      clear hown
      go_wp2_with fail
      go_ret
      exact ⟨v, rfl, own_base HO.out (by omega), hnx⟩
open Go.RowKit Go.WideShapes
theorem OwnT.plain {B : Nat} {w : World} {v : Value} {ts : List Tri3} (h : OwnT B w v ts) (hm : ∀ t ∈ ts, t.1.size ≤ maxLen ∧ t.2.1.size ≤ maxLen ∧ t.2.2.size ≤ maxLen) : ∃ a cap, v = .slice a ts.length cap ∧ IsTris w a ts.length cap ts ∧ Plain a := by
  obtain ⟨a, cap, hv, hi⟩ := h.is hm
  refine ⟨a, cap, hv, hi, ?_⟩
  rcases h.2 with ⟨e, _⟩ | ⟨g, c, cur, e, _⟩
  · rw [hv] at e
    simp only [Value.slice.injEq] at e
    exact .inl e.1
  · rw [hv] at e
    simp only [Value.slice.injEq] at e
    exact .inr ⟨g, 0, e.1⟩
set_option maxRecDepth 100000 in
set_option maxHeartbeats 1600000 in
theorem specUnionL (a b : Option Addr) (la ca lb cb : Nat) (ts us : List Tri3) (w : World) (h : IsTris w a la ca ts) (hp : Plain a) (k : IsTris w b lb cb us) (hla : la ≤ 80) (hlb : lb ≤ 80) :
    Calls Try.prog 70 #[.slice a la ca, .slice b lb cb] w fun e w' => ∃ v, e = .returned v ∧ OwnT w.heap.size w' v (unionT ts us) ∧ Below w.heap.size w w' := by
  obtain ⟨i0, hi, hz0, hz1, hz2⟩ := info_parts infoTri
  have HS : Hid (∀ us' : List Tri3, (∀ u ∈ us', u ∈ us) → ∀ t ∈ unionT ts us', t.1.size ≤ maxLen ∧ t.2.1.size ≤ maxLen ∧ t.2.2.size ≤ maxLen) := Lib.hid (fun us' hu t ht => by
    rcases unionT_mem.1 ht with g | g
    · exact h.small t g
    · exact k.small t (hu t g))
  have HL := Lib.hid h.len
  have KL := Lib.hid k.len
  have K := Lib.hid k
  have O0 : OwnT w.heap.size (w.alloc (.cells #[] 33)) (.slice (some ⟨w.heap.size, 0, none⟩) 0 0) [] := World.ownsRow_lit (size := 3) (e := 33) w #[] 0 (Nat.le_refl _) (by decide) rfl
  have BA := (Below.refl w.heap.size w).alloc (Nat.le_refl _) (.cells #[] 33)
  have hA := h.next BA
  have HO := Lib.hid O0
  clear k O0 h
  have main : ∀ (v : Value) (w1 : World), OwnT w.heap.size w1 v ts → Below w.heap.size w w1 → True := fun _ _ _ _ => trivial
  clear main
  rcases hp with rfl | ⟨bb, off, rfl⟩
  · rcases hA with ⟨_, rfl, rfl, rfl⟩ | ⟨x, hx, _⟩
    rotate_left
    · cases hx
    go_enter Try.func70, Try.ntmps70
    go_wp2_with (at_builtin; refine wpList_append_own_none rfl _ _ 24 rfl w.heap.size 33 i0 3 Try.underlying24 hi _ _ _ rfl HO.out rfl ?_)
    go_wp2_with fail
    have O1 := HO.out
    have B1 := BA
    go_loopw [5, 6] (fun v' i wr => ∃ (j : Nat) (v : Value), j ≤ lb ∧ i = .int .i64 j ∧ v = v' ∧ Hid (OwnT w.heap.size wr v (unionT ([] : List Tri3) (us.take j))) ∧ Below w.heap.size w wr) (fun _ i _ => lb - (intOf i).toNat)
    case atStart => exact ⟨0, _, Nat.zero_le _, rfl, rfl, Lib.hid (by simpa [unionT] using O1), B1⟩
    case round =>
      obtain ⟨j, v, hj, rfl, rfl, hown, hnx⟩ := hrel
      clear O1 B1 BA
      have hj6 : (0 : Int) ≤ (j : Int) := by omega
      by_cases hlt : j < lb
      · have hj7 : (j : Int) < (lb : Int) := by omega
        obtain ⟨b', off', rfl, hb, hl', hm, hts, hcs⟩ := K.out.cells (by omega)
        have ht : us[j]? = some (us[j]'(by omega)) := List.getElem?_eq_getElem (by omega)
        have HT : Hid (us.take (j + 1) = us.take j ++ [us[j]'(by omega)]) := Lib.hid (List.take_succ_eq_append_getElem (by omega))
        obtain ⟨d0, d1, d2, m0, m1, m2⟩ := hcs j _ ht
        rw [← hnx.cell (p := ⟨b', _, none⟩) hb] at d0 d1 d2
        generalize us[j]'(by omega) = u at ht d0 d1 d2 m0 m1 m2 HT
        obtain ⟨u0, u1, u2⟩ := u
        simp only at d0 d1 d2
        have HN : Hid (unionT ([] : List Tri3) (us.take (j + 1)) = putT (unionT ([] : List Tri3) (us.take j)) (u0, u1, u2)) := Lib.hid (by rw [HT.out, unionT_snoc])
        obtain ⟨xv, yv, rfl, iv, pv⟩ := OwnT.plain hown.out (HS.out _ (fun u hu => List.mem_of_mem_take hu))
        have hul := unionT_len (us.take j) ([] : List Tri3)
        rw [List.length_take, List.length_nil] at hul
        have C := specPutAny xv _ yv _ u0 u1 u2 wr iv pv (by omega)
        obtain ⟨uj, huj⟩ : ∃ l, unionT ([] : List Tri3) (us.take j) = l := ⟨_, rfl⟩
        rw [huj] at C HN ⊢
        have HC := Lib.hid C
        clear C iv pv hown hul huj ht HT hts hcs hm m0 m1 m2 hl'
        go_wp2_with fail
        refine HC.out.mono ?_
        rintro e w2 ⟨v2, rfl, ho2, hb2⟩
        have O2 := Lib.hid (own_base ho2 hnx.size)
        rw [← HN.out] at O2
        have B2 := hnx.trans (hb2.mono hnx.size)
        clear ho2 hb2 HC HN d0 d1 d2
        go_wp2_with fail
        go_roundw
        case rel => exact ⟨j + 1, _, by omega, by go_num, rfl, O2, B2⟩
        case measure => simp [intOf]; omega
      · obtain rfl : j = lb := by omega
        have HO2 : Hid (OwnT w.heap.size wr v (unionT ([] : List Tri3) us)) := Lib.hid (by
          have := hown.out
          rwa [List.take_of_length_le (by rw [KL.out]; exact Nat.le_refl _)] at this)
        clear hown
        go_wp2_with fail
        go_ret
        exact ⟨v, rfl, HO2.out, hnx⟩
  · have F1 := hA.front la
    rw [List.take_of_length_le (by rw [HL.out]; exact Nat.le_refl _)] at F1
    have HF1 := Lib.hid F1
    clear F1 hA
    go_enter Try.func70, Try.ntmps70
    go_wp2_with (at_builtin; refine wpList_append_own _ rfl _ _ 24 rfl w.heap.size 33 i0 (.agg #[.string ⟨#[]⟩, .string ⟨#[]⟩, .string ⟨#[]⟩]) 3 48 Try.underlying24 hi hz0 hz1 hz2 rfl (by decide) _ _ _ rfl HO.out ⟨bb, off, none⟩ la _ (flat ts) rfl (by rw [flat_len, HL.out]) HF1.out (by first | exact flat_one _ | (intro x hx; simp at hx; rcases hx with rfl | rfl | rfl <;> rfl)) ?h63a ?h48a ?hbsa ?_)
    case h63a => rw [List.length_nil]; unfold maxLen; omega
    case h48a => rw [List.length_nil]; omega
    case hbsa => simp only [World.size_alloc]; omega
    intro v1 w1 hown1 hg1 _
    have O1 : OwnT w.heap.size w1 v1 ts := by unfold OwnT; rw [HL.out]; simpa [show flat ([] : List Tri3) = [] from rfl] using hown1
    have B1 : Below w.heap.size w w1 := BA.grown hg1 BA.size (fun j hj => by simp [Value.ownBlock] at hj; omega)
    clear hown1 hg1 HO HF1
    go_wp2_with fail
    go_loopw [5, 6] (fun v' i wr => ∃ (j : Nat) (v : Value), j ≤ lb ∧ i = .int .i64 j ∧ v = v' ∧ Hid (OwnT w.heap.size wr v (unionT ts (us.take j))) ∧ Below w.heap.size w wr) (fun _ i _ => lb - (intOf i).toNat)
    case atStart => exact ⟨0, _, Nat.zero_le _, rfl, rfl, Lib.hid (by simpa [unionT] using O1), B1⟩
    case round =>
      obtain ⟨j, v, hj, rfl, rfl, hown, hnx⟩ := hrel
      clear O1 B1 BA
      have hj6 : (0 : Int) ≤ (j : Int) := by omega
      by_cases hlt : j < lb
      · have hj7 : (j : Int) < (lb : Int) := by omega
        obtain ⟨b', off', rfl, hb, hl', hm, hts, hcs⟩ := K.out.cells (by omega)
        have ht : us[j]? = some (us[j]'(by omega)) := List.getElem?_eq_getElem (by omega)
        have HT : Hid (us.take (j + 1) = us.take j ++ [us[j]'(by omega)]) := Lib.hid (List.take_succ_eq_append_getElem (by omega))
        obtain ⟨d0, d1, d2, m0, m1, m2⟩ := hcs j _ ht
        rw [← hnx.cell (p := ⟨b', _, none⟩) hb] at d0 d1 d2
        generalize us[j]'(by omega) = u at ht d0 d1 d2 m0 m1 m2 HT
        obtain ⟨u0, u1, u2⟩ := u
        simp only at d0 d1 d2
        have HN : Hid (unionT ts (us.take (j + 1)) = putT (unionT ts (us.take j)) (u0, u1, u2)) := Lib.hid (by rw [HT.out, unionT_snoc])
        obtain ⟨xv, yv, rfl, iv, pv⟩ := OwnT.plain hown.out (HS.out _ (fun u hu => List.mem_of_mem_take hu))
        have hul := unionT_len (us.take j) ts
        rw [HL.out, List.length_take] at hul
        have C := specPutAny xv _ yv _ u0 u1 u2 wr iv pv (by omega)
        obtain ⟨uj, huj⟩ : ∃ l, unionT ts (us.take j) = l := ⟨_, rfl⟩
        rw [huj] at C HN ⊢
        have HC := Lib.hid C
        clear C iv pv hown hul huj ht HT hts hcs hm m0 m1 m2 hl'
        go_wp2_with fail
        refine HC.out.mono ?_
        rintro e w2 ⟨v2, rfl, ho2, hb2⟩
        have O2 := Lib.hid (own_base ho2 hnx.size)
        rw [← HN.out] at O2
        have B2 := hnx.trans (hb2.mono hnx.size)
        clear ho2 hb2 HC HN d0 d1 d2
        go_wp2_with fail
        go_roundw
        case rel => exact ⟨j + 1, _, by omega, by go_num, rfl, O2, B2⟩
        case measure => simp [intOf]; omega
      · obtain rfl : j = lb := by omega
        have HO2 : Hid (OwnT w.heap.size wr v (unionT ts us)) := Lib.hid (by
          have := hown.out
          rwa [List.take_of_length_le (by rw [KL.out]; exact Nat.le_refl _)] at this)
        clear hown
        go_wp2_with fail
        go_ret
        exact ⟨v, rfl, HO2.out, hnx⟩
set_option maxRecDepth 100000 in
set_option maxHeartbeats 1600000 in
theorem specUnion (a b : Option Addr) (la ca lb cb : Nat) (ts us : List Tri3) (w : World) (h : IsTris w a la ca ts) (hp : Plain a) (k : IsTris w b lb cb us) (hsm : Sm ts) (ksm : Sm us) :
    Calls Try.prog 35 #[.slice a la ca, .slice b lb cb] w (ResPost (unionO ts us) w) := by
  have A1 := specGraphOk a la ca ts w h hsm
  cases hg : graphOk ts
  · rw [hg] at A1
    have HR : Hid (unionO ts us = none) := Lib.hid (by unfold unionO; rw [hg]; simp)
    have C1 := Lib.hid A1
    clear A1 hg h hsm k ksm
    go_enter Try.func35, Try.ntmps35
    go_wp2_with fail
    refine C1.out.mono ?_
    rintro e w1 ⟨rfl, hb1⟩
    go_wp2_with fail
    go_ret2
    rw [HR.out]
    exact ResPost.no hb1
  rw [hg] at A1
  have C1 := Lib.hid A1
  cases kg : graphOk us
  · have HR : Hid (unionO ts us = none) := Lib.hid (by unfold unionO; rw [kg]; simp)
    have HK := Lib.hid kg
    clear A1 hg kg h hsm
    go_enter Try.func35, Try.ntmps35
    go_wp2_with fail
    refine C1.out.mono ?_
    rintro e w1 ⟨rfl, hb1⟩
    have A2 := specGraphOk b lb cb us w1 (k.next hb1) ksm
    rw [HK.out] at A2
    have C2 := Lib.hid A2
    clear A2 k ksm
    go_wp2_with fail
    refine C2.out.mono ?_
    rintro e w2 ⟨rfl, hb2⟩
    go_wp2_with fail
    go_ret2
    rw [HR.out]
    exact ResPost.no (hb1.trans (hb2.mono hb1.size))
  have HK := Lib.hid kg
  have hla : la ≤ 80 := by have := graphOk_len hg; have := h.len; omega
  have hlb : lb ≤ 80 := by have := graphOk_len kg; have := k.len; omega
  have hlu := unionT_len us ts
  have hlh := h.len
  have hlk := k.len
  have HY : Hid ((unionT ts us).length ≤ 80 → unionO ts us = some (unionT ts us)) := Lib.hid (fun c => by unfold unionO; rw [if_pos ⟨hg, kg, c⟩])
  have HN : Hid (¬ (unionT ts us).length ≤ 80 → unionO ts us = none) := Lib.hid (fun c => by unfold unionO; rw [if_neg (fun h => c h.2.2)])
  have hlu2 : (unionT ts us).length ≤ 160 := by omega
  have HP := Lib.hid hp
  clear A1 hg kg hsm hlu hlh hlk hp
  go_enter Try.func35, Try.ntmps35
  go_wp2_with fail
  refine C1.out.mono ?_
  rintro e w1 ⟨rfl, hb1⟩
  have A2 := specGraphOk b lb cb us w1 (k.next hb1) ksm
  rw [HK.out] at A2
  have C2 := Lib.hid A2
  have h1 := h.next hb1
  have k1 := k.next hb1
  clear A2 h k ksm
  go_wp2_with fail
  refine C2.out.mono ?_
  rintro e w2 ⟨rfl, hb2⟩
  have h2 := h1.next hb2
  have k2 := k1.next hb2
  have B2 := hb1.trans (hb2.mono hb1.size)
  clear hb1 hb2 h1 k1
  have U := Lib.hid (specUnionL a b la ca lb cb ts us w2 h2 HP.out k2 hla hlb)
  clear h2 k2
  go_wp2_with fail
  refine U.out.mono ?_
  rintro e w3 ⟨v, rfl, ho, hb3⟩
  have O3 := own_base ho B2.size
  have B3 := B2.trans (hb3.mono B2.size)
  obtain ⟨uu, huu⟩ : ∃ l, unionT ts us = l := ⟨_, rfl⟩
  rw [huu] at O3 HY HN hlu2
  obtain ⟨x, y, rfl⟩ : ∃ x y, v = .slice x uu.length y := by
    rcases O3.2 with ⟨rfl, e⟩ | ⟨g, c, cur, rfl, _⟩
    · exact ⟨none, 0, by rw [e]⟩
    · exact ⟨_, _, rfl⟩
  have HO := Lib.hid O3
  clear ho hb3 O3 U huu
  by_cases c : (80 : Int) < (uu.length : Int)
  · have HR := Lib.hid (HN.out (by omega))
    clear HY HN
    go_wp2_with fail
    go_ret2
    rw [HR.out]
    exact ResPost.no B3
  · have HR := Lib.hid (HY.out (by omega))
    clear HY HN
    go_wp2_with fail
    go_ret2
    rw [HR.out]
    exact ResPost.yes HO.out B3
set_option maxRecDepth 100000 in
set_option maxHeartbeats 1600000 in
theorem specWith (a : Option Addr) (len cap : Nat) (ts : List Tri3) (s p o : ByteArray) (w : World) (h : IsTris w a len cap ts) (hpl : Plain a) (hsm : Sm ts) (hs : s.size ≤ 2097152) (hp : p.size ≤ 2097152) (ho : o.size ≤ 2097152) :
    Calls Try.prog 27 #[.slice a len cap, .agg #[.string s, .string p, .string o]] w (ResPost (withT ts (s, p, o)) w) := by
  have A1 := specGraphOk a len cap ts (w.alloc (.cells #[.string s, .string p, .string o] 33)) (h.next ((Below.refl w.heap.size w).alloc (Nat.le_refl _) _)) hsm
  have B0 := (Below.refl w.heap.size w).alloc (Nat.le_refl _) (.cells #[.string s, .string p, .string o] 33)
  have X0 := Box.new w (.string s) (.string p) (.string o) 33
  have h0 := h.next B0
  cases hg : graphOk ts
  · rw [hg] at A1
    have HR : Hid (withT ts (s, p, o) = none) := Lib.hid (by unfold withT; rw [hg]; simp)
    have C1 := Lib.hid A1
    clear A1 hg h h0 hsm X0
    go_enter Try.func27, Try.ntmps27
    go_wp2_with fail
    refine C1.out.mono ?_
    rintro e w1 ⟨rfl, hb1⟩
    go_wp2_with fail
    go_ret2
    rw [HR.out]
    exact ResPost.no (B0.trans (hb1.mono B0.size))
  rw [hg] at A1
  have hl := h.len
  have hl80 := graphOk_len hg
  have hlen : len ≤ 1048576 := by omega
  have C1 := Lib.hid A1
  have A2 := specTripleOk s p o hs hp ho
  change ∀ w, Calls _ _ _ w fun e w' => e = .returned (.bool (okT (s, p, o))) ∧ Below w.heap.size w w' at A2
  cases ht : okT (s, p, o)
  · rw [ht] at A2
    have HR : Hid (withT ts (s, p, o) = none) := Lib.hid (by unfold withT; rw [ht]; simp)
    have C2 := Lib.hid A2
    clear A1 A2 hg ht h h0 hsm hl hl80
    go_enter Try.func27, Try.ntmps27
    go_wp2_with fail
    refine C1.out.mono ?_
    rintro e w1 ⟨rfl, hb1⟩
    have X1 := X0.next hb1
    obtain ⟨c0, c1, c2⟩ := X1.cells
    have B1 := B0.trans (hb1.mono B0.size)
    clear X0 hb1 B0
    go_wp2_with fail
    refine (C2.out _).mono ?_
    rintro e w2 ⟨rfl, hb2⟩
    go_wp2_with fail
    go_ret2
    rw [HR.out]
    exact ResPost.no (B1.trans (hb2.mono B1.size))
  rw [ht] at A2
  have C2 := Lib.hid A2
  have hlp := putT_len ts (s, p, o)
  have hlp2 : (putT ts (s, p, o)).length ≤ 81 := by omega
  have HY : Hid ((putT ts (s, p, o)).length ≤ 80 → withT ts (s, p, o) = some (putT ts (s, p, o))) := Lib.hid (fun c => by unfold withT; rw [if_pos ⟨hg, ht, c⟩])
  have HN : Hid (¬ (putT ts (s, p, o)).length ≤ 80 → withT ts (s, p, o) = none) := Lib.hid (fun c => by unfold withT; rw [if_neg (fun h => c h.2.2)])
  have HP := Lib.hid hpl
  clear A1 A2 hg ht h hsm hl hl80 hlp hpl
  go_enter Try.func27, Try.ntmps27
  go_wp2_with fail
  refine C1.out.mono ?_
  rintro e w1 ⟨rfl, hb1⟩
  have X1 := X0.next hb1
  have h1 := h0.next hb1
  obtain ⟨c0, c1, c2⟩ := X1.cells
  have B1 := B0.trans (hb1.mono B0.size)
  clear X0 hb1 B0 h0
  go_wp2_with fail
  refine (C2.out _).mono ?_
  rintro e w2 ⟨rfl, hb2⟩
  have X2 := X1.next hb2
  have h2 := h1.next hb2
  have B2 := B1.trans (hb2.mono B1.size)
  clear X1 hb2 B1 h1 c0 c1 c2
  obtain ⟨c0, c1, c2⟩ := X2.cells
  have U := Lib.hid (specPutAny a len cap ts s p o w2 h2 HP.out hlen)
  clear h2
  go_wp2_with fail
  refine U.out.mono ?_
  rintro e w3 ⟨v, rfl, ho3, hb3⟩
  have O3 := own_base ho3 B2.size
  have B3 := B2.trans (hb3.mono B2.size)
  obtain ⟨uu, huu⟩ : ∃ l, putT ts (s, p, o) = l := ⟨_, rfl⟩
  rw [huu] at O3 HY HN hlp2
  obtain ⟨x, y, rfl⟩ : ∃ x y, v = .slice x uu.length y := by
    rcases O3.2 with ⟨rfl, e⟩ | ⟨g, c, cur, rfl, _⟩
    · exact ⟨none, 0, by rw [e]⟩
    · exact ⟨_, _, rfl⟩
  have HO := Lib.hid O3
  clear ho3 hb3 O3 U huu c0 c1 c2 X2
  by_cases c : (80 : Int) < (uu.length : Int)
  · have HR := Lib.hid (HN.out (by omega))
    clear HY HN
    go_wp2_with fail
    go_ret2
    rw [HR.out]
    exact ResPost.no B3
  · have HR := Lib.hid (HY.out (by omega))
    clear HY HN
    go_wp2_with fail
    go_ret2
    rw [HR.out]
    exact ResPost.yes HO.out B3
set_option maxRecDepth 100000 in
set_option maxHeartbeats 1600000 in
theorem specWithout (a : Option Addr) (len cap : Nat) (ts : List Tri3) (s p o : ByteArray) (w : World) (h : IsTris w a len cap ts) (_hpl : Plain a) (hsm : Sm ts) (_hs : s.size ≤ 2097152) (_hp : p.size ≤ 2097152) (_ho : o.size ≤ 2097152) :
    Calls Try.prog 32 #[.slice a len cap, .agg #[.string s, .string p, .string o]] w (ResPost (withoutT ts (s, p, o)) w) := by
  have A1 := specGraphOk a len cap ts (w.alloc (.cells #[.string s, .string p, .string o] 33)) (h.next ((Below.refl w.heap.size w).alloc (Nat.le_refl _) _)) hsm
  have B0 := (Below.refl w.heap.size w).alloc (Nat.le_refl _) (.cells #[.string s, .string p, .string o] 33)
  have X0 := Box.new w (.string s) (.string p) (.string o) 33
  have h0 := h.next B0
  cases hg : graphOk ts
  · rw [hg] at A1
    have HR : Hid (withoutT ts (s, p, o) = none) := Lib.hid (by unfold withoutT; rw [hg]; simp)
    have C1 := Lib.hid A1
    clear A1 hg h h0 hsm X0
    go_enter Try.func32, Try.ntmps32
    go_wp2_with fail
    refine C1.out.mono ?_
    rintro e w1 ⟨rfl, hb1⟩
    go_wp2_with fail
    go_ret2
    rw [HR.out]
    exact ResPost.no (B0.trans (hb1.mono B0.size))
  rw [hg] at A1
  have hl := h.len
  have hl80 := graphOk_len hg
  have hlen : len ≤ 1048576 := by omega
  have C1 := Lib.hid A1
  have HY : Hid ((s, p, o) ∈ ts → withoutT ts (s, p, o) = some (lessT ts (s, p, o))) := Lib.hid (fun c => by unfold withoutT; rw [if_pos ⟨hg, c⟩])
  have HN : Hid ((s, p, o) ∉ ts → withoutT ts (s, p, o) = none) := Lib.hid (fun c => by unfold withoutT; rw [if_neg (fun h => c h.2)])
  have W1 : Hid (∀ w, IsTris w a len cap ts → Calls Try.prog 68 #[.slice a len cap, .agg #[.string s, .string p, .string o]] w fun e w' => e = .returned (.bool (decide ((s, p, o) ∈ ts))) ∧ Below w.heap.size w w') := Lib.hid (fun w h => specHas a len cap ts s p o w h hlen)
  have W2 : Hid (∀ w, IsTris w a len cap ts → Calls Try.prog 69 #[.slice a len cap, .agg #[.string s, .string p, .string o]] w fun e w' => ∃ v, e = .returned v ∧ OwnT w.heap.size w' v (lessT ts (s, p, o)) ∧ Below w.heap.size w w') := Lib.hid (fun w h => specLess a len cap ts s p o w h hlen)
  clear A1 hg h hsm hl hl80
  by_cases hin : (s, p, o) ∈ ts
  · have HR := Lib.hid (HY.out hin)
    rw [decide_eq_true hin] at W1
    clear HY HN hin
    go_enter Try.func32, Try.ntmps32
    go_wp2_with fail
    refine C1.out.mono ?_
    rintro e w1 ⟨rfl, hb1⟩
    have X1 := X0.next hb1
    have h1 := h0.next hb1
    obtain ⟨c0, c1, c2⟩ := X1.cells
    have B1 := B0.trans (hb1.mono B0.size)
    clear X0 hb1 B0 h0
    go_wp2_with fail
    refine (W1.out _ h1).mono ?_
    rintro e w2 ⟨rfl, hb2⟩
    have X2 := X1.next hb2
    have h2 := h1.next hb2
    have B2 := B1.trans (hb2.mono B1.size)
    clear X1 hb2 B1 h1 c0 c1 c2
    obtain ⟨c0, c1, c2⟩ := X2.cells
    go_wp2_with fail
    refine (W2.out _ h2).mono ?_
    rintro e w3 ⟨v, rfl, ho3, hb3⟩
    have O3 := Lib.hid (own_base ho3 B2.size)
    have B3 := B2.trans (hb3.mono B2.size)
    clear ho3 hb3 h2 X2 c0 c1 c2 W1 W2
    go_wp2_with fail
    go_ret2
    rw [HR.out]
    exact ResPost.yes O3.out B3
  · have HR := Lib.hid (HN.out hin)
    rw [decide_eq_false hin] at W1
    clear HY HN hin W2
    go_enter Try.func32, Try.ntmps32
    go_wp2_with fail
    refine C1.out.mono ?_
    rintro e w1 ⟨rfl, hb1⟩
    have X1 := X0.next hb1
    have h1 := h0.next hb1
    obtain ⟨c0, c1, c2⟩ := X1.cells
    have B1 := B0.trans (hb1.mono B0.size)
    clear X0 hb1 B0 h0
    go_wp2_with fail
    refine (W1.out _ h1).mono ?_
    rintro e w2 ⟨rfl, hb2⟩
    go_wp2_with fail
    go_ret2
    rw [HR.out]
    exact ResPost.no (B1.trans (hb2.mono B1.size))
end Go.Proofs.Ytinmjbgljgljkaa
