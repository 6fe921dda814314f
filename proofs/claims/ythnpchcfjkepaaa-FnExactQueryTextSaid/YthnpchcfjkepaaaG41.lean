/- A query's text: the specification. -/
import Derived.Test.YthnpchcfjkepaaaG39
import Derived.Test.YthnpchcfjkepaaaG37
namespace Go.Proofs.Ythnpchcfjkepaaa
open Go.RowKit Go.WideShapes Go.Maps
/-- Words, joined. -/
def tx (ws : List ByteArray) : List UInt8 := Lib.join (ws.map (·.data.toList)) [32]
theorem tx_snoc {ws : List ByteArray} (h : ws ≠ []) (x : ByteArray) : tx (ws ++ [x]) = tx ws ++ (32 :: x.data.toList) := by
  cases ws with
  | nil => exact absurd rfl h
  | cons a l =>
    unfold tx
    rw [List.cons_append, List.map_cons, List.map_cons, Lib.join_cons, Lib.join_cons]
    unfold Lib.joinTail
    simp
theorem tx_word {y : ByteArray} {ws : List ByteArray} (h : ws ≠ []) (hy : y.data.toList = tx ws) (x : ByteArray) : y ++ { data := #[32] } ++ x = bs (tx (ws ++ [x])) := by
  apply bs_eq
  rw [tx_snoc h]
  simp [hy]
theorem tx_where {y : ByteArray} {ws : List ByteArray} (h : ws ≠ []) (hy : y.data.toList = tx ws) : y ++ { data := #[32, 119, 104, 101, 114, 101] } = bs (tx (ws ++ [wheB])) := by
  apply bs_eq
  rw [tx_snoc h]
  simp [hy]
theorem tx_also {y : ByteArray} {ws : List ByteArray} (h : ws ≠ []) (hy : y.data.toList = tx ws) : y ++ { data := #[32, 97, 108, 115, 111] } = bs (tx (ws ++ [alsB])) := by
  apply bs_eq
  rw [tx_snoc h]
  simp [hy]
theorem tx_bound {ws : List ByteArray} (h0 : ws ≠ []) (h : ∀ x ∈ ws, x.size ≤ 6291460) (hl : ws.length ≤ 15) : (tx ws).length ≤ 100000000 := by
  cases ws with
  | nil => exact absurd rfl h0
  | cons a l =>
    unfold tx
    rw [List.map_cons, Lib.join_cons, List.length_append]
    have h1 := joinTail_most l (fun y hy => h y (List.mem_cons_of_mem _ hy))
    have h2 := h a (List.mem_cons_self ..)
    have e : a.data.toList.length = a.size := rfl
    rw [List.length_cons] at hl
    rw [e]
    omega
def ws1 (vs : List ByteArray) (k : Nat) : List ByteArray := [selB] ++ vs.take k
def ws2 (vs : List ByteArray) (t1 : List Tri3) (k : Nat) : List ByteArray := [selB] ++ vs ++ [wheB] ++ (t1.take k).map patB
def ws3 (vs : List ByteArray) (t1 t2 : List Tri3) (k : Nat) : List ByteArray := [selB] ++ vs ++ [wheB] ++ t1.map patB ++ [alsB] ++ (t2.take k).map patB
theorem ws1_ne (vs : List ByteArray) (k : Nat) : ws1 vs k ≠ [] := by unfold ws1; simp
theorem ws2_ne (vs : List ByteArray) (t1 : List Tri3) (k : Nat) : ws2 vs t1 k ≠ [] := by unfold ws2; simp
theorem ws3_ne (vs : List ByteArray) (t1 t2 : List Tri3) (k : Nat) : ws3 vs t1 t2 k ≠ [] := by unfold ws3; simp
theorem ws1_zero (vs : List ByteArray) : (.string { data := #[115, 101, 108, 101, 99, 116] } : Value) = .string (bs (tx (ws1 vs 0))) := by unfold ws1; rw [List.take_zero, List.append_nil]; rfl
theorem ws1_next (vs : List ByteArray) {k : Nat} (h : k < vs.length) : ws1 vs (k + 1) = ws1 vs k ++ [vs[k]] := by unfold ws1; rw [List.take_succ_eq_append_getElem h]; simp
theorem ws2_zero (vs : List ByteArray) (t1 : List Tri3) {k : Nat} (h : vs.length ≤ k) : ws2 vs t1 0 = ws1 vs k ++ [wheB] := by unfold ws1 ws2; rw [List.take_of_length_le h]; simp
theorem ws2_next (vs : List ByteArray) (t1 : List Tri3) {k : Nat} (h : k < t1.length) : ws2 vs t1 (k + 1) = ws2 vs t1 k ++ [patB t1[k]] := by unfold ws2; rw [List.take_succ_eq_append_getElem h, List.map_append, ← List.append_assoc]; rfl
theorem ws3_zero (vs : List ByteArray) (t1 t2 : List Tri3) {k : Nat} (h : t1.length ≤ k) : ws3 vs t1 t2 0 = ws2 vs t1 k ++ [alsB] := by unfold ws2 ws3; rw [List.take_of_length_le h]; simp
theorem ws3_next (vs : List ByteArray) (t1 t2 : List Tri3) {k : Nat} (h : k < t2.length) : ws3 vs t1 t2 (k + 1) = ws3 vs t1 t2 k ++ [patB t2[k]] := by unfold ws3; rw [List.take_succ_eq_append_getElem h, List.map_append, ← List.append_assoc]; rfl
theorem ws2_end (vs : List ByteArray) (t1 t2 : List Tri3) {k : Nat} (h : t1.length ≤ k) (h0 : t2.length = 0) : ws2 vs t1 k = qWords vs t1 t2 := by unfold ws2 qWords alsoW; rw [if_pos h0, List.take_of_length_le h, List.append_nil]
theorem ws3_end (vs : List ByteArray) (t1 t2 : List Tri3) {k : Nat} (h : t2.length ≤ k) (h0 : ¬ t2.length = 0) : ws3 vs t1 t2 k = qWords vs t1 t2 := by unfold ws3 qWords alsoW; rw [if_neg h0, List.take_of_length_le h]; simp
theorem ws_small {vs : List ByteArray} {t1 t2 : List Tri3} (hv : ∀ x ∈ vs, x.size ≤ 1048576) (h1 : Sm t1) (h2 : Sm t2) (x : ByteArray) (h : x = selB ∨ x = wheB ∨ x = alsB ∨ x ∈ vs ∨ (∃ t ∈ t1, patB t = x) ∨ (∃ t ∈ t2, patB t = x)) : x.size ≤ 6291460 := by
  rcases h with rfl | rfl | rfl | h | ⟨t, ht, rfl⟩ | ⟨t, ht, rfl⟩
  · decide
  · decide
  · decide
  · have := hv x h; omega
  · exact patB_size (h1 t ht)
  · exact patB_size (h2 t ht)
theorem ws1_len {vs : List ByteArray} {t1 t2 : List Tri3} (hv : ∀ x ∈ vs, x.size ≤ 1048576) (h1 : Sm t1) (h2 : Sm t2) (l : vs.length ≤ 4) (k : Nat) : (tx (ws1 vs k)).length ≤ 100000000 := by
  refine tx_bound (ws1_ne _ _) (fun x hx => ws_small hv h1 h2 x ?_) ?_
  · unfold ws1 at hx
    simp only [List.mem_append, List.mem_singleton] at hx
    rcases hx with h | h
    · exact .inl h
    · exact .inr (.inr (.inr (.inl (List.mem_of_mem_take h))))
  · unfold ws1; simp only [List.length_append, List.length_cons, List.length_nil, List.length_take]; omega
theorem ws2_len {vs : List ByteArray} {t1 t2 : List Tri3} (hv : ∀ x ∈ vs, x.size ≤ 1048576) (h1 : Sm t1) (h2 : Sm t2) (l : vs.length ≤ 4) (l1 : t1.length ≤ 4) (k : Nat) : (tx (ws2 vs t1 k)).length ≤ 100000000 := by
  refine tx_bound (ws2_ne _ _ _) (fun x hx => ws_small hv h1 h2 x ?_) ?_
  · unfold ws2 at hx
    simp only [List.mem_append, List.mem_singleton] at hx
    rcases hx with ((h | h) | h) | h
    · exact .inl h
    · exact .inr (.inr (.inr (.inl h)))
    · exact .inr (.inl h)
    · obtain ⟨t, ht, e⟩ := List.mem_map.1 h
      exact .inr (.inr (.inr (.inr (.inl ⟨t, List.mem_of_mem_take ht, e⟩))))
  · unfold ws2; simp only [List.length_append, List.length_cons, List.length_nil, List.length_take, List.length_map]; omega
theorem ws3_len {vs : List ByteArray} {t1 t2 : List Tri3} (hv : ∀ x ∈ vs, x.size ≤ 1048576) (h1 : Sm t1) (h2 : Sm t2) (l : vs.length ≤ 4) (l1 : t1.length ≤ 4) (l2 : t2.length ≤ 4) (k : Nat) : (tx (ws3 vs t1 t2 k)).length ≤ 100000000 := by
  refine tx_bound (ws3_ne _ _ _ _) (fun x hx => ws_small hv h1 h2 x ?_) ?_
  · unfold ws3 at hx
    simp only [List.mem_append, List.mem_singleton] at hx
    rcases hx with ((((h | h) | h) | h) | h) | h
    · exact .inl h
    · exact .inr (.inr (.inr (.inl h)))
    · exact .inr (.inl h)
    · obtain ⟨t, ht, e⟩ := List.mem_map.1 h
      exact .inr (.inr (.inr (.inr (.inl ⟨t, ht, e⟩))))
    · exact .inr (.inr (.inl h))
    · obtain ⟨t, ht, e⟩ := List.mem_map.1 h
      exact .inr (.inr (.inr (.inr (.inr ⟨t, List.mem_of_mem_take ht, e⟩))))
  · unfold ws3; simp only [List.length_append, List.length_cons, List.length_nil, List.length_take, List.length_map]; omega
theorem specPat (t : Tri3) (h : t.1.size ≤ 2097152 ∧ t.2.1.size ≤ 2097152 ∧ t.2.2.size ≤ 2097152) (w : World) :
    Calls Try.prog 50 #[.agg #[.string t.1, .string t.2.1, .string t.2.2]] w fun e w' => e = .returned (.string (patB t)) ∧ Below w.heap.size w w' := specRulePat t.1 t.2.1 t.2.2 h.1 h.2.1 h.2.2 w
set_option maxRecDepth 100000 in
set_option maxHeartbeats 12800000 in
theorem specQueryText (a0 a1 a2 : Option Addr) (n0 n1 n2 c0 c1 c2 : Nat) (vs : List ByteArray) (t1 t2 : List Tri3) (w : World) (h : IsQry w a0 a1 a2 n0 n1 n2 c0 c1 c2 vs t1 t2) (hvz : ∀ x ∈ vs, x.size ≤ 1048576) (h1 : Sm t1) (h2 : Sm t2) (l0 : n0 ≤ 1048576) :
    Calls Try.prog 20 #[.agg #[.slice a0 n0 c0, .slice a1 n1 c1, .slice a2 n2 c2]] w fun e w' => e = .returned (.string (bs (queryTx vs t1 t2))) ∧ Below w.heap.size w w' := by
  have B0 := Lib.hid ((Below.refl w.heap.size w).alloc (Nat.le_refl _) (.cells #[.slice a0 n0 c0, .slice a1 n1 c1, .slice a2 n2 c2] 43))
  have X0 := Lib.hid (cells_new w #[.slice a0 n0 c0, .slice a1 n1 c1, .slice a2 n2 c2] 43)
  have I0 := Lib.hid (h.next ((Below.refl w.heap.size w).alloc (Nat.le_refl _) (.cells #[.slice a0 n0 c0, .slice a1 n1 c1, .slice a2 n2 c2] 43)))
  have HV := Lib.hid h.1.1.len
  have HT1 := Lib.hid h.2.1.len
  have HT2 := Lib.hid h.2.2.len
  have HS1 := Lib.hid h1
  have HS2 := Lib.hid h2
  obtain ⟨q, hq⟩ : ∃ q, queryTx vs t1 t2 = q := ⟨_, rfl⟩
  rw [hq]
  unfold queryTx at hq
  have C1 := fun (W : World) (hi : IsQry W a0 a1 a2 n0 n1 n2 c0 c1 c2 vs t1 t2) => specQueryOk a0 a1 a2 n0 n1 n2 c0 c1 c2 vs t1 t2 W hi HS1.out HS2.out l0
  cases hk : queryOk vs t1 t2
  · rw [hk] at C1 hq
    have D1 := Lib.hid C1
    have HQ := Lib.hid hq
    clear C1 hq h h1 h2 hvz
    go_enter Try.func20, Try.ntmps20
    obtain ⟨v, u, z⟩ := X0.out.now.tre
    go_wp2_with fail
    refine (D1.out _ I0.out).mono ?_
    rintro e w1 ⟨rfl, hb⟩
    have B1 := Lib.hid (B0.out.trans (hb.mono B0.out.size))
    clear hb B0 X0 I0
    clear v u z
    go_wp2_with fail
    go_ret
    exact ⟨by rw [← HQ.out]; rfl, B1.out⟩
  rw [hk] at C1 hq
  have D1 := Lib.hid C1
  obtain ⟨_, hb1, hb2, _, h4⟩ := queryOk_vs hk
  have hl1 : t1.length ≤ 4 := by unfold bgpOk at hb1; simp only [Bool.and_eq_true, decide_eq_true_eq] at hb1; exact hb1.1
  have hl2 : t2.length ≤ 4 := by unfold bgpOk at hb2; simp only [Bool.and_eq_true, decide_eq_true_eq] at hb2; exact hb2.1
  have HL1 := Lib.hid (ws1_len hvz h1 h2 h4)
  have HL2 := Lib.hid (ws2_len hvz h1 h2 h4 hl1)
  have HL3 := Lib.hid (ws3_len hvz h1 h2 h4 hl1 hl2)
  have HZ := Lib.hid hvz
  have HQ : Hid (tx (qWords vs t1 t2) = q) := Lib.hid hq
  rw [HV.out] at h4
  rw [HT1.out] at hl1
  rw [HT2.out] at hl2
  clear C1 hq h h1 h2 hvz hk hb1 hb2
  go_enter Try.func20, Try.ntmps20
  obtain ⟨v, u, z⟩ := X0.out.now.tre
  go_wp2_with fail
  refine (D1.out _ I0.out).mono ?_
  rintro e w1 ⟨rfl, hb⟩
  have B1 := Lib.hid (B0.out.trans (hb.mono B0.out.size))
  have X1 := Lib.hid (X0.out.next hb)
  have I1 := Lib.hid (I0.out.next hb)
  clear hb B0 X0 I0
  clear v u z D1
  go_wp2_with fail
  go_loopw [3, 4] (fun v i wr => ∃ k : Nat, k ≤ n0 ∧ i = .int .i64 k ∧ v = .string (bs (tx (ws1 vs k))) ∧ Hid (Holds w.heap.size (w.heap.size + 1) wr (Cells w.heap.size #[.slice a0 n0 c0, .slice a1 n1 c1, .slice a2 n2 c2] 43)) ∧ Hid (IsQry wr a0 a1 a2 n0 n1 n2 c0 c1 c2 vs t1 t2) ∧ Hid (Below w.heap.size w wr)) (fun _ i _ => n0 - (intOf i).toNat)
  case atStart => exact ⟨0, Nat.zero_le _, rfl, ws1_zero vs, X1, I1, B1⟩
  case round =>
    clear X1 I1 B1
    obtain ⟨k, hk, rfl, rfl, X0, I0, B0⟩ := hrel
    have hk6 : (0 : Int) ≤ (k : Int) := by omega
    obtain ⟨v, u, z⟩ := X0.out.now.tre
    obtain ⟨y, hy⟩ : ∃ y, bs (tx (ws1 vs k)) = y := ⟨_, rfl⟩
    have hys : y.size ≤ 100000000 := by rw [← hy, bs_size]; exact HL1.out k
    have hyl : y.data.toList = tx (ws1 vs k) := by rw [← hy, bs_toList]
    rw [hy]
    clear hy
    by_cases hlt : k < n0
    · have hj7 : (k : Int) < (n0 : Int) := by omega
      obtain ⟨vb, vo, rfl, hvb, hvc, hvm, hts, hcs⟩ := I0.out.1.1.cells (by omega)
      have ht : vs[k]? = some (vs[k]'(by omega)) := List.getElem?_eq_getElem (by omega)
      have d0 := hcs k _ ht
      have hxs := HZ.out (vs[k]'(by omega)) (List.getElem_mem _)
      have HK := Lib.hid (ws1_next vs (k := k) (by omega))
      generalize vs[k]'(by omega) = x at ht d0 HK hxs
      have HR : Hid (y ++ { data := #[32] } ++ x = bs (tx (ws1 vs (k + 1)))) := Lib.hid (by rw [HK.out]; exact tx_word (ws1_ne _ _) hyl x)
      clear HK hyl hts hcs hvc hvm ht
      go_wp2_with fail
      go_roundw
      case rel => exact ⟨k + 1, by omega, by go_num, by rw [← HR.out], X0, I0, B0⟩
      case measure => simp [intOf]; omega
    · have HR : Hid (y ++ { data := #[32, 119, 104, 101, 114, 101] } = bs (tx (ws2 vs t1 0))) := Lib.hid (by rw [ws2_zero vs t1 (k := k) (by have := HV.out; omega)]; exact tx_where (ws1_ne _ _) hyl)
      clear hyl
      go_wp2_with fail
      clear v u z
      go_loopw [3, 5] (fun v i wr => ∃ k : Nat, k ≤ n1 ∧ i = .int .i64 k ∧ v = .string (bs (tx (ws2 vs t1 k))) ∧ Hid (Holds w.heap.size (w.heap.size + 1) wr (Cells w.heap.size #[.slice a0 n0 c0, .slice a1 n1 c1, .slice a2 n2 c2] 43)) ∧ Hid (IsQry wr a0 a1 a2 n0 n1 n2 c0 c1 c2 vs t1 t2) ∧ Hid (Below w.heap.size w wr)) (fun _ i _ => n1 - (intOf i).toNat)
      case atStart => exact ⟨0, Nat.zero_le _, rfl, by rw [← HR.out], X0, I0, B0⟩
      case round =>
        clear X0 I0 B0
        obtain ⟨k, hk, rfl, rfl, X0, I0, B0⟩ := hrel
        have hk6 : (0 : Int) ≤ (k : Int) := by omega
        obtain ⟨v, u, z⟩ := X0.out.now.tre
        obtain ⟨y, hy⟩ : ∃ y, bs (tx (ws2 vs t1 k)) = y := ⟨_, rfl⟩
        have hys : y.size ≤ 100000000 := by rw [← hy, bs_size]; exact HL2.out k
        have hyl : y.data.toList = tx (ws2 vs t1 k) := by rw [← hy, bs_toList]
        rw [hy]
        clear hy
        by_cases hlt : k < n1
        · have hj7 : (k : Int) < (n1 : Int) := by omega
          obtain ⟨vb, vo, rfl, hvb, hvc, hvm, hts, hcs⟩ := I0.out.2.1.cells (by omega)
          have ht : t1[k]? = some (t1[k]'(by omega)) := List.getElem?_eq_getElem (by omega)
          obtain ⟨d0, d1, d2, m0, m1, m2⟩ := hcs k _ ht
          have HM := Lib.hid (HS1.out (t1[k]'(by omega)) (List.getElem_mem _))
          have HK := Lib.hid (ws2_next vs t1 (k := k) (by omega))
          generalize t1[k]'(by omega) = t at ht d0 d1 d2 m0 m1 m2 HK HM
          have E := Lib.hid (fun W => specPat t HM.out W)
          have HZx := patB_size HM.out
          have HR : Hid (y ++ { data := #[32] } ++ patB t = bs (tx (ws2 vs t1 (k + 1)))) := Lib.hid (by rw [HK.out]; exact tx_word (ws2_ne _ _ _) hyl _)
          generalize patB t = x at HZx HR E
          clear HK HM hyl hts hcs hvc hvm ht m0 m1 m2
          go_wp2_with fail
          refine (E.out _).mono ?_
          rintro e w2 ⟨rfl, hb⟩
          have B2 := Lib.hid (B0.out.trans (hb.mono B0.out.size))
          have X2 := Lib.hid (X0.out.next hb)
          have I2 := Lib.hid (I0.out.next hb)
          clear hb X0 I0 B0 d0 d1 d2 v u z E
          go_wp2_with fail
          go_roundw
          case rel => exact ⟨k + 1, by omega, by go_num, by rw [← HR.out], X2, I2, B2⟩
          case measure => simp [intOf]; omega
        · have hge : ¬ (k : Int) < (n1 : Int) := by omega
          by_cases hn2 : n2 = 0
          · have hpos : ¬ (0 : Int) < (n2 : Int) := by omega
            have HE : Hid (y = bs q) := Lib.hid (by rw [← HQ.out, ← ws2_end vs t1 t2 (k := k) (by have := HT1.out; omega) (by rw [HT2.out]; exact hn2)]; exact bs_eq hyl)
            clear hyl
            have HN := Lib.hid hn2
            clear hn2
            go_wp2_with fail
            clear v u z
            go_loopw [3, 6] (fun v i wr => i = .int .i64 0 ∧ v = .string y ∧ Hid (Holds w.heap.size (w.heap.size + 1) wr (Cells w.heap.size #[.slice a0 n0 c0, .slice a1 n1 c1, .slice a2 n2 c2] 43)) ∧ Hid (IsQry wr a0 a1 a2 n0 n1 n2 c0 c1 c2 vs t1 t2) ∧ Hid (Below w.heap.size w wr)) (fun _ i _ => 0)
            case atStart => exact ⟨rfl, rfl, X0, I0, B0⟩
            case round =>
              obtain ⟨rfl, rfl, X2, I2, B2⟩ := hrel
              clear X0 I0 B0
              obtain ⟨v, u, z⟩ := X2.out.now.tre
              go_wp2_with fail
              go_ret
              exact ⟨by rw [← HE.out]; rfl, B2.out⟩
          · have hpos : (0 : Int) < (n2 : Int) := by omega
            have HR : Hid (y ++ { data := #[32, 97, 108, 115, 111] } = bs (tx (ws3 vs t1 t2 0))) := Lib.hid (by rw [ws3_zero vs t1 t2 (k := k) (by have := HT1.out; omega)]; exact tx_also (ws2_ne _ _ _) hyl)
            clear hyl
            go_wp2_with fail
            clear v u z hge
            go_loopw [3, 6] (fun v i wr => ∃ k : Nat, k ≤ n2 ∧ i = .int .i64 k ∧ v = .string (bs (tx (ws3 vs t1 t2 k))) ∧ Hid (Holds w.heap.size (w.heap.size + 1) wr (Cells w.heap.size #[.slice a0 n0 c0, .slice a1 n1 c1, .slice a2 n2 c2] 43)) ∧ Hid (IsQry wr a0 a1 a2 n0 n1 n2 c0 c1 c2 vs t1 t2) ∧ Hid (Below w.heap.size w wr)) (fun _ i _ => n2 - (intOf i).toNat)
            case atStart => exact ⟨0, Nat.zero_le _, rfl, by rw [← HR.out], X0, I0, B0⟩
            case round =>
              clear X0 I0 B0
              obtain ⟨k, hk, rfl, rfl, X0, I0, B0⟩ := hrel
              have hk6 : (0 : Int) ≤ (k : Int) := by omega
              obtain ⟨v, u, z⟩ := X0.out.now.tre
              obtain ⟨y, hy⟩ : ∃ y, bs (tx (ws3 vs t1 t2 k)) = y := ⟨_, rfl⟩
              have hys : y.size ≤ 100000000 := by rw [← hy, bs_size]; exact HL3.out k
              have hyl : y.data.toList = tx (ws3 vs t1 t2 k) := by rw [← hy, bs_toList]
              rw [hy]
              clear hy
              by_cases hlt : k < n2
              · have hj7 : (k : Int) < (n2 : Int) := by omega
                obtain ⟨vb, vo, rfl, hvb, hvc, hvm, hts, hcs⟩ := I0.out.2.2.cells (by omega)
                have ht : t2[k]? = some (t2[k]'(by omega)) := List.getElem?_eq_getElem (by omega)
                obtain ⟨d0, d1, d2, m0, m1, m2⟩ := hcs k _ ht
                have HM := Lib.hid (HS2.out (t2[k]'(by omega)) (List.getElem_mem _))
                have HK := Lib.hid (ws3_next vs t1 t2 (k := k) (by omega))
                generalize t2[k]'(by omega) = t at ht d0 d1 d2 m0 m1 m2 HK HM
                have E := Lib.hid (fun W => specPat t HM.out W)
                have HZx := patB_size HM.out
                have HR : Hid (y ++ { data := #[32] } ++ patB t = bs (tx (ws3 vs t1 t2 (k + 1)))) := Lib.hid (by rw [HK.out]; exact tx_word (ws3_ne _ _ _ _) hyl _)
                generalize patB t = x at HZx HR E
                clear HK HM hyl hts hcs hvc hvm ht m0 m1 m2
                go_wp2_with fail
                refine (E.out _).mono ?_
                rintro e w2 ⟨rfl, hb⟩
                have B2 := Lib.hid (B0.out.trans (hb.mono B0.out.size))
                have X2 := Lib.hid (X0.out.next hb)
                have I2 := Lib.hid (I0.out.next hb)
                clear hb X0 I0 B0 d0 d1 d2 v u z E
                go_wp2_with fail
                go_roundw
                case rel => exact ⟨k + 1, by omega, by go_num, by rw [← HR.out], X2, I2, B2⟩
                case measure => simp [intOf]; omega
              · have HE : Hid (y = bs q) := Lib.hid (by rw [← HQ.out, ← ws3_end vs t1 t2 (k := k) (by have := HT2.out; omega) (by rw [HT2.out]; exact hn2)]; exact bs_eq hyl)
                clear hyl
                go_wp2_with fail
                go_ret
                exact ⟨by rw [← HE.out]; rfl, B0.out⟩
end Go.Proofs.Ythnpchcfjkepaaa
