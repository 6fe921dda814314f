/- slices.Insert at pairs: one pair put into a slice that the call owns. -/
import Derived.Test.YtbhlenjcahonnaaGreatJExactSolutions25
import Derived.Lib.Overlaps
import Derived.Lib.AppendZerosOnto
import Derived.Laws.CopyOwn
import Derived.Laws.Externs
import Derived.Deep.RegionLaw
import Derived.Shelf.RegionOpenPlain
import Derived.Test.YtbhlenjcahonnaaGreatJExactSolutions31
import Derived.Test.YtbhlenjcahonnaaGreatJExactSolutions23
import Derived.StillTailTactics
namespace Go.Proofs.YtbhlenjcahonnaaGreat
open Go.RowKit Go.WideShapes
/-- A copy of elements of several cells into a row that is known whole. -/
theorem run_copy_wide {P : Program} (w : World) (dT sT ty elem : TypeId) (z g o dLen dCap : Nat) (a : Addr) (sLen sCap k : Nat) (cur : Array Value) (t : TypeId) (cs : List Value)
    (hu : P.underlying dT = some (.slice elem)) (hs : (P.info? elem).map (·.size) = some z) (hg : w.heap[g]? = some (.cells cur t (0, 0))) (hk : Nat.min sLen dLen = k) (hn : cs.length = k * z)
    (hsrc : ∀ j v, cs[j]? = some v → w.cell? (a.add j) = some v) (hfit : o + cs.length ≤ cur.size) (h1 : ∀ v ∈ cs, v.oneCell' = true) :
    (Builtin.copy_ #[dT, sT] ty #[.slice (some ⟨g, o, none⟩) dLen dCap, .slice (some a) sLen sCap]).run P w =
      .ok (goInt k) (w.setRow g (cur.toList.take o ++ cs ++ cur.toList.drop (o + cs.length)).toArray) := by
  have hl := run_loadCells_list (P := P) w a cs hsrc
  have hst := run_storeCells_at P g o t cs 0 cur w hg (by simpa using hfit) h1
  cases hq : P.info? elem with
  | none => simp [hq] at hs
  | some i =>
    have hi : i.size = z := by simpa [hq] using hs
    simp [Builtin.copy_, run_underlying hu, Builtin.lenOf, Builtin.firstCells, sizeOf, typeInfo, hq, hi, hk, ← hn, hl, hst]
theorem upon_copy {P : Program} {w : World} {o : Oper} {a : Act} {K : Act → World → Prop} {Q : Exit → Act → World → Prop} (d s : Operand) (t t' : TypeId)
    (ho : o.op = .call { callee := .builtin .copy, args := #[d, s], argTypes := #[t, t'] }) (v u : Value) (hd : a.eval d = v) (hs : a.eval s = u) {v' : Value} {w' : World}
    (hr : (Builtin.copy_ #[t, t'] o.type #[v, u]).run P w = .ok v' w') (h : K (a.put o.dst v') w') : Oper.wp P o a w K Q := by
  unfold Oper.wp execOp
  simp only [ho, resolve, invoke, builtin, Sem.run_bind, Sem.run_pure, Result.andThen_ok, List.map_toArray, List.map_cons, List.map_nil, hd, hs, hr]
  exact h
theorem wpList_copy_is {P : Program} {w : World} {ops : Array Oper} {rest : List Oper} {o : Oper} {a : Act} {Q : Exit → Act → World → Prop} (hgd : o.guard = none) (d s : Operand) (t t' : TypeId)
    (ho : o.op = .call { callee := .builtin .copy, args := #[d, s], argTypes := #[t, t'] }) (v u : Value) (hd : a.eval d = v) (hs : a.eval s = u) {v' : Value} {w' : World}
    (hr : (Builtin.copy_ #[t, t'] o.type #[v, u]).run P w = .ok v' w') (h : wpList P ops Q rest (a.put o.dst v') w') : wpList P ops Q (o :: rest) a w :=
  wpList_plain hgd fun _ hK => upon_copy d s t t' ho v u hd hs hr (hK _ _ h)
theorem step_copy_is {P : Program} {ops : Array Oper} {o : Oper} {a : Act} {w : World} {K : Act → World → Prop} {Q : Exit → Act → World → Prop} {E : Prop} (hgd : o.guard = none) (d s : Operand) (t t' : TypeId)
    (ho : o.op = .call { callee := .builtin .copy, args := #[d, s], argTypes := #[t, t'] }) (v u : Value) (hd : a.eval d = v) (hs : a.eval s = u) {v' : Value} {w' : World}
    (hr : (Builtin.copy_ #[t, t'] o.type #[v, u]).run P w = .ok v' w') (h : K (a.put o.dst v') w') :
    if Region.wanted o (yielded ops a.tmps) = true then Oper.wp P o a w K Q else E := by
  have hw : Region.wanted o (yielded ops a.tmps) = true := by simp [Region.wanted, hgd]
  rw [if_pos hw]
  exact upon_copy d s t t' ho v u hd hs hr h
theorem ins_room {α : Type} (L D V : List α) (a d : Nat) (hd : a + V.length = d) (hl : d ≤ L.length) :
    ((L.take d ++ D ++ L.drop (d + D.length)).take a ++ V) ++ (L.take d ++ D ++ L.drop (d + D.length)).drop (a + V.length) = (L.take a ++ V) ++ (D ++ L.drop (d + D.length)) := by
  have h1 : (L.take d ++ D ++ L.drop (d + D.length)).take a = L.take a := by
    rw [List.append_assoc, List.take_append_of_le_length (by rw [List.length_take]; omega), List.take_take, Nat.min_eq_left (by omega)]
  have h2 : (L.take d ++ D ++ L.drop (d + D.length)).drop (a + V.length) = D ++ L.drop (d + D.length) := by
    rw [List.append_assoc, hd]
    exact List.drop_left' (by rw [List.length_take]; omega)
  rw [h1, h2]
theorem ins_grow {α : Type} (A V R D : List α) (a d : Nat) (ha : A.length = a) (hd : a + V.length = d) :
    ∃ S, (((A ++ R).take a ++ V ++ (A ++ R).drop (a + V.length)).take d ++ D) ++ (((A ++ R).take a ++ V ++ (A ++ R).drop (a + V.length)).drop (d + D.length)) = (A ++ V ++ D) ++ S := by
  have h1 : (A ++ R).take a = A := List.take_left' ha
  rw [h1]
  have h2 : (A ++ V ++ (A ++ R).drop (a + V.length)).take d = A ++ V := List.take_left' (by rw [List.length_append]; omega)
  rw [h2]
  exact ⟨_, rfl⟩
theorem flatP_ins (ts : List Pre2) (i : Nat) (p : Pre2) : flatP ((ts.take i ++ [p]) ++ ts.drop i) = (flatP (ts.take i) ++ [.string p.1, .string p.2]) ++ flatP (ts.drop i) := by
  rw [flatP_append, flatP_append]; rfl
theorem ins_length (ts : List Pre2) (i : Nat) (p : Pre2) (hi : i ≤ ts.length) : ((ts.take i ++ [p]) ++ ts.drop i).length = ts.length + 1 := by
  simp only [List.length_append, List.length_take, List.length_cons, List.length_nil, List.length_drop]; omega
/-- What is known of a pair put in. -/
def InsPost (B : Nat) (v : Value) (ts : List Pre2) (i : Nat) (p : Pre2) (w : World) (e : Ending) (w' : World) : Prop :=
  ∃ v', e = .returned v' ∧ OwnP B w' v' ((ts.take i ++ [p]) ++ ts.drop i) ∧ w.grownBy w' v.ownBlock
theorem ins_end (ts : List Pre2) (n : Nat) (p : Pre2) (hn : n = ts.length) : (ts.take n ++ [p]) ++ ts.drop n = ts ++ [p] := by subst hn; simp
theorem own_snocI {B n : Nat} {w : World} {v : Value} {ts : List Pre2} {p : Pre2} (hn : n = ts.length) (h : w.ownsRow B 34 2 v (ts.length + 1) (flatP ts ++ [.string p.1, .string p.2])) : OwnP B w v ((ts.take n ++ [p]) ++ ts.drop n) := by
  rw [ins_end ts n p hn]
  unfold OwnP
  rw [flatP_append, List.length_append]
  exact h
theorem pair_two (p : Pre2) : ∀ u ∈ [Value.string p.1, Value.string p.2], u.oneCell' = true := by
  intro u hu
  simp only [List.mem_cons, List.not_mem_nil, or_false] at hu
  rcases hu with rfl | rfl <;> rfl
theorem pair_at {w : World} {vb : Nat} {p : Pre2} {T : TypeId} (h : w.heap[vb]? = some (.cells #[.string p.1, .string p.2] T (0, 0))) : ∀ (j : Nat) (u : Value), [Value.string p.1, Value.string p.2][j]? = some u → w.cell? ((⟨vb, 0, none⟩ : Addr).add j) = some u := by
  intro j u hj
  rw [add_plain, Nat.zero_add]
  match j, hj with
  | 0, hj => simp at hj; subst hj; simp [World.cell?, h]
  | 1, hj => simp at hj; subst hj; simp [World.cell?, h]
  | j + 2, hj => simp at hj
set_option maxHeartbeats 4000000 in
set_option maxRecDepth 100000 in
theorem insEnd (B : Nat) (v : Value) (ts : List Pre2) (p : Pre2) (w : World) (vb : Nat) (T : TypeId) (h : OwnP B w v ts) (hB : B ≤ w.heap.size) (hv : w.heap[vb]? = some (.cells #[.string p.1, .string p.2] T (0, 0))) (hl : ts.length ≤ 1048576) :
    Calls Tryz.prog 140 #[v, .int .i64 ts.length, .slice (some ⟨vb, 0, none⟩) 1 1] w (InsPost B v ts ts.length p w) := by
  obtain ⟨i0, hi, hz0, hz1, hz2⟩ := info_parts infoPair
  obtain ⟨n, hn⟩ : ∃ n, n = ts.length := ⟨_, rfl⟩
  have h' := h
  unfold OwnP at h'
  rw [← hn] at hl h' ⊢
  have HN := Lib.hid hn
  have HA := Lib.hid (pair_at hv)
  have H' := Lib.hid h'
  rcases h'.2 with ⟨rfl, h0⟩ | ⟨g, cap, cur, rfl, hg1, hg2, h1, h2, h3, h4⟩
  · subst h0
    clear h' hn hv
    go_enter Tryz.func140, Tryz.ntmps140
    go_wp2_with (at_builtin; refine wpList_append_own _ rfl _ _ 31 rfl B 34 i0 (.agg #[.string ⟨#[]⟩, .string ⟨#[]⟩]) 2 32 Tryz.underlying31 hi hz0 hz1 hz2 rfl (by decide) _ _ _ rfl H'.out ⟨vb, 0, none⟩ 1 1 [.string p.1, .string p.2] rfl rfl HA.out (pair_two p) ?qc4 ?qc5 ?qc6 ?_)
    case qc4 => unfold maxLen; omega
    case qc5 => omega
    case qc6 => exact hB
    intro v' w1 hown hgrow _
    go_wp2_with fail
    go_ret
    exact ⟨v', rfl, own_snocI HN.out (by rw [← HN.out]; exact hown), hgrow⟩
  · have hnc : (n : Int) ≤ (cap : Int) := by omega
    have hc63 : cap ≤ 9223372036854775807 := by unfold maxLen at h2; omega
    clear h' hn hv h3 h4 hg2 h2
    go_enter Tryz.func140, Tryz.ntmps140
    go_wp2_with (at_builtin; refine wpList_append_own _ rfl _ _ 31 rfl B 34 i0 (.agg #[.string ⟨#[]⟩, .string ⟨#[]⟩]) 2 32 Tryz.underlying31 hi hz0 hz1 hz2 rfl (by decide) _ _ _ rfl H'.out ⟨vb, 0, none⟩ 1 1 [.string p.1, .string p.2] rfl rfl HA.out (pair_two p) ?qc4 ?qc5 ?qc6 ?_)
    all_goals try (case qc4 => unfold maxLen; omega)
    all_goals try (case qc5 => omega)
    all_goals try (case qc6 => exact hB)
    all_goals
      intro v' w1 hown hgrow _
      go_wp2_with fail
      go_ret
      exact ⟨v', rfl, own_snocI HN.out (by rw [← HN.out]; exact hown), hgrow⟩
set_option maxHeartbeats 4000000 in
set_option maxRecDepth 100000 in
theorem insRoom (B g n c i : Nat) (cur : Array Value) (ts : List Pre2) (p : Pre2) (w : World) (vb : Nat) (T : TypeId) (hin : i < n) (hroom : n + 1 ≤ c) (hc : c ≤ maxLen) (hn : ts.length = n)
    (hg : w.heap[g]? = some (.cells cur 34 (0, 0))) (hBg : B ≤ g) (hsz : cur.size = c * 2) (htk : cur.toList.take (n * 2) = flatP ts)
    (hv : w.heap[vb]? = some (.cells #[.string p.1, .string p.2] T (0, 0))) (hne : vb ≠ g) :
    Calls Tryz.prog 140 #[.slice (some ⟨g, 0, none⟩) n c, .int .i64 i, .slice (some ⟨vb, 0, none⟩) 1 1] w (InsPost B (.slice (some ⟨g, 0, none⟩) n c) ts i p w) := by
  obtain ⟨i0, hi, hz0, hz1, hz2⟩ := info_parts infoPair
  have hc63 : c ≤ 9223372036854775807 := by unfold maxLen at hc; omega
  have hzz : (Tryz.prog.info? 34).map (·.size) = some 2 := by rw [hi]; simp [hz1]
  have hso : ∀ w, (Go.sizeOf 34).run Tryz.prog w = .ok 2 w := fun w => by simp [sizeOf, typeInfo, hi, hz1]
  have hov : ∀ o lb cb, (callFunc 162 #[.slice (some ⟨vb, 0, none⟩) 1 1, .slice (some ⟨g, o, none⟩) lb cb]).run Tryz.prog w = .ok (.value (.bool false)) w := fun o lb cb => by
    rw [run_callFunc_extern Tryz.func162 (by kernel_rfl) (by kernel_rfl) (by kernel_rfl) (e := Extern.SlicesOverlaps.overlaps #[31, 31] #[4]) (by kernel_rfl),
      Lib.run_overlaps_apart w 31 4 34 Tryz.underlying31 2 hso ⟨vb, 0, none⟩ ⟨g, o, none⟩ 1 1 lb cb hne T 34 2 cur.size (by simp [World.shape?, hv]) (by simp [World.shape?, hg]) (by omega) (by simp [World.frozen?, hv]) (by simp [World.frozen?, hv])]
    rfl
  obtain ⟨D, hD⟩ : ∃ D, D = flatP (ts.drop i) := ⟨_, rfl⟩
  have hDl : D.length = (n - i) * 2 := by rw [hD, flatP_len, List.length_drop, hn]
  have hD1 : ∀ v ∈ D, v.oneCell' = true := by rw [hD]; exact flatP_one _
  have hDc : ∀ j u, D[j]? = some u → w.cell? ((⟨g, i * 2, none⟩ : Addr).add j) = some u := fun j u hj => by
    have hjl := (List.getElem?_eq_some_iff.1 hj).1
    have e : (flatP ts)[i * 2 + j]? = some u := by
      rw [flatP_split ts i, List.getElem?_append_right (by rw [flatP_len, List.length_take]; omega), flatP_len, List.length_take, Nat.min_eq_left (by omega), Nat.add_sub_cancel_left, ← hD]
      exact hj
    rw [← htk, List.getElem?_take_of_lt (by omega), Array.getElem?_toList] at e
    rw [add_plain]
    simp [World.cell?, hg, e]
  obtain ⟨R1, hR1⟩ : ∃ R1, R1 = (cur.toList.take ((i + 1) * 2) ++ D ++ cur.toList.drop ((i + 1) * 2 + D.length)).toArray := ⟨_, rfl⟩
  obtain ⟨R2, hR2⟩ : ∃ R2, R2 = (R1.toList.take (i * 2) ++ [Value.string p.1, Value.string p.2] ++ R1.toList.drop (i * 2 + 2)).toArray := ⟨_, rfl⟩
  have hS1 : R1.size = cur.size := by
    rw [hR1]; simp only [List.size_toArray, List.length_append, List.length_take, List.length_drop, Array.length_toList]; omega
  have hS2 : R2.size = c * 2 := by
    rw [hR2]; simp only [List.size_toArray, List.length_append, List.length_take, List.length_drop, Array.length_toList, List.length_cons, List.length_nil]; omega
  have hcp1 : ∀ ty dc sc, (Builtin.copy_ #[31, 31] ty #[.slice (some ⟨g, (i + 1) * 2, none⟩) (n - i) dc, .slice (some ⟨g, i * 2, none⟩) (n + 1 - i) sc]).run Tryz.prog w.drew = .ok (goInt ((n - i : Nat) : Int)) (w.drew.setRow g R1) := fun ty dc sc => by
    rw [hR1]
    exact run_copy_wide w.drew _ _ ty 34 2 g ((i + 1) * 2) (n - i) dc ⟨g, i * 2, none⟩ (n + 1 - i) sc (n - i) cur 34 D Tryz.underlying31 hzz hg (by simp only [Nat.min_def]; split <;> omega) hDl hDc (by omega) hD1
  have hg1 : (w.drew.setRow g R1).heap[g]? = some (.cells R1 34 (0, 0)) := setRow_heap w.drew g cur R1 _ _ hg
  have hv1 : (w.drew.setRow g R1).heap[vb]? = some (.cells #[.string p.1, .string p.2] T (0, 0)) := (setRow_other w.drew g vb R1 hne).trans hv
  obtain ⟨W1, hW1⟩ : ∃ W1, W1 = w.drew.setRow g R1 := ⟨_, rfl⟩
  rw [← hW1] at hcp1 hg1 hv1
  have hcp2 : ∀ ty dc, (Builtin.copy_ #[31, 31] ty #[.slice (some ⟨g, i * 2, none⟩) (n + 1 - i) dc, .slice (some ⟨vb, 0, none⟩) 1 1]).run Tryz.prog W1 = .ok (goInt ((1 : Nat) : Int)) (W1.setRow g R2) := fun ty dc => by
    rw [hR2]
    exact run_copy_wide W1 _ _ ty 34 2 g (i * 2) (n + 1 - i) dc ⟨vb, 0, none⟩ 1 1 1 R1 34 [.string p.1, .string p.2] Tryz.underlying31 hzz hg1 (by simp only [Nat.min_def]; split <;> omega) rfl (pair_at hv1) (by simp; omega) (pair_two p)
  have HP : Hid (InsPost B (.slice (some ⟨g, 0, none⟩) n c) ts i p w (.returned (.slice (some ⟨g, 0, none⟩) (n + 1) c)) (W1.setRow g R2)) := Lib.hid (by
    refine ⟨_, rfl, ?_, ?_⟩
    · unfold OwnP
      rw [ins_length ts i p (by omega), hn, flatP_ins, ← hD]
      refine ⟨by rw [← hn]; simp only [List.length_append, flatP_len, List.length_take, List.length_cons, List.length_nil, hDl]; omega, .inr ⟨g, c, R2, rfl, hBg, setRow_heap W1 g R1 R2 _ _ hg1, hroom, hc, hS2, ?_⟩⟩
      rw [hR2, hR1, List.toList_toArray, List.toList_toArray]
      have e := ins_room cur.toList D [Value.string p.1, Value.string p.2] (i * 2) ((i + 1) * 2) (by simp; omega) (by rw [Array.length_toList]; omega)
      rw [show i * 2 + 2 = i * 2 + [Value.string p.1, Value.string p.2].length from rfl, e]
      have ea : cur.toList.take (i * 2) = flatP (ts.take i) := by
        rw [show cur.toList.take (i * 2) = (cur.toList.take (n * 2)).take (i * 2) by rw [List.take_take, Nat.min_eq_left (by omega)], htk, flatP_split ts i]
        exact List.take_left' (by rw [flatP_len, List.length_take, Nat.min_eq_left (by omega)])
      rw [ea, ← List.append_assoc]
      exact List.take_left' (by simp only [List.length_append, flatP_len, List.length_take, List.length_cons, List.length_nil, hDl]; omega)
    · rw [hW1]
      exact ⟨rfl, rfl, rfl, by simp, fun k _ hk => (setRow_other _ g k R2 (fun e => hk (by simp [Value.ownBlock, e]))).trans (setRow_other w.drew g k R1 (fun e => hk (by simp [Value.ownBlock, e])))⟩)
  clear hR1 hR2 hS1 hS2 hD hDl hD1 hDc hsz htk hg1 hv1 hg hv hW1 hBg hc
  have hw1 : IntKind.i64.wrap ((i : Int) + 1) = (i : Int) + 1 := by rw [IntKind.wrap_i64]; omega
  have hb1 : (0 : Int) ≤ (i : Int) + 1 := by omega
  have hin' : i ≤ n := by omega
  have htn : ((i : Int) + 1).toNat = i + 1 := by omega
  have hb2 : ¬ (c = i + 1) := by omega
  have hb3 : (i : Int) ≤ (n : Int) + 1 := by omega
  have hb4 : ¬ (c = i) := by omega
  have hb5 : ¬ ((i : Int) = (n : Int)) := by omega
  have hb6 : ¬ ((c : Int) < (n : Int) + 1) := by omega
  have mixed : Tryz.prog.follows Departure.mixedOrders = true := by kernel_rfl
  go_enter Tryz.func140, Tryz.ntmps140
  go_wp2_with (simp only [hov])
  go_region_law_o (refine step_copy_is rfl _ _ 31 31 rfl _ _ (by simp [Act.eval, Act.put]) (by simp [Act.eval, Act.put]) (hcp1 _ _ _) ?_)
  go_wp2_with (at_builtin; refine wpList_copy_is rfl _ _ 31 31 rfl _ _ rfl rfl (hcp2 _ _) ?_)
  go_ret
  exact HP.out
set_option maxHeartbeats 4000000 in
set_option maxRecDepth 100000 in
theorem insGrow (B g n c i : Nat) (cur : Array Value) (ts : List Pre2) (p : Pre2) (w : World) (vb : Nat) (T : TypeId) (hin : i < n) (hnc : n ≤ c) (hroom : c < n + 1) (hl : n ≤ 1048576) (hn : ts.length = n)
    (hg : w.heap[g]? = some (.cells cur 34 (0, 0))) (hB : B ≤ w.heap.size) (htk : cur.toList.take (n * 2) = flatP ts)
    (hv : w.heap[vb]? = some (.cells #[.string p.1, .string p.2] T (0, 0))) :
    Calls Tryz.prog 140 #[.slice (some ⟨g, 0, none⟩) n c, .int .i64 i, .slice (some ⟨vb, 0, none⟩) 1 1] w (InsPost B (.slice (some ⟨g, 0, none⟩) n c) ts i p w) := by
  obtain ⟨i0, hi, hz0, hz1, hz2⟩ := info_parts infoPair
  have hzz : (Tryz.prog.info? 34).map (·.size) = some 2 := by rw [hi]; simp [hz1]
  have hgw : g < w.heap.size := (Array.getElem?_eq_some_iff.1 hg).1
  have hvw : vb < w.heap.size := (Array.getElem?_eq_some_iff.1 hv).1
  have hcell : ∀ (j : Nat) (u : Value), (flatP ts)[j]? = some u → w.cell? ⟨g, j, none⟩ = some u := fun j u hj => by
    rw [← htk] at hj
    have hjl := (List.getElem?_eq_some_iff.1 hj).1
    rw [List.length_take] at hjl
    rw [List.getElem?_take_of_lt (by omega), Array.getElem?_toList] at hj
    simp [World.cell?, hg, hj]
  obtain ⟨A, hA⟩ : ∃ A, A = flatP (ts.take i) := ⟨_, rfl⟩
  obtain ⟨D, hD⟩ : ∃ D, D = flatP (ts.drop i) := ⟨_, rfl⟩
  have hAl : A.length = i * 2 := by rw [hA, flatP_len, List.length_take, Nat.min_eq_left (by omega)]
  have hDl : D.length = (n - i) * 2 := by rw [hD, flatP_len, List.length_drop, hn]
  have hAD : flatP ts = A ++ D := by rw [hA, hD]; exact flatP_split ts i
  have hD1 : ∀ v ∈ D, v.oneCell' = true := by rw [hD]; exact flatP_one _
  have hDc : ∀ j u, D[j]? = some u → w.cell? ⟨g, i * 2 + j, none⟩ = some u := fun j u hj => hcell _ u (by
    rw [hAD, List.getElem?_append_right (by omega), hAl, Nat.add_sub_cancel_left]; exact hj)
  have hold : (Builtin.firstCells i0.size i (.slice (some ⟨g, 0, none⟩) i c)).run Tryz.prog w.drew = .ok A.toArray w.drew := by
    rw [hz1]
    exact run_firstCells_some w.drew 2 i ⟨g, 0, none⟩ i c A hAl (fun j v hj => by
      rw [add_plain, Nat.zero_add]
      exact hcell j v (by rw [hAD, List.getElem?_append_left (List.getElem?_eq_some_iff.1 hj).1]; exact hj))
  obtain ⟨G, hG⟩ : ∃ G, G = grownCap w (n + 1) c 34 := ⟨_, rfl⟩
  obtain ⟨ROW, hROW⟩ : ∃ ROW : Array Value, ROW = A.toArray ++ Builtin.zeroCells (Value.agg #[.string ⟨#[]⟩, .string ⟨#[]⟩]).cells (n + 1 - i) ++ Builtin.zeroCells (Value.agg #[.string ⟨#[]⟩, .string ⟨#[]⟩]).cells (G - (n + 1)) := ⟨_, rfl⟩
  have hik : i + (n + 1 - i) = n + 1 := by omega
  have hkk : (n : Int) + 1 - (i : Int) = ((n + 1 - i : Nat) : Int) := by omega
  have hrz : ∀ ty, (Builtin.append_ #[31, 3] ty #[.slice (some ⟨g, 0, none⟩) i c, .int .i64 ((n : Int) + 1 - (i : Int))]).run Tryz.prog w =
      .ok (.slice (some ⟨w.heap.size, 0, none⟩) (n + 1) G) (w.drew.alloc (.cells ROW 34)) := fun ty => by
    have h := Lib.run_append_grow_zeros w 31 3 ty 34 i0 _ .i64 .i64 Tryz.underlying31 Tryz.underlying3 hi hz0 (some ⟨g, 0, none⟩) i c A hold (n + 1 - i) (by omega) (by omega) (by omega) (by omega) (by rw [hz2]; omega) (by rw [hz2, hik]; exact growslice_fits hroom (by omega))
    rw [hik, ← hG, ← hROW] at h
    rw [hkk]
    exact h
  have hGn : n + 1 ≤ G := by rw [hG]; exact grownCap_ge w _ _ _
  have hGm : G ≤ maxLen := by rw [hG]; exact grownCap_le_maxLen w (n + 1) c _ (by unfold maxLen; omega)
  have hG63 : G ≤ 9223372036854775807 := by unfold maxLen at hGm; omega
  have hRs : ROW.size = G * 2 := by
    rw [hROW]
    simp [Builtin.zeroCells, Value.cells, hAl]
    omega
  obtain ⟨R, hR⟩ : ∃ R, ROW.toList = A ++ R := ⟨_, by rw [hROW, Array.toList_append, Array.toList_append, List.append_assoc]⟩
  obtain ⟨R1, hR1⟩ : ∃ R1, R1 = (ROW.toList.take (i * 2) ++ [Value.string p.1, Value.string p.2] ++ ROW.toList.drop (i * 2 + 2)).toArray := ⟨_, rfl⟩
  obtain ⟨R2, hR2⟩ : ∃ R2, R2 = (R1.toList.take ((i + 1) * 2) ++ D ++ R1.toList.drop ((i + 1) * 2 + D.length)).toArray := ⟨_, rfl⟩
  have hS1 : R1.size = G * 2 := by
    rw [hR1]; simp only [List.size_toArray, List.length_append, List.length_take, List.length_drop, Array.length_toList, List.length_cons, List.length_nil]; omega
  have hS2 : R2.size = G * 2 := by
    rw [hR2]; simp only [List.size_toArray, List.length_append, List.length_take, List.length_drop, Array.length_toList]; omega
  obtain ⟨N, hN⟩ : ∃ N, N = w.heap.size := ⟨_, rfl⟩
  have hn0 : (w.alloc (.cells ROW 34)).heap[N]? = some (.cells ROW 34 (0, 0)) := by rw [hN]; exact heap_alloc_new w _
  have hn1 : ((w.alloc (.cells ROW 34)).setRow N R1).heap[N]? = some (.cells R1 34 (0, 0)) := setRow_heap _ N ROW R1 _ _ hn0
  have hcpA : ∀ (W : World), W.heap = (w.alloc (.cells ROW 34)).heap → ∀ ty dc, (Builtin.copy_ #[31, 31] ty #[.slice (some ⟨N, i * 2, none⟩) (n + 1 - i) dc, .slice (some ⟨vb, 0, none⟩) 1 1]).run Tryz.prog W = .ok (goInt ((1 : Nat) : Int)) (W.setRow N R1) := fun W hW ty dc => by
    rw [hR1]
    refine run_copy_wide W _ _ ty 34 2 N (i * 2) (n + 1 - i) dc ⟨vb, 0, none⟩ 1 1 1 ROW 34 [.string p.1, .string p.2] Tryz.underlying31 hzz (by rw [hW]; exact hn0) (by simp only [Nat.min_def]; split <;> omega) rfl (pair_at (T := T) ?_) (by simp; omega) (pair_two p)
    rw [hW, Below.heap_alloc w _ vb hvw]; exact hv
  have hcpB : ∀ (W : World), W.heap = ((w.alloc (.cells ROW 34)).setRow N R1).heap → ∀ ty dc sc, (Builtin.copy_ #[31, 31] ty #[.slice (some ⟨N, (i + 1) * 2, none⟩) (n - i) dc, .slice (some ⟨g, i * 2, none⟩) (n - i) sc]).run Tryz.prog W = .ok (goInt ((n - i : Nat) : Int)) (W.setRow N R2) := fun W hW ty dc sc => by
    rw [hR2]
    refine run_copy_wide W _ _ ty 34 2 N ((i + 1) * 2) (n - i) dc ⟨g, i * 2, none⟩ (n - i) sc (n - i) R1 34 D Tryz.underlying31 hzz (by rw [hW]; exact hn1) (by simp only [Nat.min_def]; split <;> omega) hDl (fun j u hj => ?_) (by omega) hD1
    rw [add_plain]
    have e := hDc j u hj
    have hh : W.heap[g]? = w.heap[g]? := by rw [hW, setRow_other _ N g R1 (by omega), Below.heap_alloc w _ g hgw]
    rw [World.cell?_of_block hh]; exact e
  have HP : Hid (∀ W', W'.heap = (((w.alloc (.cells ROW 34)).setRow N R1).setRow N R2).heap → W'.os = w.os → W'.tape = w.tape → W'.output = w.output → InsPost B (.slice (some ⟨g, 0, none⟩) n c) ts i p w (.returned (.slice (some ⟨N, 0, none⟩) (n + 1) G)) W') := Lib.hid (by
    intro W' hh e1 e2 e3
    refine ⟨_, rfl, ?_, ?_⟩
    · unfold OwnP
      rw [ins_length ts i p (by omega), hn, flatP_ins, ← hD, ← hA]
      refine ⟨by simp only [List.length_append, List.length_cons, List.length_nil, hDl, hAl]; omega, .inr ⟨N, G, R2, rfl, by omega, by rw [hh]; exact setRow_heap _ N R1 R2 _ _ hn1, hGn, hGm, hS2, ?_⟩⟩
      rw [hR2, hR1, List.toList_toArray, List.toList_toArray, hR]
      obtain ⟨S, e⟩ := ins_grow A [Value.string p.1, Value.string p.2] R D (i * 2) ((i + 1) * 2) hAl (by simp; omega)
      rw [show i * 2 + 2 = i * 2 + [Value.string p.1, Value.string p.2].length from rfl, e]
      exact List.take_left' (by simp only [List.length_append, List.length_cons, List.length_nil, hDl, hAl]; omega)
    · refine ⟨e1, e2, e3, by rw [hh]; simp, fun k hk _ => ?_⟩
      rw [hh, setRow_other _ N k R2 (by omega), setRow_other _ N k R1 (by omega), Below.heap_alloc w _ k hk])
  clear hR1 hR2 hS1 hS2 hD hA hAl hDl hD1 hDc htk hn0 hn1 hg hv hAD hold hROW hR hRs hcell hG hGm hkk hik
  have hw1 : IntKind.i64.wrap ((i : Int) + 1) = (i : Int) + 1 := by rw [IntKind.wrap_i64]; omega
  have hb1 : (0 : Int) ≤ (i : Int) + 1 := by omega
  have hin' : i ≤ n := by omega
  have htn : ((i : Int) + 1).toNat = i + 1 := by omega
  have hb3 : (i : Int) ≤ (n : Int) := by omega
  have hb4 : ¬ (c = i) := by omega
  have hb5 : ¬ ((i : Int) = (n : Int)) := by omega
  have hb6 : (c : Int) < (n : Int) + 1 := by omega
  have hGi : ¬ (G = i) := by omega
  have hGim : ¬ (G = i + 1) := by omega
  have mixed : Tryz.prog.follows Departure.mixedOrders = true := by kernel_rfl
  rw [← hN] at hrz
  clear hN hgw hvw hB
  have hA1 := hcpA (w.alloc (.cells ROW 34)).drew rfl
  have hB1 := hcpB ((w.alloc (.cells ROW 34)).drew.setRow N R1).drew rfl
  have hB2 := hcpB ((w.alloc (.cells ROW 34)).drew.setRow N R1) rfl
  clear hcpA hcpB
  go_enter Tryz.func140, Tryz.ntmps140
  go_wp2_with (first
    | (at_builtin; refine Lib.wpList_append_run _ rfl _ _ _ _ rfl _ _ rfl rfl _ _ (hrz _) ?_)
    | (at_builtin; refine wpList_copy_is rfl _ _ 31 31 rfl _ _ rfl rfl (hA1 _ _) ?_)
    | (at_builtin; refine wpList_copy_is rfl _ _ 31 31 rfl _ _ rfl rfl (hB2 _ _ _) ?_))
  go_region_law_o (refine step_copy_is rfl _ _ 31 31 rfl _ _ (by simp [Act.eval, Act.put]) (by simp [Act.eval, Act.put]) (hB1 _ _ _) ?_)
  go_wp2
  go_ret
  exact HP.out _ rfl rfl rfl rfl
theorem insPair (B : Nat) (v : Value) (ts : List Pre2) (p : Pre2) (i : Nat) (w : World) (vb : Nat) (T : TypeId) (h : OwnP B w v ts) (hB : B ≤ w.heap.size) (hv : w.heap[vb]? = some (.cells #[.string p.1, .string p.2] T (0, 0)))
    (hne : v.ownBlock ≠ some vb) (hl : ts.length ≤ 1048576) (hi : i ≤ ts.length) :
    Calls Tryz.prog 140 #[v, .int .i64 i, .slice (some ⟨vb, 0, none⟩) 1 1] w (InsPost B v ts i p w) := by
  by_cases he : i = ts.length
  · subst he
    exact insEnd B v ts p w vb T h hB hv hl
  · rcases h.2 with ⟨rfl, h0⟩ | ⟨g, cap, cur, rfl, hg1, hg2, h1, h2, h3, h4⟩
    · omega
    · by_cases hr : ts.length + 1 ≤ cap
      · exact insRoom B g ts.length cap i cur ts p w vb T (by omega) hr h2 rfl hg2 hg1 h3 h4 hv (fun e => hne (by simp [Value.ownBlock, e]))
      · exact insGrow B g ts.length cap i cur ts p w vb T (by omega) h1 (by omega) hl rfl hg2 hB h4 hv
end Go.Proofs.YtbhlenjcahonnaaGreat
/- The variables of patterns: the specification's way. -/
namespace Go.Proofs.YtbhlenjcahonnaaGreat
open Go.RowKit Go.WideShapes Go.Maps
theorem box_word {w : World} {g : Nat} {s p o : ByteArray} {T : TypeId} (h : Box w g (.string s) (.string p) (.string o) T) (j : Nat) (x : ByteArray) (hx : (wordsT (s, p, o))[j]? = some x) : w.cell? ⟨g, j, none⟩ = some (.string x) := by
  obtain ⟨c0, c1, c2⟩ := h.cells
  have hj : j = 0 ∨ j = 1 ∨ j = 2 := by
    have := (List.getElem?_eq_some_iff.1 hx).1
    simp only [wordsT, List.length_cons, List.length_nil] at this; omega
  rcases hj with rfl | rfl | rfl
  · obtain rfl : s = x := by simpa [wordsT] using hx
    exact c0
  · obtain rfl : p = x := by simpa [wordsT] using hx
    exact c1
  · obtain rfl : o = x := by simpa [wordsT] using hx
    exact c2
theorem word_small {s p o : ByteArray} (h : s.size ≤ 2097152 ∧ p.size ≤ 2097152 ∧ o.size ≤ 2097152) (j : Nat) (x : ByteArray) (hx : (wordsT (s, p, o))[j]? = some x) : x.size ≤ 2097152 := by
  obtain ⟨q1, q2, q3⟩ := h
  have hj : j = 0 ∨ j = 1 ∨ j = 2 := by
    have := (List.getElem?_eq_some_iff.1 hx).1
    simp only [wordsT, List.length_cons, List.length_nil] at this; omega
  rcases hj with rfl | rfl | rfl
  · obtain rfl : s = x := by simpa [wordsT] using hx
    exact q1
  · obtain rfl : p = x := by simpa [wordsT] using hx
    exact q2
  · obtain rfl : o = x := by simpa [wordsT] using hx
    exact q3
def allVars (ts : List Tri3) : List Txt := putAllS [] (varWords ts)
set_option maxRecDepth 100000 in
set_option maxHeartbeats 3200000 in
theorem specVars (a : Option Addr) (len cap : Nat) (ts : List Tri3) (w : World) (h : IsTris w a len cap ts) (hsm : Sm ts) (hlen : len ≤ 1000) :
    Calls Tryz.prog 122 #[.slice a len cap] w fun e w' => ∃ g n c, e = .returned (.slice (some ⟨g, 0, none⟩) n c) ∧ OwnS w.heap.size w' (.slice (some ⟨g, 0, none⟩) n c) ((allVars ts).map bs) ∧ (allVars ts).length = n ∧ Below w.heap.size w w' := by
  have HL := Lib.hid h.len
  have HM := Lib.hid hsm
  have H := Lib.hid h
  have B0 := (Below.refl w.heap.size w).alloc (Nat.le_refl _) (.cells #[] 9)
  have O0 : OwnS w.heap.size (w.alloc (.cells #[] 9)) (.slice (some ⟨w.heap.size, 0, none⟩) 0 0) [] := World.ownsRow_lit (size := 1) (e := 9) w #[] 0 (Nat.le_refl _) (by decide) rfl
  clear h hsm
  go_enter Tryz.func122, Tryz.ntmps122
  go_wp2_with fail
  go_loopw [3, 4] (fun v i wr => ∃ k g n c : Nat, k ≤ len ∧ i = .int .i64 k ∧ v = .slice (some ⟨g, 0, none⟩) n c ∧ n ≤ 3 * k ∧ Hid (OwnS w.heap.size wr (.slice (some ⟨g, 0, none⟩) n c) ((allVars (ts.take k)).map bs) ∧ (allVars (ts.take k)).length = n) ∧ Below w.heap.size w wr) (fun _ i _ => len - (intOf i).toNat)
  case atStart => exact ⟨0, w.heap.size, 0, 0, Nat.zero_le _, rfl, rfl, Nat.le_refl _, Lib.hid ⟨by simpa [allVars, varWords, putAllS] using O0, by simp [allVars, varWords, putAllS]⟩, B0⟩
  case round =>
    obtain ⟨k, g, n, c, hk, rfl, rfl, hn, hown, hnx⟩ := hrel
    clear O0 B0
    by_cases hlt : k < len
    · obtain ⟨b, off, rfl, hb, _, _, hts, hcs⟩ := H.out.cells (by omega)
      have ht : ts[k]? = some (ts[k]'(by omega)) := List.getElem?_eq_getElem (by omega)
      obtain ⟨d0, d1, d2, m0, m1, m2⟩ := hcs k _ ht
      clear m0 m1 m2
      have HS : Hid (allVars (ts.take (k + 1)) = putAllS (allVars (ts.take k)) (varsIn (wordsT (ts[k]'(by omega))))) := Lib.hid (by unfold allVars; rw [List.take_succ_eq_append_getElem (by omega), varWords_snoc, putAllS_app])
      have hsm := HM.out (ts[k]'(by omega)) (List.getElem_mem _)
      rw [← hnx.cell (p := ⟨b, _, none⟩) hb, ← World.cell?_drew] at d0 d1 d2
      generalize ts[k]'(by omega) = t at ht d0 d1 d2 HS hsm
      obtain ⟨s, p, o⟩ := t
      try simp only at d0 d1 d2
      have hk6 : (0 : Int) ≤ (k : Int) := by omega
      have hk7 : (k : Int) < (len : Int) := by omega
      have HX := Lib.hid (word_small hsm)
      obtain ⟨acc, hacc⟩ : ∃ l, allVars (ts.take k) = l := ⟨_, rfl⟩
      rw [hacc] at HS hown
      clear ht hts hcs hsm hacc
      go_wp2_with fail
      go_still_tail 15, (by kernel_rfl)
      change wpList _ _ _ _ _ wr.drew
      have BD : Below w.heap.size w wr.drew := hnx.drew
      have OD : Hid (OwnS w.heap.size wr.drew (.slice (some ⟨g, 0, none⟩) n c) (acc.map bs) ∧ acc.length = n) := Lib.hid ⟨World.ownsRow.drew hown.out.1, hown.out.2⟩
      clear hown hnx d0 d1 d2
      generalize wr.drew = wq at BD OD ⊢
      have T2 := Lib.hid (Box.new wq (.string s) (.string p) (.string o) 9)
      have B2 := BD.alloc BD.size (.cells #[.string s, .string p, .string o] 9)
      have O2 : Hid (OwnS w.heap.size (wq.alloc (.cells #[.string s, .string p, .string o] 9)) (.slice (some ⟨g, 0, none⟩) n c) (acc.map bs) ∧ acc.length = n) := Lib.hid ⟨World.ownsRow.alloc OD.out.1 _, OD.out.2⟩
      clear BD OD
      obtain ⟨tb, htb⟩ : ∃ tb, wq.heap.size = tb := ⟨_, rfl⟩
      rw [htb] at T2
      obtain ⟨wd, hwd⟩ : ∃ l, wordsT (s, p, o) = l := ⟨_, rfl⟩
      have hwl : wd.length = 3 := by rw [← hwd]; rfl
      have HBW := Lib.hid (fun (W : World) (hb : Box W tb (.string s) (.string p) (.string o) 9) => box_word hb)
      rw [hwd] at HS HX
      have HWD := Lib.hid hwd
      clear hwd
      go_wp2_with fail
      try rw [htb]
      clear htb
      generalize wq.alloc (.cells #[.string s, .string p, .string o] 9) = w2 at T2 B2 O2 ⊢
      go_loopw [3, 6] (fun v i w3 => ∃ j g' n' c' : Nat, j ≤ 3 ∧ i = .int .i64 j ∧ v = .slice (some ⟨g', 0, none⟩) n' c' ∧ n' ≤ n + j ∧ Hid (OwnS w.heap.size w3 (.slice (some ⟨g', 0, none⟩) n' c') ((putAllS acc (varsIn (wd.take j))).map bs) ∧ (putAllS acc (varsIn (wd.take j))).length = n') ∧ Hid (Box w3 tb (.string s) (.string p) (.string o) 9) ∧ Below w.heap.size w w3) (fun _ i _ => 3 - (intOf i).toNat)
      case atStart => exact ⟨0, g, n, c, by omega, rfl, rfl, by omega, by simpa [varsIn, putAllS] using O2, T2, B2⟩
      case round =>
        obtain ⟨j, g', n', c', hj, rfl, rfl, hn', hown, htbx, hnx⟩ := hrel
        clear O2 T2 B2
        by_cases hlj : j < 3
        · have hxx : wd[j]? = some (wd[j]'(by omega)) := List.getElem?_eq_getElem (by omega)
          obtain ⟨x, hxe⟩ : ∃ x, wd[j]'(by omega) = x := ⟨_, rfl⟩
          have HT1 : Hid (varsIn (wd.take (j + 1)) = varsIn (wd.take j) ++ (if isVarK x.data.toList then [x.data.toList] else [])) := Lib.hid (by rw [List.take_succ_eq_append_getElem (by omega), hxe, varsIn_snoc])
          rw [hxe] at hxx
          have hx1 := HX.out j x hxx
          have hcx := HBW.out _ htbx.out j x (by rw [HWD.out]; exact hxx)
          have CV' := specKindOf x hx1
          have hj6 : (0 : Int) ≤ (j : Int) := by omega
          have hj7 : (j : Int) < 3 := by omega
          have HJX := Lib.hid hxx
          clear hxx hxe
          have EK : ((((kindL x.data.toList : Nat) : Int) == 4) = true ∧ isVarK x.data.toList = true) ∨ ((((kindL x.data.toList : Nat) : Int) == 4) = false ∧ isVarK x.data.toList = false) := by
            unfold isVarK
            simp only [beq_iff_eq, beq_eq_false_iff_ne, decide_eq_true_eq, decide_eq_false_iff_not]; omega
          generalize kindL x.data.toList = kk at CV' EK
          have CV := Lib.hid CV'
          clear CV'
          rcases EK with ⟨e1, e2⟩ | ⟨e1, e2⟩
          · rw [e2] at HT1
            have HPA : Hid (putAllS acc (varsIn (wd.take (j + 1))) = putS (putAllS acc (varsIn (wd.take j))) x.data.toList) := Lib.hid (by rw [HT1.out]; simp only [if_true]; rw [putAllS_snoc])
            clear e2 HT1
            go_wp2_with fail
            refine (CV.out _).mono ?_
            rintro e w4 ⟨rfl, hb4⟩
            have B4 := hnx.trans (hb4.mono hnx.size)
            have O4 := Lib.hid (And.intro (hown.out.1.kept hb4) hown.out.2)
            have T4 := Lib.hid (htbx.out.next hb4)
            have hcx2 := HBW.out _ T4.out j x (by rw [HWD.out]; exact HJX.out)
            have hsz : n' ≤ 1048576 := by omega
            have CP := Lib.hid (specPut1 w.heap.size g' n' c' (putAllS acc (varsIn (wd.take j))) x w4 O4.out.1 O4.out.2 hsz B4.size)
            have hpl := putS_len (putAllS acc (varsIn (wd.take j))) x.data.toList
            rw [O4.out.2] at hpl
            clear hb4 hnx htbx hown CV hcx
            go_wp2_with fail
            refine CP.out.mono ?_
            rintro e w5 ⟨g5, n5, c5, rfl, o5, hl5, hb5⟩
            rw [hl5] at hpl
            have B5 := B4.trans (hb5.mono B4.size)
            have T5 := Lib.hid (T4.out.next hb5)
            have O5 : Hid (OwnS w.heap.size w5 (.slice (some ⟨g5, 0, none⟩) n5 c5) ((putAllS acc (varsIn (wd.take (j + 1)))).map bs) ∧ (putAllS acc (varsIn (wd.take (j + 1)))).length = n5) := Lib.hid (by rw [HPA.out]; exact ⟨o5, hl5⟩)
            clear o5 hl5 hb5 B4 T4 O4 CP hcx2 HPA
            go_wp2_with fail
            go_roundw
            case rel => exact ⟨j + 1, g5, n5, c5, by omega, by go_num, rfl, by omega, O5, T5, B5⟩
            case measure => simp [intOf]; omega
          · rw [e2] at HT1
            have HPA : Hid (putAllS acc (varsIn (wd.take (j + 1))) = putAllS acc (varsIn (wd.take j))) := Lib.hid (by rw [HT1.out]; simp)
            clear e2 HT1
            go_wp2_with fail
            refine (CV.out _).mono ?_
            rintro e w4 ⟨rfl, hb4⟩
            have B4 := hnx.trans (hb4.mono hnx.size)
            have O4 : Hid (OwnS w.heap.size w4 (.slice (some ⟨g', 0, none⟩) n' c') ((putAllS acc (varsIn (wd.take (j + 1)))).map bs) ∧ (putAllS acc (varsIn (wd.take (j + 1)))).length = n') := Lib.hid (by rw [HPA.out]; exact ⟨hown.out.1.kept hb4, hown.out.2⟩)
            have T4 := Lib.hid (htbx.out.next hb4)
            clear hb4 hnx htbx hown CV hcx HPA
            go_wp2_with fail
            go_roundw
            case rel => exact ⟨j + 1, g', n', c', by omega, by go_num, rfl, by omega, O4, T4, B4⟩
            case measure => simp [intOf]; omega
        · obtain rfl : j = 3 := by omega
          have HN : Hid (OwnS w.heap.size wr (.slice (some ⟨g', 0, none⟩) n' c') ((allVars (ts.take (k + 1))).map bs) ∧ (allVars (ts.take (k + 1))).length = n') := Lib.hid (by
            have := hown.out
            rw [List.take_of_length_le (by omega)] at this
            rw [HS.out]; exact this)
          clear hown htbx
          go_wp2_with fail
          go_roundw
          case rel => exact ⟨k + 1, g', n', c', by omega, by go_num, rfl, by omega, HN, hnx⟩
          case measure => simp [intOf]; omega
    · obtain rfl : k = len := by omega
      have HN : Hid (OwnS w.heap.size wr (.slice (some ⟨g, 0, none⟩) n c) ((allVars ts).map bs) ∧ (allVars ts).length = n) := Lib.hid (by
        have := hown.out
        rwa [List.take_of_length_le (by rw [HL.out]; exact Nat.le_refl _)] at this)
      clear hown
      go_wp2_with fail
      go_ret
      exact ⟨g, n, c, rfl, HN.out.1, HN.out.2, hnx⟩
theorem varsT_is {ts : List Tri3} (h : bgpOk ts = true) : varsT ts = allVars ts := by unfold varsT allVars; rw [if_pos h]
end Go.Proofs.YtbhlenjcahonnaaGreat
