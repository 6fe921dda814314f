/- Names by names: a map of texts to texts, and what a word is called by it. -/
import Derived.Test.YtobmcngmcmhebaaDsM
import Derived.Test.YtobmcngmcmhebaaRenS
import Derived.Test.YtobmcngmcmhebaaWithJ
import Derived.Test.YtobmcngmcmhebaaTurn
import Derived.Deep.RegionHeld3
import Derived.Deep.RegionWith
namespace Go.Proofs.Ytobmcngmcmhebaa
open Go.RowKit Go.WideShapes Go.Maps
theorem seen_app_in : ∀ {l : List Pre2} {p : Pre2} {x : ByteArray}, (∃ t ∈ l, t.1 = x) → seen (l ++ [p]) x = seen l x
  | [], _, _, h => by obtain ⟨t, ht, _⟩ := h; simp at ht
  | u :: r, p, x, h => by
    show (if u.1 = x then u.2 else seen (r ++ [p]) x) = if u.1 = x then u.2 else seen r x
    by_cases e : u.1 = x
    · rw [if_pos e, if_pos e]
    · rw [if_neg e, if_neg e]
      refine seen_app_in ?_
      obtain ⟨t, ht, hx⟩ := h
      rcases List.mem_cons.1 ht with rfl | ht
      · exact absurd hx e
      · exact ⟨t, ht, hx⟩
theorem seen_app_out : ∀ {l : List Pre2} {p : Pre2} {x : ByteArray}, (¬ ∃ t ∈ l, t.1 = x) → seen (l ++ [p]) x = if p.1 = x then p.2 else x
  | [], p, x, _ => rfl
  | u :: r, p, x, h => by
    show (if u.1 = x then u.2 else seen (r ++ [p]) x) = _
    have e : u.1 ≠ x := fun e => h ⟨u, List.mem_cons_self .., e⟩
    rw [if_neg e]
    exact seen_app_out (fun ⟨t, ht, hx⟩ => h ⟨t, List.mem_cons_of_mem _ ht, hx⟩)
/-- The map has just these names, each with its first new one. -/
structure NamesOf (kvs : List (Txt × Value)) (l : List Pre2) : Prop where
  keys : ∀ x : ByteArray, x.data.toList ∈ kvs.map Prod.fst ↔ ∃ t ∈ l, t.1 = x
  val : ∀ (x : ByteArray) (v : Value), (x.data.toList, v) ∈ kvs → v = .string (seen l x)
theorem NamesOf.start : NamesOf [] [] := ⟨fun x => by simp, fun x v h => by simp at h⟩
theorem NamesOf.old {kvs : List (Txt × Value)} {l : List Pre2} {s o : ByteArray} (h : NamesOf kvs l) (ht : ∃ t ∈ l, t.1 = s) : NamesOf kvs (l ++ [(s, o)]) := by
  refine ⟨fun x => ?_, fun x v hv => ?_⟩
  · rw [h.keys]
    constructor
    · rintro ⟨t, a, b⟩
      exact ⟨t, List.mem_append_left _ a, b⟩
    · rintro ⟨t, a, b⟩
      rcases List.mem_append.1 a with a | a
      · exact ⟨t, a, b⟩
      · obtain rfl := List.mem_singleton.1 a
        obtain rfl : s = x := b
        exact ht
  · have hx := (h.keys x).1 (List.mem_map.2 ⟨_, hv, rfl⟩)
    rw [seen_app_in hx]
    exact h.val x v hv
theorem NamesOf.more {kvs : List (Txt × Value)} {l : List Pre2} {s o : ByteArray} (h : NamesOf kvs l) (ht : ¬ ∃ t ∈ l, t.1 = s) : NamesOf (addD kvs s.data.toList (.string o)) (l ++ [(s, o)]) := by
  refine ⟨fun x => ?_, fun x v hv => ?_⟩
  · rw [addD_keys, addS_mem, h.keys]
    constructor
    · rintro (⟨t, a, b⟩ | e)
      · exact ⟨t, List.mem_append_left _ a, b⟩
      · exact ⟨(s, o), by simp, (data_inj e).symm⟩
    · rintro ⟨t, a, b⟩
      rcases List.mem_append.1 a with a | a
      · exact .inl ⟨t, a, b⟩
      · obtain rfl := List.mem_singleton.1 a
        obtain rfl : s = x := b
        exact .inr rfl
  · rcases addD_mem hv with e | ⟨hne, hv⟩
    · simp only [Prod.mk.injEq] at e
      obtain rfl : x = s := data_inj e.1
      rw [seen_app_out ht, if_pos rfl]
      exact e.2
    · have hx := (h.keys x).1 (List.mem_map.2 ⟨_, hv, rfl⟩)
      rw [seen_app_in hx]
      exact h.val x v hv
theorem zeroS (w : World) : (zeroValue 9).run Try.prog w = .ok (.string ⟨#[]⟩) w := by kernel_rfl
section
variable (w : World) {ops : Array Oper} {rest : List Oper} {o : Oper} {a : Act} {Q : Exit → Act → World → Prop}
/-- A name that is there. -/
theorem wpList_named (hg : o.guard = none) (m x : Operand) (hop : o.op = Op.lookup 50 m x true) (b n : Nat) (kvs : List (Txt × Value)) (l : List Pre2) (hm : a.eval m = .map (some b)) (h : OwnMapD w b n kvs) (hN : NamesOf kvs l) (t : ByteArray) (ht : t.size ≤ maxLen)
    (hin : ∃ u ∈ l, u.1 = t) (hx : a.eval x = .string t) (hK : wpList Try.prog ops Q rest (a.put o.dst (.tuple #[.string (seen l t), .bool true])) w) : wpList Try.prog ops Q (o :: rest) a w := by
  obtain ⟨D, hown, hD⟩ := h
  have hk : t.data.toList ∈ kvs.map Prod.fst := (hN.keys t).2 hin
  obtain ⟨p, hp, hpt⟩ := List.mem_map.1 hk
  obtain ⟨p1, p2⟩ := p
  simp only at hpt
  subst hpt
  refine wpList_lookup_own_ok w hg m x _ hop _ 9 lawTxt Try.underlying50 valD (zeroS w) (.held (.string ⟨#[]⟩)) [] rfl b n D hm hown _ (litS t.data.toList) hx (Go.WideMaps.keyOf_string_mk Try.underlying9 ht) (fun v ps hv => ?_)
  rw [hD.val _ hp] at hv
  unfold valD at hv
  simp only [Option.some.injEq, Prod.mk.injEq, DataW.held.injEq] at hv
  obtain ⟨rfl, _⟩ := hv
  rw [hD.mem, decide_eq_true hk, hN.val t v hp]
  exact hK
/-- A name that is not there. -/
theorem wpList_unnamed (hg : o.guard = none) (m x : Operand) (hop : o.op = Op.lookup 50 m x true) (b n : Nat) (kvs : List (Txt × Value)) (l : List Pre2) (hm : a.eval m = .map (some b)) (h : OwnMapD w b n kvs) (hN : NamesOf kvs l) (t : ByteArray) (ht : t.size ≤ maxLen)
    (hin : ¬ ∃ u ∈ l, u.1 = t) (hx : a.eval x = .string t) (hK : wpList Try.prog ops Q rest (a.put o.dst (.tuple #[.string ⟨#[]⟩, .bool false])) w) : wpList Try.prog ops Q (o :: rest) a w := by
  obtain ⟨D, hown, hD⟩ := h
  have hk : t.data.toList ∉ kvs.map Prod.fst := fun e => hin ((hN.keys t).1 e)
  refine wpList_lookup_own_ok w hg m x _ hop _ 9 lawTxt Try.underlying50 valD (zeroS w) (.held (.string ⟨#[]⟩)) [] rfl b n D hm hown _ (litS t.data.toList) hx (Go.WideMaps.keyOf_string_mk Try.underlying9 ht) (fun v ps hv => ?_)
  have hn : Maps.has D (litS t.data.toList) = false := by rw [hD.mem, decide_eq_false hk]
  rw [atKey_of_not_has hn] at hv
  unfold valD at hv
  simp only [Option.some.injEq, Prod.mk.injEq, DataW.held.injEq] at hv
  obtain ⟨rfl, _⟩ := hv
  rw [hn]
  exact hK
/-- A new name is put in. -/
theorem wpList_name (hg : o.guard = none) (m x v : Operand) (hop : o.op = Op.mapUpdate 50 m x v) (b n : Nat) (kvs : List (Txt × Value)) (hm : a.eval m = .map (some b)) (h : OwnMapD w b n kvs) (hn : n < maxLen) (t : ByteArray) (ht : t.size ≤ maxLen)
    (hx : a.eval x = .string t) (u : Value) (hv : a.eval v = u) (hK : ∀ w', OwnMapD w' b (n + 1) (addD kvs t.data.toList u) → w.grownBy w' (some b) → wpList Try.prog ops Q rest (a.put o.dst undef) w') : wpList Try.prog ops Q (o :: rest) a w := by
  obtain ⟨D, hown, hD⟩ := h
  exact wpList_mapUpdate_own w hg m x v _ hop _ 9 lawTxt Try.underlying50 valD b n D hm hown hn _ u (litS t.data.toList) hx hv (Go.WideMaps.keyOf_string_mk Try.underlying9 ht) _ [] rfl (fun w' h1 h2 => hK w' ⟨_, h1, hD.put (hown.tidy lawTxt) _ u⟩ h2)
end
set_option maxHeartbeats 800000 in
theorem implNameIn (b n : Nat) (kvs : List (Txt × Value)) (l : List Pre2) (x : ByteArray) (w : World) (h : OwnMapD w b n kvs) (hN : NamesOf kvs l) (hx : x.size ≤ maxLen) :
    Calls Try.prog 37 #[.map (some b), .string x] w fun e w' => e = .returned (.string (seen l x)) ∧ w' = w := by
  by_cases hin : ∃ u ∈ l, u.1 = x
  · go_enter Try.func37, Try.ntmps37
    go_wp2_with (at_lookup; refine wpList_named _ rfl _ _ rfl b n kvs l rfl h hN x hx hin rfl ?_)
    go_ret
    exact ⟨rfl, rfl⟩
  · have hs : seen l x = x := seen_no l x (fun t ht e => hin ⟨t, ht, e⟩)
    go_enter Try.func37, Try.ntmps37
    go_wp2_with (at_lookup; refine wpList_unnamed _ rfl _ _ rfl b n kvs l rfl h hN x hx hin rfl ?_)
    go_ret
    rw [hs]
    exact ⟨rfl, rfl⟩
open Go.RowKit Go.WideShapes Go.Maps
theorem renAll_rising (l : List Pre2) (ts : List Tri3) : Rising (renAll l ts) := by
  unfold renAll
  have h : ∀ (us acc : List Tri3), Rising acc → Rising (us.foldl putT acc) := by
    intro us
    induction us with
    | nil => intro acc h; exact h
    | cons u r ih => intro acc h; exact ih _ (putT_rising h)
  exact h _ _ (by unfold Rising; exact List.Pairwise.nil)
theorem sort_ren {l : List Pre2} {ts : List Tri3} (h : (addAll [] (ts.map (renT l))).Nodup) : sortT (addAll [] (ts.map (renT l))) = renAll l ts :=
  sortT_is h (renAll_rising l ts) (fun u => by
    rw [addAll_mem, renAll_mem]
    simp only [List.not_mem_nil, false_or, List.mem_map]
    exact ⟨fun ⟨t, h1, h2⟩ => ⟨t, h1, h2.symm⟩, fun ⟨t, h1, h2⟩ => ⟨t, h1, h2.symm⟩⟩)
theorem addAll_most (us ss : List Tri3) : (addAll ss us).length ≤ ss.length + us.length := by
  induction us generalizing ss with
  | nil => simp [addAll]
  | cons t us ih =>
    have h1 := ih (addT ss t)
    have h2 := addT_len ss t
    have e : addAll ss (t :: us) = addAll (addT ss t) us := rfl
    rw [e, List.length_cons]
    omega
/-- A store of true at a triple, at a step of a region that draws its order. -/
theorem upon_putG (w : World) {o : Oper} {a : Act} {K : Act → World → Prop} {Q : Exit → Act → World → Prop} (m x v : Operand) (hop : o.op = Op.mapUpdate 63 m x v) (b n : Nat) (ts : List Tri3) (hm : a.eval m = .map (some b)) (h : OwnSet w b n ts) (hn : n < maxLen) (t : Tri3) (ht : SmK t)
    (hx : a.eval x = strT t) (hv : a.eval v = .bool true) (hK : ∀ w', OwnSet w' b (n + 1) (addT ts t) → w.grownBy w' (some b) → K (a.put o.dst undef) w') : Oper.wp Try.prog o a w K Q := by
  obtain ⟨D, hown, hD⟩ := h
  obtain ⟨f0, f1, f2, S⟩ := keyTri
  obtain ⟨w', hrun, r1, r2⟩ := hown.update lawTri Try.underlying63 hn (S.of ht) true_elem
  unfold Oper.wp
  simp [execOp, hop, hm, hx, hv, hrun, Result.andThen]
  exact hK w' ⟨_, r1, hD.put S lawTri (hown.tidy lawTri) ht⟩ r2
set_option maxRecDepth 100000 in
set_option maxHeartbeats 3200000 in
theorem implRenamedBy (nb n : Nat) (kvs : List (Txt × Value)) (l : List Pre2) (a : Option Addr) (la ca : Nat) (ts : List Tri3) (w : World) (hm : OwnMapD w nb n kvs) (hN : NamesOf kvs l) (hls : ∀ t ∈ l, t.2.size ≤ maxLen) (h : IsTris w a la ca ts) (h80 : la ≤ 80) :
    Calls Try.prog 24 #[.map (some nb), .slice a la ca] w fun e w' => ∃ v, e = .returned v ∧ OwnT w.heap.size w' v (renAll l ts) ∧ Below w.heap.size w w' := by
  have HM := Lib.hid hm
  have HNN := Lib.hid hN
  have HLS := Lib.hid hls
  have H := Lib.hid h
  have HL := Lib.hid h.len
  have hmm := @run_makeMap Try.prog
  have O0 := Lib.hid (OwnSet.made w)
  have B0 := (Below.refl w.heap.size w).alloc (Nat.le_refl _) (.map #[] 0)
  clear hm hN hls h
  go_enter Try.func24, Try.ntmps24
  go_wp2_with fail
  clear hmm
  go_loopw [11] (fun i wr => ∃ k : Nat, k ≤ la ∧ i = .int .i64 k ∧ Hid (OwnSet wr w.heap.size k (addAll [] ((ts.take k).map (renT l)))) ∧ Below w.heap.size w wr) (fun i _ => la - (intOf i).toNat)
  case atStart => exact ⟨0, Nat.zero_le _, rfl, Lib.hid (by simpa [addAll] using O0.out), B0⟩
  case round =>
    obtain ⟨k, hk, rfl, hown, hnx⟩ := hrel
    clear O0 B0
    have hk6 : (0 : Int) ≤ (k : Int) := by omega
    by_cases hlt : k < la
    · have hk7 : (k : Int) < (la : Int) := by omega
      obtain ⟨b, off, rfl, hb, hll, hm, hts, hcs⟩ := H.out.cells (by omega)
      have ht : ts[k]? = some (ts[k]'(by omega)) := List.getElem?_eq_getElem (by omega)
      have HK : Hid (addAll [] ((ts.take (k + 1)).map (renT l)) = addT (addAll [] ((ts.take k).map (renT l))) (renT l (ts[k]'(by omega)))) := Lib.hid (by rw [List.take_succ_eq_append_getElem (by omega), List.map_append, List.map_singleton, addAll_snoc])
      obtain ⟨d0, d1, d2, m0, m1, m2⟩ := hcs k _ ht
      rw [← hnx.cell (p := ⟨b, _, none⟩) hb] at d0 d1 d2
      generalize ts[k]'(by omega) = t at ht HK d0 d1 d2 m0 m1 m2
      obtain ⟨s, p, o⟩ := t
      simp only at d0 d1 d2 m0 m1 m2
      have T0 := Box.new wr (.string s) (.string p) (.string o) 47
      have BW := hnx.alloc hnx.size (.cells #[.string s, .string p, .string o] 47)
      have HC : Hid (∀ W, Below wr.heap.size wr W → ∀ x : ByteArray, x.size ≤ maxLen → Calls Try.prog 37 #[.map (some nb), .string x] W fun e w' => e = .returned (.string (seen l x)) ∧ w' = W) := Lib.hid (fun W hW x hx => implNameIn nb n kvs l x W ((HM.out.next hnx).next hW) HNN.out hx)
      have BL := (Below.refl wr.heap.size wr).alloc (Nat.le_refl _) (.cells #[.string s, .string p, .string o] 47)
      have hsm : SmK (renT l (s, p, o)) := ⟨seen_size _ _ _ m0 HLS.out, m1, seen_size _ _ _ m2 HLS.out⟩
      have HSM := Lib.hid hsm
      have hkm : k < maxLen := by unfold maxLen; omega
      have O1 := Lib.hid ((hown.out.alloc (.cells #[.string s, .string p, .string o] 47)).drew)
      have hslt := hown.out.lt
      clear ht hts hcs hm hll m1 hsm hown
      go_wp2_with fail
      refine wp_region_held_drew (S := (fun w' => w'.cell? ⟨wr.heap.size, 0, none⟩ = some (.string s) ∧ w'.cell? ⟨wr.heap.size, 1, none⟩ = some (.string p) ∧ w'.cell? ⟨wr.heap.size, 2, none⟩ = some (.string o))) (by kernel_rfl) ?_ (fun hHeld => ?_)
      · exact T0.drew.cells
      refine wpAnyH_take (i := 0) (v := ?_) rfl (by kernel_rfl) (by kernel_rfl) (by kernel_rfl) (fun _ _ _ h => h) (Or.inl ⟨by kernel_rfl, ?_⟩) (by assumption) ?_
      rotate_left
      · intro w hSw; (try dsimp only at hSw); go_simp; try with_reducible rfl
      refine wpAnyH_take (i := 1) (v := ?_) rfl (by kernel_rfl) (by kernel_rfl) (by kernel_rfl) (fun _ _ _ h => h) (Or.inl ⟨by kernel_rfl, ?_⟩) (by assumption) ?_
      rotate_left
      · intro w hSw; (try dsimp only at hSw); go_simp; try with_reducible rfl
      refine wpAnyH_take (i := 2) (v := ?_) rfl (by kernel_rfl) (by kernel_rfl) (by kernel_rfl) (fun _ _ _ h => h) (Or.inl ⟨by kernel_rfl, ?_⟩) (by assumption) ?_
      rotate_left
      · intro w hSw; (try dsimp only at hSw); go_simp; try with_reducible rfl
      refine wpAnyH_take (i := 3) (v := ?_) rfl (by kernel_rfl) (by kernel_rfl) (by kernel_rfl) (fun _ _ _ h => h) (Or.inl ⟨by kernel_rfl, ?_⟩) (by assumption) ?_
      rotate_left
      · intro w hSw; (try dsimp only at hSw); go_simp; try with_reducible rfl
      refine wpAnyH_take (i := 5) (v := ?_) rfl (by kernel_rfl) (by kernel_rfl) (by kernel_rfl) (fun _ _ _ h => h) (Or.inl ⟨by kernel_rfl, ?_⟩) (by assumption) ?_
      rotate_left
      · intro w hSw; (try dsimp only at hSw); go_simp; try with_reducible rfl
      refine wpAnyH_take (i := 6) (v := ?_) rfl (by kernel_rfl) (by kernel_rfl) (by kernel_rfl) (fun _ _ _ h => h) (Or.inl ⟨by kernel_rfl, ?_⟩) (by assumption) ?_
      rotate_left
      · intro w hSw; (try dsimp only at hSw); go_simp; try with_reducible rfl
      refine wpAnyH_take (i := 7) (v := ?_) rfl (by kernel_rfl) (by kernel_rfl) (by kernel_rfl) (fun _ _ _ h => h) (Or.inl ⟨by kernel_rfl, ?_⟩) (by assumption) ?_
      rotate_left
      · intro w hSw; (try dsimp only at hSw); go_simp; try with_reducible rfl
      refine wpAnyH_take (i := 8) (v := ?_) rfl (by kernel_rfl) (by kernel_rfl) (by kernel_rfl) (fun _ _ _ h => h) (Or.inl ⟨by kernel_rfl, ?_⟩) (by assumption) ?_
      rotate_left
      · intro w hSw; (try dsimp only at hSw); go_simp; try with_reducible rfl
      refine wpAnyH_take (i := 9) (v := ?_) rfl (by kernel_rfl) (by kernel_rfl) (by kernel_rfl) (fun _ _ _ h => h) (Or.inl ⟨by kernel_rfl, ?_⟩) (by assumption) ?_
      rotate_left
      · intro w hSw; (try dsimp only at hSw); go_simp; try with_reducible rfl
      refine wpAnyH_ready (rs := [4]) (by kernel_rfl) (by simp) ?_
      refine AllReadyH.cons rfl (fun K hK => ?_) AllReadyH.nil
      go_simp
      refine (HC.out _ (by exact BL.drew) s m0).mono ?_
      rintro e w5 ⟨rfl, rfl⟩
      go_wp2_with fail
      clear hHeld
      refine hK.out _ _ ?_ (fun hHeld => ?_)
      · exact T0.drew.cells
      clear hK K
      refine wpAnyH_ready (rs := [10]) (by kernel_rfl) (by simp) ?_
      refine AllReadyH.cons rfl (fun K hK => ?_) AllReadyH.nil
      go_simp
      refine (HC.out _ (by exact BL.drew) o m2).mono ?_
      rintro e w5 ⟨rfl, rfl⟩
      go_wp2_with fail
      clear hHeld
      refine hK.out _ _ ?_ (fun hHeld => ?_)
      · exact T0.drew.cells
      clear hK K
      refine wpAnyH_take (i := 11) (v := ?_) rfl (by kernel_rfl) (by kernel_rfl) (by kernel_rfl) (fun _ _ _ h => h) (Or.inl ⟨by kernel_rfl, ?_⟩) (by assumption) ?_
      rotate_left
      · intro w hSw; (try dsimp only at hSw); go_simp; try with_reducible rfl
      refine wpAnyH_ready (rs := [12]) (by kernel_rfl) (by simp) ?_
      refine AllReadyH.cons rfl (fun K hK => ?_) AllReadyH.nil
      refine upon_putG _ _ _ _ (by rfl) w.heap.size k _ (by rfl) O1.out hkm (renT l (s, p, o)) HSM.out (by rfl) (by rfl) ?_
      intro w7 M7 g7
      have T7 : Box w7 wr.heap.size (.string s) (.string p) (.string o) 47 := T0.drew.grown g7 (fun e => by have := Option.some.inj e; omega)
      clear hHeld
      refine hK.out _ _ ?_ (fun hHeld => ?_)
      · exact T7.cells
      clear hK K
      refine wpAnyH_done (by kernel_rfl) ?_ _
      try simp only [Act.put, List.getElem_toArray, List.getElem_cons_zero, List.getElem_cons_succ]
      have N7 := (BW.drew).grown g7 (BW.drew).size (fun j hj => by cases hj; exact Nat.le_refl _)
      rw [← HK.out] at M7
      have HQ2 := Lib.hid M7
      clear hHeld M7 g7 T7 T0 BW BL O1 HC HK HSM hnx d0 d1 d2
      go_wp2_with fail
      go_roundw
      case rel => exact ⟨k + 1, by omega, by go_num, HQ2, N7⟩
      case measure => simp [intOf]; omega
    · obtain rfl : k = la := by omega
      have HF := hown.out
      rw [List.take_of_length_le (by rw [HL.out]; exact Nat.le_refl _)] at HF
      have hl1 := addAll_most (ts.map (renT l)) []
      rw [List.length_map, List.length_nil, HL.out] at hl1
      have CI := implInOrder w.heap.size k _ wr HF (by omega)
      rw [sort_ren HF.nodup] at CI
      have HCI := Lib.hid CI
      clear CI HF hown hl1
      go_wp2_with fail
      refine HCI.out.mono ?_
      rintro e w2 ⟨v, rfl, o2, hb2⟩
      have O2 := Lib.hid (own_base o2 hnx.size)
      have B2 := hnx.trans (hb2.mono hnx.size)
      clear o2 hb2 HCI
      go_wp2_with fail
      go_ret
      exact ⟨v, rfl, O2.out, B2⟩
theorem implBlankR (s : ByteArray) (hs : s.size ≤ 2097152) (w : World) :
    Calls Try.prog 23 #[.string s] w fun e w' => e = .returned (.bool (blankL s.data.toList)) ∧ Below w.heap.size w w' := by
  have C' := implKindOf s hs
  unfold blankL
  generalize kindL s.data.toList = k at C' ⊢
  have C := Lib.hid C'
  clear C'
  have EK : (((k : Int) == 3) = true ∧ decide (k = 3) = true) ∨ (((k : Int) == 3) = false ∧ decide (k = 3) = false) := by
    simp only [beq_iff_eq, beq_eq_false_iff_ne, decide_eq_true_eq, decide_eq_false_iff_not]; omega
  generalize decide (k = 3) = q at EK ⊢
  go_enter Try.func23, Try.ntmps23
  go_wp2_with fail
  refine (C.out _).mono ?_
  rintro e w1 ⟨rfl, hb1⟩
  rcases EK with ⟨k1, rfl⟩ | ⟨k1, rfl⟩
  all_goals
    go_wp2_with fail
    go_ret
    exact ⟨rfl, hb1⟩
set_option maxRecDepth 100000 in
set_option maxHeartbeats 3200000 in
theorem implRenamed (a b : Option Addr) (la ca lb cb : Nat) (ts : List Tri3) (l : List Pre2) (w : World) (h : IsTris w a la ca ts) (hl : IsPres w b lb cb l) (hsm : Sm ts) (hsp : SmP l) (h2 : lb ≤ 1048576) :
    Calls Try.prog 9 #[.slice a la ca, .slice b lb cb] w (ResPost (renamedO ts l) w) := by
  have C' := implGraphOk a la ca ts w h hsm
  have HL := Lib.hid h.len
  have HPL := Lib.hid hl.len
  have HLS : Hid (∀ t ∈ l, t.2.size ≤ maxLen) := Lib.hid (fun t ht => (hl.small t ht).2)
  have H := Lib.hid h
  have HP := Lib.hid hl
  have HSP := Lib.hid hsp
  clear h hl hsm hsp
  cases hq : graphOk ts
  · have HV : Hid (renamedO ts l = none) := Lib.hid (by unfold renamedO; rw [hq]; simp)
    rw [hq] at C'
    have C := Lib.hid C'
    clear C' hq
    go_enter Try.func9, Try.ntmps9
    go_wp2_with fail
    refine C.out.mono ?_
    rintro e w1 ⟨rfl, hb⟩
    go_wp2_with fail
    go_ret2
    rw [HV.out]
    exact ResPost.no hb
  have hl4 : la ≤ 80 := by have := graphOk_len hq; have := HL.out; omega
  have HQ := Lib.hid hq
  rw [hq] at C'
  have C := Lib.hid C'
  have hmm := @run_makeMap Try.prog
  clear C' hq
  go_enter Try.func9, Try.ntmps9
  go_wp2_with fail
  refine C.out.mono ?_
  rintro e w1 ⟨rfl, hb1⟩
  have hz1 := hb1.size
  have M0 := Lib.hid (OwnMapD.made w1)
  have B0 : Below w.heap.size w (w1.alloc (.map #[] 0)) := hb1.alloc hz1 _
  clear C
  go_wp2_with fail
  clear hmm
  go_loopw [17] (fun i wr => ∃ k : Nat, k ≤ lb ∧ i = .int .i64 k ∧ Hid (∀ (j : Nat) (t : Pre2), j < k → l[j]? = some t → blankL t.1.data.toList = true ∧ blankL t.2.data.toList = true) ∧ Hid (∃ n kvs, n ≤ k ∧ OwnMapD wr w1.heap.size n kvs ∧ NamesOf kvs (l.take k)) ∧ Below w.heap.size w wr) (fun i _ => lb - (intOf i).toNat)
  case atStart => exact ⟨0, Nat.zero_le _, rfl, Lib.hid (fun j t hj => by omega), Lib.hid ⟨0, [], Nat.le_refl _, M0.out, NamesOf.start⟩, B0⟩
  case round =>
    obtain ⟨k, hk, rfl, hyes, hmap, hnx⟩ := hrel
    clear M0 B0
    have hk6 : (0 : Int) ≤ (k : Int) := by omega
    by_cases hlt : k < lb
    · have hk7 : (k : Int) < (lb : Int) := by omega
      obtain ⟨b1, off, rfl, hb, _, _, _, hcs⟩ := HP.out.cells (by omega)
      have ht : l[k]? = some (l[k]'(by have := HPL.out; omega)) := List.getElem?_eq_getElem (by have := HPL.out; omega)
      have HK : Hid (l.take (k + 1) = l.take k ++ [l[k]'(by have := HPL.out; omega)]) := Lib.hid (List.take_succ_eq_append_getElem (by have := HPL.out; omega))
      obtain ⟨d0, d1, m0, m1⟩ := hcs k _ ht
      have hsz := HSP.out _ (List.mem_of_getElem? ht)
      rw [← hnx.cell (p := ⟨b1, _, none⟩) hb] at d0 d1
      generalize l[k]'(by have := HPL.out; omega) = t at ht HK d0 d1 m0 m1 hsz
      obtain ⟨s, o⟩ := t
      simp only at d0 d1 hsz m0 m1
      have HT := Lib.hid ht
      have X0 := Lib.hid (cells_new wr #[.string s, .string o] 45)
      have BW := hnx.alloc hnx.size (.cells #[.string s, .string o] 45)
      have V0 := Lib.hid (implBlankR s (by omega))
      have V1 := Lib.hid (implBlankR o (by omega))
      have hms : s.size ≤ maxLen := m0
      have HMP := Lib.hid (hmap.out.imp fun n ⟨kvs, hn, hm, hN⟩ => (⟨kvs, hn, hm.alloc (.cells #[.string s, .string o] 45), hN⟩ : ∃ kvs, n ≤ k ∧ OwnMapD (wr.alloc (.cells #[.string s, .string o] 45)) w1.heap.size n kvs ∧ NamesOf kvs (l.take k)))
      clear ht hcs hsz hb m1 hmap hnx
      have x0 := X0.out.now.at 0
      have x1 := X0.out.now.at 1
      simp only [List.getElem?_toArray, List.getElem?_cons_zero, List.getElem?_cons_succ] at x0 x1
      cases f0 : blankL s.data.toList
      · have HV : Hid (renamedO ts l = none) := Lib.hid (by unfold renamedO; rw [renOk_no (List.mem_of_getElem? HT.out) (.inl f0)]; simp)
        rw [f0] at V0
        clear f0 hyes V1 HK HMP
        go_wp2_with fail
        refine (V0.out _).mono ?_
        rintro e w2 ⟨rfl, hb⟩
        have B2 := BW.trans (hb.mono BW.size)
        clear hb x0 x1 V0
        go_wp2_with fail
        go_ret2
        rw [HV.out]
        exact ResPost.no B2
      rw [f0] at V0
      cases f1 : blankL o.data.toList
      · have HV : Hid (renamedO ts l = none) := Lib.hid (by unfold renamedO; rw [renOk_no (List.mem_of_getElem? HT.out) (.inr f1)]; simp)
        rw [f1] at V1
        clear f0 f1 hyes HK HMP
        go_wp2_with fail
        refine (V0.out _).mono ?_
        rintro e w2 ⟨rfl, hb⟩
        have B2 := BW.trans (hb.mono BW.size)
        have X2 := Lib.hid (X0.out.next hb)
        clear hb x0 x1 V0 X0
        have x0 := X2.out.now.at 0
        have x1 := X2.out.now.at 1
        simp only [List.getElem?_toArray, List.getElem?_cons_zero, List.getElem?_cons_succ] at x0 x1
        go_wp2_with fail
        refine (V1.out _).mono ?_
        rintro e w3 ⟨rfl, hb⟩
        have B3 := B2.trans (hb.mono B2.size)
        clear hb x0 x1 V1
        go_wp2_with fail
        go_ret2
        rw [HV.out]
        exact ResPost.no B3
      rw [f1] at V1
      have F0 := Lib.hid f0
      have F1 := Lib.hid f1
      clear f0 f1
      go_wp2_with fail
      refine (V0.out _).mono ?_
      rintro e w2 ⟨rfl, hb⟩
      have B2 := BW.trans (hb.mono BW.size)
      have X2 := Lib.hid (X0.out.next hb)
      have HM2 := Lib.hid (HMP.out.imp fun n ⟨kvs, hn, hm, hN⟩ => (⟨kvs, hn, hm.next hb, hN⟩ : ∃ kvs, n ≤ k ∧ OwnMapD w2 w1.heap.size n kvs ∧ NamesOf kvs (l.take k)))
      clear hb x0 x1 V0 X0 HMP BW
      have x0 := X2.out.now.at 0
      have x1 := X2.out.now.at 1
      simp only [List.getElem?_toArray, List.getElem?_cons_zero, List.getElem?_cons_succ] at x0 x1
      go_wp2_with fail
      refine (V1.out _).mono ?_
      rintro e w3 ⟨rfl, hb⟩
      have B3 := B2.trans (hb.mono B2.size)
      have X3 := Lib.hid (X2.out.next hb)
      obtain ⟨n, kvs, hn, hm, hN⟩ := HM2.out
      have hm3 := Lib.hid (hm.next hb)
      have HN3 := Lib.hid hN
      clear hb x0 x1 V1 X2 HM2 B2 hm hN
      have x0 := X3.out.now.at 0
      have x1 := X3.out.now.at 1
      simp only [List.getElem?_toArray, List.getElem?_cons_zero, List.getElem?_cons_succ] at x0 x1
      have HY : Hid (∀ (j : Nat) (t : Pre2), j < k + 1 → l[j]? = some t → blankL t.1.data.toList = true ∧ blankL t.2.data.toList = true) := Lib.hid (fun j t hj hjt => by
        rcases Nat.lt_or_eq_of_le (show j ≤ k by omega) with h | rfl
        · exact hyes.out j t h hjt
        · obtain rfl : (s, o) = t := by have := HT.out; rw [hjt] at this; exact (Option.some.inj this).symm
          exact ⟨F0.out, F1.out⟩)
      have hnm : n < maxLen := by unfold maxLen; omega
      clear hyes F0 F1 HT
      by_cases hin : ∃ u ∈ l.take k, u.1 = s
      · have HM4 : Hid (∃ n kvs, n ≤ k + 1 ∧ OwnMapD w3 w1.heap.size n kvs ∧ NamesOf kvs (l.take (k + 1))) := Lib.hid ⟨n, kvs, by omega, hm3.out, by rw [HK.out]; exact HN3.out.old hin⟩
        have HIN := Lib.hid hin
        clear hin HK
        go_wp2_with (at_lookup; refine wpList_named _ rfl _ _ rfl w1.heap.size n kvs (l.take k) rfl hm3.out HN3.out s hms HIN.out rfl ?_)
        go_roundw
        case rel => exact ⟨k + 1, by omega, by go_num, HY, HM4, B3⟩
        case measure => simp [intOf]; omega
      · have HNW : Hid (NamesOf (addD kvs s.data.toList (.string o)) (l.take (k + 1))) := Lib.hid (by rw [HK.out]; exact HN3.out.more hin)
        have HIN := Lib.hid hin
        clear hin HK
        go_wp2_with (first
          | (at_lookup; refine wpList_unnamed _ rfl _ _ rfl w1.heap.size n kvs (l.take k) rfl hm3.out HN3.out s hms HIN.out rfl ?_)
          | (at_mapUpdate; refine wpList_name _ rfl _ _ _ rfl w1.heap.size n kvs rfl hm3.out hnm s hms rfl (.string o) rfl ?_; intro w4 hm4 hg4))
        have B4 := B3.grown hg4 B3.size (fun r e => by cases e; exact hz1)
        have HM4 : Hid (∃ n kvs, n ≤ k + 1 ∧ OwnMapD w4 w1.heap.size n kvs ∧ NamesOf kvs (l.take (k + 1))) := Lib.hid ⟨n + 1, _, by omega, hm4, HNW.out⟩
        clear hm4 hg4 x0 x1 X3 B3
        go_roundw
        case rel => exact ⟨k + 1, by omega, by go_num, HY, HM4, B4⟩
        case measure => simp [intOf]; omega
    · obtain rfl : k = lb := by omega
      have HV : Hid (renamedO ts l = some (renAll l ts)) := Lib.hid (by
        unfold renamedO
        rw [if_pos ⟨HQ.out, renOk_yes fun j t hj => hyes.out j t (by have := (List.getElem?_eq_some_iff.1 hj).1; have := HPL.out; omega) hj⟩])
      obtain ⟨n, kvs, hn, hm, hN⟩ := hmap.out
      rw [List.take_of_length_le (by rw [HPL.out]; exact Nat.le_refl _)] at hN
      have CR := Lib.hid (implRenamedBy w1.heap.size n kvs l a la ca ts wr hm hN HLS.out (H.out.next hnx) hl4)
      clear hyes hmap hm hN
      go_wp2_with fail
      refine CR.out.mono ?_
      rintro e w2 ⟨v, rfl, o2, hb⟩
      have B2 := hnx.trans (hb.mono hnx.size)
      have O2 := Lib.hid (own_base o2 hnx.size)
      clear o2 hb CR
      go_wp2_with fail
      go_ret2
      rw [HV.out]
      exact ResPost.yes O2.out B2
end Go.Proofs.Ytobmcngmcmhebaa
