/- What a drawn row is: a short list of short pairs, in a slice of the call's own. -/
import Derived.Test.YtegjbfbmhlaelaaRdT
import Derived.Test.YtegjbfbmhlaelaaExactR2
import Derived.Maps.AppendAt
import Derived.Deep.RegionWith
namespace Go.Proofs.Ytegjbfbmhlaelaa
open Go.RowKit Go.WideShapes
theorem row_old {w : World} {b : Nat} {c : Array Value} {T : TypeId} (h : w.heap[b]? = some (.cells c T (0, 0))) : b < w.heap.size := by
  rcases Nat.lt_or_ge b w.heap.size with g | g
  · exact g
  · rw [Array.getElem?_eq_none g] at h; simp at h
def SmW (ts : List Pre2) : Prop := ts.length ≤ 4 ∧ ∀ t ∈ ts, t.1.size ≤ 6 ∧ t.2.size ≤ 6
def rowVars : Array Value := #[.string ⟨#[63, 120]⟩, .string ⟨#[63, 121]⟩, .string ⟨#[63, 122]⟩]
def rowVals : Array Value := #[.string ⟨#[60, 97, 62]⟩, .string ⟨#[60, 98, 62]⟩, .string ⟨#[95, 58, 98]⟩]
theorem lit3_at {w : World} {A : Nat} {cs : Array Value} {T : TypeId} (hz : cs.size = 3) (hs : strsOk 1 6 cs.toList = true) (h : w.heap[A]? = some (.cells cs T (0, 0))) {k : Nat} (hk : k < 3) : ∃ p : ByteArray, p.size ≤ 6 ∧ w.cell? ⟨A, k, none⟩ = some (.string p) := by
  have h1 := List.all_eq_true.1 hs (cs[k]'(by omega)) (by simp)
  split at h1
  · rename_i s hs'
    refine ⟨s, by have := (of_decide_eq_true h1).2; exact this, ?_⟩
    simp [World.cell?, h, Array.getElem?_eq_getElem (show k < cs.size by omega), hs']
  · simp at h1
theorem ownW_snoc {B : Nat} {w : World} {v : Value} {ts : List Pre2} {p : Pre2} (h : w.ownsRow B 86 2 v (ts.length + 1) (flatP ts ++ [.string p.1, .string p.2])) : OwnP B w v (ts ++ [p]) := by
  unfold OwnP; rw [flatP_snoc, List.length_append]; exact h
theorem grown_farW {a b c : World} {row r : Option Nat} (h : a.grownBy b row) (k : b.grownBy c r) (hr : ∀ j, r = some j → a.heap.size ≤ j) : a.grownBy c row :=
  ⟨k.os.trans h.os, k.tape.trans h.tape, k.output.trans h.output, Nat.le_trans h.size k.size, fun i hi hne => (k.block i (Nat.lt_of_lt_of_le hi h.size) fun e => by have := hr i e.symm; omega).trans (h.block i hi hne)⟩
theorem own_keepW {B g : Nat} {w w' : World} {v : Value} {ts : List Pre2} (h : OwnP B w v ts) (hB : g < B) (hg : w.grownBy w' (some g)) : OwnP B w' v ts := by
  have hlt0 := fun j hj => (World.ownsRow.lt h j hj).1
  refine World.ownsRow.kept h hg ?_
  rcases hob : Value.ownBlock v with _ | j
  · exact .inl rfl
  · refine .inr ?_
    have := hlt0 j hob
    intro e
    simp at e
    omega
theorem heap_keepA {w : World} {b : Nat} {c : Array Value} {T : TypeId} (h : w.heap[b]? = some (.cells c T (0, 0))) (o : Obj) : (w.alloc o).heap[b]? = some (.cells c T (0, 0)) := (Below.heap_alloc w o b (row_old h)).trans h
theorem pair_cell {w : World} {u v : Value} {e g : Nat} (hg : g = w.heap.size) : ∀ (j : Nat) (x : Value), [u, v][j]? = some x → (w.alloc (.cells #[u, v] e)).cell? ((⟨g, 0, none⟩ : Addr).add j) = some x := by
  subst hg; exact two_cell
theorem upon_append_at {P : Program} {o : Oper} {a : Act} {w : World} {Q : Exit → Act → World → Prop} {K : Act → World → Prop} (_ : o.guard = none) (s x : Operand) (t : TypeId)
    (ho : o.op = .call { callee := .builtin .append, args := #[s, x], argTypes := #[t, t] })
    (base : Nat) (e : TypeId) (i : TypeInfo) (z : Value) (size bytes : Nat) (ht : P.underlying t = some (.slice e)) (hi : P.info? e = some i) (hz : i.zero = some z)
    (hsize : i.size = size) (hby : i.bytes = bytes) (hzs : z.cells.size = size) (hsz : 0 < size)
    (v : Value) (n : Nat) (xs : List Value) (hs : a.eval s = v) (hown : w.ownsRow base e size v n xs)
    (ad : Addr) (m c : Nat) (news : List Value) (hx : a.eval x = .slice (some ad) m c) (hl : news.length = m * size) (hnews : ∀ j u, news[j]? = some u → w.cell? (ad.add j) = some u) (h1 : ∀ u ∈ news, u.oneCell' = true)
    (h63 : n + m ≤ maxLen) (hbytes : (n + m) * bytes ≤ 140737488355328) (hbase : base ≤ w.heap.size)
    (h : ∀ v' w', w'.ownsRow base e size v' (n + m) (xs ++ news) → w.grownBy w' v.ownBlock → (v' = .slice none 0 0 ↔ v = .slice none 0 0 ∧ m = 0) → (v'.ownBlock = v.ownBlock ∨ v'.ownBlock = some w.heap.size) → K (a.put o.dst v') w') :
    Oper.wp P o a w K Q := by
  obtain ⟨v', w', hr, h2, h3, h4, h5⟩ := run_append_own_at (P := P) w base t o.type e i z size bytes ht hi hz hsize hby hzs hsz v n xs hown ad m c news hl hnews h1 h63 hbytes hbase
  unfold Oper.wp execOp
  simp only [ho, resolve, invoke, builtin, Sem.run_bind, Sem.run_pure, Result.andThen_ok, List.map_toArray, List.map_cons, List.map_nil, hs, hx, hr]
  exact h v' w' h2 h3 h4 h5
set_option maxRecDepth 100000 in
set_option maxHeartbeats 12800000 in
theorem rdRow (B g : Nat) (w : World) (h : Rd B w g) :
    Calls Try.prog 73 #[.pointer (some ⟨g, 0, none⟩)] w fun e w' => ∃ (v : Value) (ts : List Pre2), e = .returned v ∧ SmW ts ∧ OwnP w.heap.size w' v ts ∧ Rd B w' g ∧ w.grownBy w' (some g) := by
  obtain ⟨i0, hi, hz0, hz1, hz2⟩ := info_parts infoPair
  have hgw := h.2.1
  have hB := h.1
  have R0 := (h.alloc (.cells #[] 86)).alloc (.cells rowVars 9)
  have G0 := (World.grownBy_alloc w (.cells #[] 86) (some g)).trans (World.grownBy_alloc (w.alloc (.cells #[] 86)) (.cells rowVars 9) (some g))
  have O0 := (World.ownsRow_lit (size := 2) (e := 86) w #[] 0 (Nat.le_refl _) (by decide) rfl).alloc (.cells rowVars 9)
  have A0 := heap_alloc_new (w.alloc (.cells #[] 86)) (.cells rowVars 9)
  have hsz : (w.alloc (.cells #[] 86)).heap.size = w.heap.size + 1 := by simp
  rw [hsz] at A0
  go_enter Try.func73, Try.ntmps73
  go_wp2_with fail
  go_loopw [3, 5] (fun l i wr => ∃ k : Nat, k ≤ 3 ∧ i = .int .i64 k ∧ (∃ ts : List Pre2, Hid (OwnP w.heap.size wr l ts) ∧ Hid (∀ t ∈ ts, t.1.size ≤ 6 ∧ t.2.size ≤ 6) ∧ ts.length ≤ k) ∧ Hid (l.ownBlock ≠ some (w.heap.size + 1)) ∧ Rd B wr g ∧ w.grownBy wr (some g) ∧ Hid (wr.heap[w.heap.size + 1]? = some (.cells rowVars 9 (0, 0)))) (fun _ i _ => 3 - (intOf i).toNat)
  case atStart => exact ⟨0, Nat.zero_le _, rfl, ⟨[], Lib.hid O0, Lib.hid (by simp), Nat.le_refl _⟩, Lib.hid (by simp [Value.ownBlock]), R0, G0, Lib.hid A0⟩
  case round =>
    obtain ⟨k, hk, rfl, ⟨ts, hown, hsm, hlen⟩, hne, hr, hg, hA⟩ := hrel
    by_cases hlt : k < 3
    · go_wp2_with fail
      refine (rdOnce B g _ hr 2 (by omega) (by omega)).mono ?_
      rintro e w1 ⟨b, rfl, hr1, hg1⟩
      have hown1 := own_keepW hown.out hgw hg1
      have hA1 := (hg1.block _ (by have := hg.size; have := row_old hA.out; omega) (by simp; omega)).trans hA.out
      have G1 := hg.trans hg1
      have z1 := G1.size
      have zA := row_old hA1
      clear hg1 hr hg hA
      cases b
      · go_wp2_with fail
        go_roundw
        case rel => exact ⟨k + 1, by omega, by go_num, ⟨ts, Lib.hid hown1, hsm, by omega⟩, hne, hr1, G1, Lib.hid hA1⟩
        case measure => simp [intOf]; omega
      · have hk6 : (0 : Int) ≤ (k : Int) := by omega
        have hk7 : (k : Int) < 3 := by omega
        obtain ⟨p, hp, cv⟩ := lit3_at (k := k) rfl (by decide) hA1 hlt
        have hA2 := (Below.heap_alloc w1 (.cells #[.string ⟨#[60, 97, 62]⟩, .string ⟨#[60, 98, 62]⟩, .string ⟨#[95, 58, 98]⟩] 9) _ zA).trans hA1
        have cva : (w1.alloc (.cells #[.string ⟨#[60, 97, 62]⟩, .string ⟨#[60, 98, 62]⟩, .string ⟨#[95, 58, 98]⟩] 9)).cell? ⟨w.heap.size + 1, k, none⟩ = some (.string p) := by rw [World.cell?_of_block (w := w1) (Below.heap_alloc w1 _ _ zA)]; exact cv
        have HF := Lib.hid (And.intro hown1 (And.intro hA1 (And.intro hA2 (And.intro hr1 G1))))
        have hg1 := hr1.2.1
        clear hown1 hA1 hA2 hr1 G1
        go_wp2_with fail
        refine wp_region_any (by kernel_rfl) ?_
        change wpAny _ _ _ _ _ _ _ (World.drew _)
        refine wpAny_take (i := 0) (v := ?_) rfl (by kernel_rfl) (by kernel_rfl) (by kernel_rfl) (fun _ _ _ h => h) (Or.inl ⟨by kernel_rfl, ?_⟩) ?_
        rotate_left
        · intro w; go_simp; try with_reducible rfl
        refine wpAny_take (i := 1) (v := ?_) rfl (by kernel_rfl) (by kernel_rfl) (by kernel_rfl) (fun _ _ _ h => h) (Or.inl ⟨by kernel_rfl, ?_⟩) ?_
        rotate_left
        · intro w; go_simp; try with_reducible rfl
        refine wpAny_take (i := 2) (v := ?_) rfl (by kernel_rfl) (by kernel_rfl) (by kernel_rfl) (fun _ _ _ h => h) (Or.inl ⟨by kernel_rfl, ?_⟩) ?_
        rotate_left
        · intro w; go_simp; try with_reducible rfl
        refine wpAny_take (i := 3) (v := ?_) rfl (by kernel_rfl) (by kernel_rfl) (by kernel_rfl) (fun _ _ _ h => h) (Or.inl ⟨by kernel_rfl, ?_⟩) ?_
        rotate_left
        · intro w; go_simp; try with_reducible rfl
        refine wpAny_take (i := 6) (v := ?_) rfl (by kernel_rfl) (by kernel_rfl) (by kernel_rfl) (fun _ _ _ h => h) (Or.inl ⟨by kernel_rfl, ?_⟩) ?_
        rotate_left
        · intro w; go_simp; try with_reducible rfl
        refine wpAny_ready (rs := [4, 5, 7]) (by kernel_rfl) (by simp) ?_
        refine (AllReady.cons rfl (fun K hK => ?_) (AllReady.cons rfl (fun K hK => ?_) (AllReady.cons rfl (fun K hK => ?_) AllReady.nil)))
        · go_simp
          refine hK _ _ ?_
          clear hK K
          refine wpAny_ready (rs := [5, 7]) (by kernel_rfl) (by simp) ?_
          refine (AllReady.cons rfl (fun K hK => ?_) (AllReady.cons rfl (fun K hK => ?_) AllReady.nil))
          · go_simp
            refine hK _ _ ?_
            clear hK K
            refine wpAny_ready (rs := [7]) (by kernel_rfl) (by simp) ?_
            refine (AllReady.cons rfl (fun K hK => ?_) AllReady.nil)
            go_simp
            with_reducible refine (rdBelow B g _ (HF.out.2.2.2.1.alloc _).drew 3 (by omega) (by omega)).mono ?_
            rintro e w3 ⟨m, hm, hm2, rfl, hr3, hg3'⟩
            have hg3 := undrew hg3'
            clear hg3'
            obtain ⟨m, rfl⟩ := Int.eq_ofNat_of_zero_le hm
            obtain ⟨t, ht, hc⟩ := strs_cell hg3 hg1 1 6 rfl m (by simp; omega)
            have cv3 : w3.cell? ⟨w.heap.size + 1, k, none⟩ = some (.string p) := hg3.cell cva (by simp; omega)
            have W3 := Lib.hid (And.intro (own_keepW (World.ownsRow.alloc HF.out.1 _) hgw hg3) (And.intro ((hg3.block _ (by simp; omega) (by simp; omega)).trans HF.out.2.2.1) (And.intro hr3 ((HF.out.2.2.2.2.trans (World.grownBy_alloc _ _ _)).trans hg3))))
            clear hr3 hg3
            go_wp2_with fail
            refine wpAny_take (i := 8) (v := ?_) rfl (by kernel_rfl) (by kernel_rfl) (by kernel_rfl) (fun _ _ _ h => h) (Or.inl ⟨by kernel_rfl, ?_⟩) ?_
            rotate_left
            · intro w; go_simp; try with_reducible rfl
            refine wpAny_ready (rs := [9]) (by kernel_rfl) (by simp) ?_
            refine (AllReady.cons rfl (fun K hK => ?_) AllReady.nil)
            go_simp
            refine hK _ _ ?_
            clear hK K
            refine wpAny_take (i := 10) (v := ?_) rfl (by kernel_rfl) (by kernel_rfl) (by kernel_rfl) (fun _ _ _ h => h) (Or.inl ⟨by kernel_rfl, ?_⟩) ?_
            rotate_left
            · intro w; go_simp; try with_reducible rfl
            refine wpAny_ready (rs := [11]) (by kernel_rfl) (by simp) ?_
            refine (AllReady.cons rfl (fun K hK => ?_) AllReady.nil)
            go_simp
            refine hK _ _ ?_
            clear hK K
            refine wpAny_ready (rs := [12]) (by kernel_rfl) (by simp) ?_
            refine (AllReady.cons rfl (fun K hK => ?_) AllReady.nil)
            rw [if_pos (by rfl)]
            refine upon_append_at rfl _ _ 24 rfl w.heap.size 86 i0 (.agg #[.string ⟨#[]⟩, .string ⟨#[]⟩]) 2 32 Try.underlying24 hi hz0 hz1 hz2 rfl (by decide) _ _ _ rfl (World.ownsRow.alloc W3.out.1 _) _ 1 1 [.string p, .string t] rfl rfl (pair_cell (by simp)) (by intro u hu; simp at hu; rcases hu with rfl | rfl <;> rfl) (by unfold maxLen; omega) (by omega) (by have := W3.out.2.2.2.size; simp; omega) ?_
            intro v' w5 hown5 hg5 _ hat
            refine hK _ _ ?_
            clear hK K
            refine wpAny_take (i := 13) (v := ?_) rfl (by kernel_rfl) (by kernel_rfl) (by kernel_rfl) (fun _ _ _ h => h) (Or.inl ⟨by kernel_rfl, ?_⟩) ?_
            rotate_left
            · intro w; go_simp; try with_reducible rfl
            refine wpAny_done (by kernel_rfl) ?_ _
            try simp only [Act.put, List.setIfInBounds_toArray, List.set_cons_zero, List.set_cons_succ, List.getElem_toArray, List.getElem_cons_zero, List.getElem_cons_succ]
            have O2 := ownW_snoc (p := ((p, t) : Pre2)) hown5
            have hz3 := W3.out.2.2.2.size
            have HB : Hid (v'.ownBlock ≠ some (w.heap.size + 1)) := Lib.hid (by
              rcases hat with e | e
              · rw [e]; exact hne.out
              · rw [e]; simp; have := row_old W3.out.2.1; omega)
            have hlt0 := fun j hj => (World.ownsRow.lt W3.out.1 j hj).1
            have hA5 := (hg5.block (w.heap.size + 1) (by have := row_old W3.out.2.1; simp; omega) (fun e => hne.out e.symm)).trans (heap_keepA W3.out.2.1 _)
            have R5 := (W3.out.2.2.1.alloc _).grown hg5 (fun j hj => by have := hlt0 j hj; omega)
            have G5 := grown_farW (W3.out.2.2.2.trans (World.grownBy_alloc _ _ _)) hg5 hlt0
            have HSM : Hid (∀ q ∈ ts ++ [((p, t) : Pre2)], q.1.size ≤ 6 ∧ q.2.size ≤ 6) := Lib.hid (by
              intro q hq
              rcases List.mem_append.1 hq with hq | hq
              · exact hsm.out q hq
              · obtain rfl : q = ((p, t) : Pre2) := by simpa using hq
                exact ⟨hp, ht.2⟩)
            clear hown5 hg5 hat cv3 hc W3 HF cv cva hne hown
            go_wp2_with fail
            go_roundw
            case rel => exact ⟨k + 1, by omega, by go_num, ⟨ts ++ [((p, t) : Pre2)], Lib.hid O2, HSM, by rw [List.length_append, List.length_singleton]; omega⟩, HB, R5, G5, Lib.hid hA5⟩
            case measure => simp [intOf]; omega
          · go_simp
            with_reducible refine (rdBelow B g _ HF.out.2.2.2.1.drew 3 (by omega) (by omega)).mono ?_
            rintro e w3 ⟨m, hm, hm2, rfl, hr3, hg3'⟩
            have hg3 := undrew hg3'
            clear hg3'
            obtain ⟨m, rfl⟩ := Int.eq_ofNat_of_zero_le hm
            obtain ⟨t, ht, hc⟩ := strs_cell (w := w3) (T := 9) (cs := [.string ⟨#[60, 97, 62]⟩, .string ⟨#[60, 98, 62]⟩, .string ⟨#[95, 58, 98]⟩]) (World.grownBy.refl _ (some g)) hr3.2.1 1 6 rfl m (by simp; omega)
            have cv3 : w3.cell? ⟨w.heap.size + 1, k, none⟩ = some (.string p) := hg3.cell cv (by simp; omega)
            have cv4 : (w3.alloc (.cells #[.string ⟨#[60, 97, 62]⟩, .string ⟨#[60, 98, 62]⟩, .string ⟨#[95, 58, 98]⟩] 9)).cell? ⟨w.heap.size + 1, k, none⟩ = some (.string p) := by rw [World.cell?_of_block (w := w3) (Below.heap_alloc w3 _ _ (by have := hg3.size; show w.heap.size + 1 < w3.heap.size; omega))]; exact cv3
            have W3 := Lib.hid (And.intro (own_keepW HF.out.1 hgw hg3) (And.intro ((hg3.block _ (by omega) (by simp; omega)).trans HF.out.2.1) (And.intro hr3 (HF.out.2.2.2.2.trans hg3))))
            clear hr3 hg3
            go_wp2_with fail
            refine wpAny_ready (rs := [5]) (by kernel_rfl) (by simp) ?_
            refine (AllReady.cons rfl (fun K hK => ?_) AllReady.nil)
            go_simp
            refine hK _ _ ?_
            clear hK K
            refine wpAny_take (i := 8) (v := ?_) rfl (by kernel_rfl) (by kernel_rfl) (by kernel_rfl) (fun _ _ _ h => h) (Or.inl ⟨by kernel_rfl, ?_⟩) ?_
            rotate_left
            · intro w; go_simp; try with_reducible rfl
            refine wpAny_ready (rs := [9]) (by kernel_rfl) (by simp) ?_
            refine (AllReady.cons rfl (fun K hK => ?_) AllReady.nil)
            go_simp
            refine hK _ _ ?_
            clear hK K
            refine wpAny_take (i := 10) (v := ?_) rfl (by kernel_rfl) (by kernel_rfl) (by kernel_rfl) (fun _ _ _ h => h) (Or.inl ⟨by kernel_rfl, ?_⟩) ?_
            rotate_left
            · intro w; go_simp; try with_reducible rfl
            refine wpAny_ready (rs := [11]) (by kernel_rfl) (by simp) ?_
            refine (AllReady.cons rfl (fun K hK => ?_) AllReady.nil)
            go_simp
            refine hK _ _ ?_
            clear hK K
            refine wpAny_ready (rs := [12]) (by kernel_rfl) (by simp) ?_
            refine (AllReady.cons rfl (fun K hK => ?_) AllReady.nil)
            rw [if_pos (by rfl)]
            refine upon_append_at rfl _ _ 24 rfl w.heap.size 86 i0 (.agg #[.string ⟨#[]⟩, .string ⟨#[]⟩]) 2 32 Try.underlying24 hi hz0 hz1 hz2 rfl (by decide) _ _ _ rfl (World.ownsRow.alloc (World.ownsRow.alloc W3.out.1 _) _) _ 1 1 [.string p, .string t] rfl rfl (pair_cell (by simp)) (by intro u hu; simp at hu; rcases hu with rfl | rfl <;> rfl) (by unfold maxLen; omega) (by omega) (by have := W3.out.2.2.2.size; simp; omega) ?_
            intro v' w5 hown5 hg5 _ hat
            refine hK _ _ ?_
            clear hK K
            refine wpAny_take (i := 13) (v := ?_) rfl (by kernel_rfl) (by kernel_rfl) (by kernel_rfl) (fun _ _ _ h => h) (Or.inl ⟨by kernel_rfl, ?_⟩) ?_
            rotate_left
            · intro w; go_simp; try with_reducible rfl
            refine wpAny_done (by kernel_rfl) ?_ _
            try simp only [Act.put, List.setIfInBounds_toArray, List.set_cons_zero, List.set_cons_succ, List.getElem_toArray, List.getElem_cons_zero, List.getElem_cons_succ]
            have O2 := ownW_snoc (p := ((p, t) : Pre2)) hown5
            have hz3 := W3.out.2.2.2.size
            have HB : Hid (v'.ownBlock ≠ some (w.heap.size + 1)) := Lib.hid (by
              rcases hat with e | e
              · rw [e]; exact hne.out
              · rw [e]; simp; have := row_old W3.out.2.1; omega)
            have hlt0 := fun j hj => (World.ownsRow.lt W3.out.1 j hj).1
            have hA5 := (hg5.block (w.heap.size + 1) (by have := row_old W3.out.2.1; simp; omega) (fun e => hne.out e.symm)).trans (heap_keepA (heap_keepA W3.out.2.1 _) _)
            have R5 := ((W3.out.2.2.1.alloc _).alloc _).grown hg5 (fun j hj => by have := hlt0 j hj; omega)
            have G5 := grown_farW ((W3.out.2.2.2.trans (World.grownBy_alloc _ _ _)).trans (World.grownBy_alloc _ _ _)) hg5 hlt0
            have HSM : Hid (∀ q ∈ ts ++ [((p, t) : Pre2)], q.1.size ≤ 6 ∧ q.2.size ≤ 6) := Lib.hid (by
              intro q hq
              rcases List.mem_append.1 hq with hq | hq
              · exact hsm.out q hq
              · obtain rfl : q = ((p, t) : Pre2) := by simpa using hq
                exact ⟨hp, ht.2⟩)
            clear hown5 hg5 hat cv3 hc W3 HF cv cva hne hown
            go_wp2_with fail
            go_roundw
            case rel => exact ⟨k + 1, by omega, by go_num, ⟨ts ++ [((p, t) : Pre2)], Lib.hid O2, HSM, by rw [List.length_append, List.length_singleton]; omega⟩, HB, R5, G5, Lib.hid hA5⟩
            case measure => simp [intOf]; omega
        · go_simp
          refine hK _ _ ?_
          clear hK K
          refine wpAny_ready (rs := [4, 7]) (by kernel_rfl) (by simp) ?_
          refine (AllReady.cons rfl (fun K hK => ?_) (AllReady.cons rfl (fun K hK => ?_) AllReady.nil))
          · go_simp
            refine hK _ _ ?_
            clear hK K
            refine wpAny_ready (rs := [7]) (by kernel_rfl) (by simp) ?_
            refine (AllReady.cons rfl (fun K hK => ?_) AllReady.nil)
            go_simp
            with_reducible refine (rdBelow B g _ (HF.out.2.2.2.1.alloc _).drew 3 (by omega) (by omega)).mono ?_
            rintro e w3 ⟨m, hm, hm2, rfl, hr3, hg3'⟩
            have hg3 := undrew hg3'
            clear hg3'
            obtain ⟨m, rfl⟩ := Int.eq_ofNat_of_zero_le hm
            obtain ⟨t, ht, hc⟩ := strs_cell hg3 hg1 1 6 rfl m (by simp; omega)
            have cv3 : w3.cell? ⟨w.heap.size + 1, k, none⟩ = some (.string p) := hg3.cell cva (by simp; omega)
            have W3 := Lib.hid (And.intro (own_keepW (World.ownsRow.alloc HF.out.1 _) hgw hg3) (And.intro ((hg3.block _ (by simp; omega) (by simp; omega)).trans HF.out.2.2.1) (And.intro hr3 ((HF.out.2.2.2.2.trans (World.grownBy_alloc _ _ _)).trans hg3))))
            clear hr3 hg3
            go_wp2_with fail
            refine wpAny_take (i := 8) (v := ?_) rfl (by kernel_rfl) (by kernel_rfl) (by kernel_rfl) (fun _ _ _ h => h) (Or.inl ⟨by kernel_rfl, ?_⟩) ?_
            rotate_left
            · intro w; go_simp; try with_reducible rfl
            refine wpAny_ready (rs := [9]) (by kernel_rfl) (by simp) ?_
            refine (AllReady.cons rfl (fun K hK => ?_) AllReady.nil)
            go_simp
            refine hK _ _ ?_
            clear hK K
            refine wpAny_take (i := 10) (v := ?_) rfl (by kernel_rfl) (by kernel_rfl) (by kernel_rfl) (fun _ _ _ h => h) (Or.inl ⟨by kernel_rfl, ?_⟩) ?_
            rotate_left
            · intro w; go_simp; try with_reducible rfl
            refine wpAny_ready (rs := [11]) (by kernel_rfl) (by simp) ?_
            refine (AllReady.cons rfl (fun K hK => ?_) AllReady.nil)
            go_simp
            refine hK _ _ ?_
            clear hK K
            refine wpAny_ready (rs := [12]) (by kernel_rfl) (by simp) ?_
            refine (AllReady.cons rfl (fun K hK => ?_) AllReady.nil)
            rw [if_pos (by rfl)]
            refine upon_append_at rfl _ _ 24 rfl w.heap.size 86 i0 (.agg #[.string ⟨#[]⟩, .string ⟨#[]⟩]) 2 32 Try.underlying24 hi hz0 hz1 hz2 rfl (by decide) _ _ _ rfl (World.ownsRow.alloc W3.out.1 _) _ 1 1 [.string p, .string t] rfl rfl (pair_cell (by simp)) (by intro u hu; simp at hu; rcases hu with rfl | rfl <;> rfl) (by unfold maxLen; omega) (by omega) (by have := W3.out.2.2.2.size; simp; omega) ?_
            intro v' w5 hown5 hg5 _ hat
            refine hK _ _ ?_
            clear hK K
            refine wpAny_take (i := 13) (v := ?_) rfl (by kernel_rfl) (by kernel_rfl) (by kernel_rfl) (fun _ _ _ h => h) (Or.inl ⟨by kernel_rfl, ?_⟩) ?_
            rotate_left
            · intro w; go_simp; try with_reducible rfl
            refine wpAny_done (by kernel_rfl) ?_ _
            try simp only [Act.put, List.setIfInBounds_toArray, List.set_cons_zero, List.set_cons_succ, List.getElem_toArray, List.getElem_cons_zero, List.getElem_cons_succ]
            have O2 := ownW_snoc (p := ((p, t) : Pre2)) hown5
            have hz3 := W3.out.2.2.2.size
            have HB : Hid (v'.ownBlock ≠ some (w.heap.size + 1)) := Lib.hid (by
              rcases hat with e | e
              · rw [e]; exact hne.out
              · rw [e]; simp; have := row_old W3.out.2.1; omega)
            have hlt0 := fun j hj => (World.ownsRow.lt W3.out.1 j hj).1
            have hA5 := (hg5.block (w.heap.size + 1) (by have := row_old W3.out.2.1; simp; omega) (fun e => hne.out e.symm)).trans (heap_keepA W3.out.2.1 _)
            have R5 := (W3.out.2.2.1.alloc _).grown hg5 (fun j hj => by have := hlt0 j hj; omega)
            have G5 := grown_farW (W3.out.2.2.2.trans (World.grownBy_alloc _ _ _)) hg5 hlt0
            have HSM : Hid (∀ q ∈ ts ++ [((p, t) : Pre2)], q.1.size ≤ 6 ∧ q.2.size ≤ 6) := Lib.hid (by
              intro q hq
              rcases List.mem_append.1 hq with hq | hq
              · exact hsm.out q hq
              · obtain rfl : q = ((p, t) : Pre2) := by simpa using hq
                exact ⟨hp, ht.2⟩)
            clear hown5 hg5 hat cv3 hc W3 HF cv cva hne hown
            go_wp2_with fail
            go_roundw
            case rel => exact ⟨k + 1, by omega, by go_num, ⟨ts ++ [((p, t) : Pre2)], Lib.hid O2, HSM, by rw [List.length_append, List.length_singleton]; omega⟩, HB, R5, G5, Lib.hid hA5⟩
            case measure => simp [intOf]; omega
          · go_simp
            with_reducible refine (rdBelow B g _ (HF.out.2.2.2.1.alloc _).drew 3 (by omega) (by omega)).mono ?_
            rintro e w3 ⟨m, hm, hm2, rfl, hr3, hg3'⟩
            have hg3 := undrew hg3'
            clear hg3'
            obtain ⟨m, rfl⟩ := Int.eq_ofNat_of_zero_le hm
            obtain ⟨t, ht, hc⟩ := strs_cell hg3 hg1 1 6 rfl m (by simp; omega)
            have cv3 : w3.cell? ⟨w.heap.size + 1, k, none⟩ = some (.string p) := hg3.cell cva (by simp; omega)
            have W3 := Lib.hid (And.intro (own_keepW (World.ownsRow.alloc HF.out.1 _) hgw hg3) (And.intro ((hg3.block _ (by simp; omega) (by simp; omega)).trans HF.out.2.2.1) (And.intro hr3 ((HF.out.2.2.2.2.trans (World.grownBy_alloc _ _ _)).trans hg3))))
            clear hr3 hg3
            go_wp2_with fail
            refine wpAny_take (i := 8) (v := ?_) rfl (by kernel_rfl) (by kernel_rfl) (by kernel_rfl) (fun _ _ _ h => h) (Or.inl ⟨by kernel_rfl, ?_⟩) ?_
            rotate_left
            · intro w; go_simp; try with_reducible rfl
            refine wpAny_ready (rs := [4, 9]) (by kernel_rfl) (by simp) ?_
            refine (AllReady.cons rfl (fun K hK => ?_) (AllReady.cons rfl (fun K hK => ?_) AllReady.nil))
            · go_simp
              refine hK _ _ ?_
              clear hK K
              refine wpAny_ready (rs := [9]) (by kernel_rfl) (by simp) ?_
              refine (AllReady.cons rfl (fun K hK => ?_) AllReady.nil)
              go_simp
              refine hK _ _ ?_
              clear hK K
              refine wpAny_take (i := 10) (v := ?_) rfl (by kernel_rfl) (by kernel_rfl) (by kernel_rfl) (fun _ _ _ h => h) (Or.inl ⟨by kernel_rfl, ?_⟩) ?_
              rotate_left
              · intro w; go_simp; try with_reducible rfl
              refine wpAny_ready (rs := [11]) (by kernel_rfl) (by simp) ?_
              refine (AllReady.cons rfl (fun K hK => ?_) AllReady.nil)
              go_simp
              refine hK _ _ ?_
              clear hK K
              refine wpAny_ready (rs := [12]) (by kernel_rfl) (by simp) ?_
              refine (AllReady.cons rfl (fun K hK => ?_) AllReady.nil)
              rw [if_pos (by rfl)]
              refine upon_append_at rfl _ _ 24 rfl w.heap.size 86 i0 (.agg #[.string ⟨#[]⟩, .string ⟨#[]⟩]) 2 32 Try.underlying24 hi hz0 hz1 hz2 rfl (by decide) _ _ _ rfl (World.ownsRow.alloc W3.out.1 _) _ 1 1 [.string p, .string t] rfl rfl (pair_cell (by simp)) (by intro u hu; simp at hu; rcases hu with rfl | rfl <;> rfl) (by unfold maxLen; omega) (by omega) (by have := W3.out.2.2.2.size; simp; omega) ?_
              intro v' w5 hown5 hg5 _ hat
              refine hK _ _ ?_
              clear hK K
              refine wpAny_take (i := 13) (v := ?_) rfl (by kernel_rfl) (by kernel_rfl) (by kernel_rfl) (fun _ _ _ h => h) (Or.inl ⟨by kernel_rfl, ?_⟩) ?_
              rotate_left
              · intro w; go_simp; try with_reducible rfl
              refine wpAny_done (by kernel_rfl) ?_ _
              try simp only [Act.put, List.setIfInBounds_toArray, List.set_cons_zero, List.set_cons_succ, List.getElem_toArray, List.getElem_cons_zero, List.getElem_cons_succ]
              have O2 := ownW_snoc (p := ((p, t) : Pre2)) hown5
              have hz3 := W3.out.2.2.2.size
              have HB : Hid (v'.ownBlock ≠ some (w.heap.size + 1)) := Lib.hid (by
                rcases hat with e | e
                · rw [e]; exact hne.out
                · rw [e]; simp; have := row_old W3.out.2.1; omega)
              have hlt0 := fun j hj => (World.ownsRow.lt W3.out.1 j hj).1
              have hA5 := (hg5.block (w.heap.size + 1) (by have := row_old W3.out.2.1; simp; omega) (fun e => hne.out e.symm)).trans (heap_keepA W3.out.2.1 _)
              have R5 := (W3.out.2.2.1.alloc _).grown hg5 (fun j hj => by have := hlt0 j hj; omega)
              have G5 := grown_farW (W3.out.2.2.2.trans (World.grownBy_alloc _ _ _)) hg5 hlt0
              have HSM : Hid (∀ q ∈ ts ++ [((p, t) : Pre2)], q.1.size ≤ 6 ∧ q.2.size ≤ 6) := Lib.hid (by
                intro q hq
                rcases List.mem_append.1 hq with hq | hq
                · exact hsm.out q hq
                · obtain rfl : q = ((p, t) : Pre2) := by simpa using hq
                  exact ⟨hp, ht.2⟩)
              clear hown5 hg5 hat cv3 hc W3 HF cv cva hne hown
              go_wp2_with fail
              go_roundw
              case rel => exact ⟨k + 1, by omega, by go_num, ⟨ts ++ [((p, t) : Pre2)], Lib.hid O2, HSM, by rw [List.length_append, List.length_singleton]; omega⟩, HB, R5, G5, Lib.hid hA5⟩
              case measure => simp [intOf]; omega
            · go_simp
              refine hK _ _ ?_
              clear hK K
              refine wpAny_ready (rs := [4]) (by kernel_rfl) (by simp) ?_
              refine (AllReady.cons rfl (fun K hK => ?_) AllReady.nil)
              go_simp
              refine hK _ _ ?_
              clear hK K
              refine wpAny_take (i := 10) (v := ?_) rfl (by kernel_rfl) (by kernel_rfl) (by kernel_rfl) (fun _ _ _ h => h) (Or.inl ⟨by kernel_rfl, ?_⟩) ?_
              rotate_left
              · intro w; go_simp; try with_reducible rfl
              refine wpAny_ready (rs := [11]) (by kernel_rfl) (by simp) ?_
              refine (AllReady.cons rfl (fun K hK => ?_) AllReady.nil)
              go_simp
              refine hK _ _ ?_
              clear hK K
              refine wpAny_ready (rs := [12]) (by kernel_rfl) (by simp) ?_
              refine (AllReady.cons rfl (fun K hK => ?_) AllReady.nil)
              rw [if_pos (by rfl)]
              refine upon_append_at rfl _ _ 24 rfl w.heap.size 86 i0 (.agg #[.string ⟨#[]⟩, .string ⟨#[]⟩]) 2 32 Try.underlying24 hi hz0 hz1 hz2 rfl (by decide) _ _ _ rfl (World.ownsRow.alloc W3.out.1 _) _ 1 1 [.string p, .string t] rfl rfl (pair_cell (by simp)) (by intro u hu; simp at hu; rcases hu with rfl | rfl <;> rfl) (by unfold maxLen; omega) (by omega) (by have := W3.out.2.2.2.size; simp; omega) ?_
              intro v' w5 hown5 hg5 _ hat
              refine hK _ _ ?_
              clear hK K
              refine wpAny_take (i := 13) (v := ?_) rfl (by kernel_rfl) (by kernel_rfl) (by kernel_rfl) (fun _ _ _ h => h) (Or.inl ⟨by kernel_rfl, ?_⟩) ?_
              rotate_left
              · intro w; go_simp; try with_reducible rfl
              refine wpAny_done (by kernel_rfl) ?_ _
              try simp only [Act.put, List.setIfInBounds_toArray, List.set_cons_zero, List.set_cons_succ, List.getElem_toArray, List.getElem_cons_zero, List.getElem_cons_succ]
              have O2 := ownW_snoc (p := ((p, t) : Pre2)) hown5
              have hz3 := W3.out.2.2.2.size
              have HB : Hid (v'.ownBlock ≠ some (w.heap.size + 1)) := Lib.hid (by
                rcases hat with e | e
                · rw [e]; exact hne.out
                · rw [e]; simp; have := row_old W3.out.2.1; omega)
              have hlt0 := fun j hj => (World.ownsRow.lt W3.out.1 j hj).1
              have hA5 := (hg5.block (w.heap.size + 1) (by have := row_old W3.out.2.1; simp; omega) (fun e => hne.out e.symm)).trans (heap_keepA W3.out.2.1 _)
              have R5 := (W3.out.2.2.1.alloc _).grown hg5 (fun j hj => by have := hlt0 j hj; omega)
              have G5 := grown_farW (W3.out.2.2.2.trans (World.grownBy_alloc _ _ _)) hg5 hlt0
              have HSM : Hid (∀ q ∈ ts ++ [((p, t) : Pre2)], q.1.size ≤ 6 ∧ q.2.size ≤ 6) := Lib.hid (by
                intro q hq
                rcases List.mem_append.1 hq with hq | hq
                · exact hsm.out q hq
                · obtain rfl : q = ((p, t) : Pre2) := by simpa using hq
                  exact ⟨hp, ht.2⟩)
              clear hown5 hg5 hat cv3 hc W3 HF cv cva hne hown
              go_wp2_with fail
              go_roundw
              case rel => exact ⟨k + 1, by omega, by go_num, ⟨ts ++ [((p, t) : Pre2)], Lib.hid O2, HSM, by rw [List.length_append, List.length_singleton]; omega⟩, HB, R5, G5, Lib.hid hA5⟩
              case measure => simp [intOf]; omega
        · go_simp
          with_reducible refine (rdBelow B g _ HF.out.2.2.2.1.drew 3 (by omega) (by omega)).mono ?_
          rintro e w3 ⟨m, hm, hm2, rfl, hr3, hg3'⟩
          have hg3 := undrew hg3'
          clear hg3'
          obtain ⟨m, rfl⟩ := Int.eq_ofNat_of_zero_le hm
          obtain ⟨t, ht, hc⟩ := strs_cell (w := w3) (T := 9) (cs := [.string ⟨#[60, 97, 62]⟩, .string ⟨#[60, 98, 62]⟩, .string ⟨#[95, 58, 98]⟩]) (World.grownBy.refl _ (some g)) hr3.2.1 1 6 rfl m (by simp; omega)
          have cv3 : w3.cell? ⟨w.heap.size + 1, k, none⟩ = some (.string p) := hg3.cell cv (by simp; omega)
          have cv4 : (w3.alloc (.cells #[.string ⟨#[60, 97, 62]⟩, .string ⟨#[60, 98, 62]⟩, .string ⟨#[95, 58, 98]⟩] 9)).cell? ⟨w.heap.size + 1, k, none⟩ = some (.string p) := by rw [World.cell?_of_block (w := w3) (Below.heap_alloc w3 _ _ (by have := hg3.size; show w.heap.size + 1 < w3.heap.size; omega))]; exact cv3
          have W3 := Lib.hid (And.intro (own_keepW HF.out.1 hgw hg3) (And.intro ((hg3.block _ (by omega) (by simp; omega)).trans HF.out.2.1) (And.intro hr3 (HF.out.2.2.2.2.trans hg3))))
          clear hr3 hg3
          go_wp2_with fail
          refine wpAny_ready (rs := [4, 5]) (by kernel_rfl) (by simp) ?_
          refine (AllReady.cons rfl (fun K hK => ?_) (AllReady.cons rfl (fun K hK => ?_) AllReady.nil))
          · go_simp
            refine hK _ _ ?_
            clear hK K
            refine wpAny_ready (rs := [5]) (by kernel_rfl) (by simp) ?_
            refine (AllReady.cons rfl (fun K hK => ?_) AllReady.nil)
            go_simp
            refine hK _ _ ?_
            clear hK K
            refine wpAny_take (i := 8) (v := ?_) rfl (by kernel_rfl) (by kernel_rfl) (by kernel_rfl) (fun _ _ _ h => h) (Or.inl ⟨by kernel_rfl, ?_⟩) ?_
            rotate_left
            · intro w; go_simp; try with_reducible rfl
            refine wpAny_ready (rs := [9]) (by kernel_rfl) (by simp) ?_
            refine (AllReady.cons rfl (fun K hK => ?_) AllReady.nil)
            go_simp
            refine hK _ _ ?_
            clear hK K
            refine wpAny_take (i := 10) (v := ?_) rfl (by kernel_rfl) (by kernel_rfl) (by kernel_rfl) (fun _ _ _ h => h) (Or.inl ⟨by kernel_rfl, ?_⟩) ?_
            rotate_left
            · intro w; go_simp; try with_reducible rfl
            refine wpAny_ready (rs := [11]) (by kernel_rfl) (by simp) ?_
            refine (AllReady.cons rfl (fun K hK => ?_) AllReady.nil)
            go_simp
            refine hK _ _ ?_
            clear hK K
            refine wpAny_ready (rs := [12]) (by kernel_rfl) (by simp) ?_
            refine (AllReady.cons rfl (fun K hK => ?_) AllReady.nil)
            rw [if_pos (by rfl)]
            refine upon_append_at rfl _ _ 24 rfl w.heap.size 86 i0 (.agg #[.string ⟨#[]⟩, .string ⟨#[]⟩]) 2 32 Try.underlying24 hi hz0 hz1 hz2 rfl (by decide) _ _ _ rfl (World.ownsRow.alloc (World.ownsRow.alloc W3.out.1 _) _) _ 1 1 [.string p, .string t] rfl rfl (pair_cell (by simp)) (by intro u hu; simp at hu; rcases hu with rfl | rfl <;> rfl) (by unfold maxLen; omega) (by omega) (by have := W3.out.2.2.2.size; simp; omega) ?_
            intro v' w5 hown5 hg5 _ hat
            refine hK _ _ ?_
            clear hK K
            refine wpAny_take (i := 13) (v := ?_) rfl (by kernel_rfl) (by kernel_rfl) (by kernel_rfl) (fun _ _ _ h => h) (Or.inl ⟨by kernel_rfl, ?_⟩) ?_
            rotate_left
            · intro w; go_simp; try with_reducible rfl
            refine wpAny_done (by kernel_rfl) ?_ _
            try simp only [Act.put, List.setIfInBounds_toArray, List.set_cons_zero, List.set_cons_succ, List.getElem_toArray, List.getElem_cons_zero, List.getElem_cons_succ]
            have O2 := ownW_snoc (p := ((p, t) : Pre2)) hown5
            have hz3 := W3.out.2.2.2.size
            have HB : Hid (v'.ownBlock ≠ some (w.heap.size + 1)) := Lib.hid (by
              rcases hat with e | e
              · rw [e]; exact hne.out
              · rw [e]; simp; have := row_old W3.out.2.1; omega)
            have hlt0 := fun j hj => (World.ownsRow.lt W3.out.1 j hj).1
            have hA5 := (hg5.block (w.heap.size + 1) (by have := row_old W3.out.2.1; simp; omega) (fun e => hne.out e.symm)).trans (heap_keepA (heap_keepA W3.out.2.1 _) _)
            have R5 := ((W3.out.2.2.1.alloc _).alloc _).grown hg5 (fun j hj => by have := hlt0 j hj; omega)
            have G5 := grown_farW ((W3.out.2.2.2.trans (World.grownBy_alloc _ _ _)).trans (World.grownBy_alloc _ _ _)) hg5 hlt0
            have HSM : Hid (∀ q ∈ ts ++ [((p, t) : Pre2)], q.1.size ≤ 6 ∧ q.2.size ≤ 6) := Lib.hid (by
              intro q hq
              rcases List.mem_append.1 hq with hq | hq
              · exact hsm.out q hq
              · obtain rfl : q = ((p, t) : Pre2) := by simpa using hq
                exact ⟨hp, ht.2⟩)
            clear hown5 hg5 hat cv3 hc W3 HF cv cva hne hown
            go_wp2_with fail
            go_roundw
            case rel => exact ⟨k + 1, by omega, by go_num, ⟨ts ++ [((p, t) : Pre2)], Lib.hid O2, HSM, by rw [List.length_append, List.length_singleton]; omega⟩, HB, R5, G5, Lib.hid hA5⟩
            case measure => simp [intOf]; omega
          · go_simp
            refine hK _ _ ?_
            clear hK K
            refine wpAny_take (i := 8) (v := ?_) rfl (by kernel_rfl) (by kernel_rfl) (by kernel_rfl) (fun _ _ _ h => h) (Or.inl ⟨by kernel_rfl, ?_⟩) ?_
            rotate_left
            · intro w; go_simp; try with_reducible rfl
            refine wpAny_ready (rs := [4, 9]) (by kernel_rfl) (by simp) ?_
            refine (AllReady.cons rfl (fun K hK => ?_) (AllReady.cons rfl (fun K hK => ?_) AllReady.nil))
            · go_simp
              refine hK _ _ ?_
              clear hK K
              refine wpAny_ready (rs := [9]) (by kernel_rfl) (by simp) ?_
              refine (AllReady.cons rfl (fun K hK => ?_) AllReady.nil)
              go_simp
              refine hK _ _ ?_
              clear hK K
              refine wpAny_take (i := 10) (v := ?_) rfl (by kernel_rfl) (by kernel_rfl) (by kernel_rfl) (fun _ _ _ h => h) (Or.inl ⟨by kernel_rfl, ?_⟩) ?_
              rotate_left
              · intro w; go_simp; try with_reducible rfl
              refine wpAny_ready (rs := [11]) (by kernel_rfl) (by simp) ?_
              refine (AllReady.cons rfl (fun K hK => ?_) AllReady.nil)
              go_simp
              refine hK _ _ ?_
              clear hK K
              refine wpAny_ready (rs := [12]) (by kernel_rfl) (by simp) ?_
              refine (AllReady.cons rfl (fun K hK => ?_) AllReady.nil)
              rw [if_pos (by rfl)]
              refine upon_append_at rfl _ _ 24 rfl w.heap.size 86 i0 (.agg #[.string ⟨#[]⟩, .string ⟨#[]⟩]) 2 32 Try.underlying24 hi hz0 hz1 hz2 rfl (by decide) _ _ _ rfl (World.ownsRow.alloc (World.ownsRow.alloc W3.out.1 _) _) _ 1 1 [.string p, .string t] rfl rfl (pair_cell (by simp)) (by intro u hu; simp at hu; rcases hu with rfl | rfl <;> rfl) (by unfold maxLen; omega) (by omega) (by have := W3.out.2.2.2.size; simp; omega) ?_
              intro v' w5 hown5 hg5 _ hat
              refine hK _ _ ?_
              clear hK K
              refine wpAny_take (i := 13) (v := ?_) rfl (by kernel_rfl) (by kernel_rfl) (by kernel_rfl) (fun _ _ _ h => h) (Or.inl ⟨by kernel_rfl, ?_⟩) ?_
              rotate_left
              · intro w; go_simp; try with_reducible rfl
              refine wpAny_done (by kernel_rfl) ?_ _
              try simp only [Act.put, List.setIfInBounds_toArray, List.set_cons_zero, List.set_cons_succ, List.getElem_toArray, List.getElem_cons_zero, List.getElem_cons_succ]
              have O2 := ownW_snoc (p := ((p, t) : Pre2)) hown5
              have hz3 := W3.out.2.2.2.size
              have HB : Hid (v'.ownBlock ≠ some (w.heap.size + 1)) := Lib.hid (by
                rcases hat with e | e
                · rw [e]; exact hne.out
                · rw [e]; simp; have := row_old W3.out.2.1; omega)
              have hlt0 := fun j hj => (World.ownsRow.lt W3.out.1 j hj).1
              have hA5 := (hg5.block (w.heap.size + 1) (by have := row_old W3.out.2.1; simp; omega) (fun e => hne.out e.symm)).trans (heap_keepA (heap_keepA W3.out.2.1 _) _)
              have R5 := ((W3.out.2.2.1.alloc _).alloc _).grown hg5 (fun j hj => by have := hlt0 j hj; omega)
              have G5 := grown_farW ((W3.out.2.2.2.trans (World.grownBy_alloc _ _ _)).trans (World.grownBy_alloc _ _ _)) hg5 hlt0
              have HSM : Hid (∀ q ∈ ts ++ [((p, t) : Pre2)], q.1.size ≤ 6 ∧ q.2.size ≤ 6) := Lib.hid (by
                intro q hq
                rcases List.mem_append.1 hq with hq | hq
                · exact hsm.out q hq
                · obtain rfl : q = ((p, t) : Pre2) := by simpa using hq
                  exact ⟨hp, ht.2⟩)
              clear hown5 hg5 hat cv3 hc W3 HF cv cva hne hown
              go_wp2_with fail
              go_roundw
              case rel => exact ⟨k + 1, by omega, by go_num, ⟨ts ++ [((p, t) : Pre2)], Lib.hid O2, HSM, by rw [List.length_append, List.length_singleton]; omega⟩, HB, R5, G5, Lib.hid hA5⟩
              case measure => simp [intOf]; omega
            · go_simp
              refine hK _ _ ?_
              clear hK K
              refine wpAny_ready (rs := [4]) (by kernel_rfl) (by simp) ?_
              refine (AllReady.cons rfl (fun K hK => ?_) AllReady.nil)
              go_simp
              refine hK _ _ ?_
              clear hK K
              refine wpAny_take (i := 10) (v := ?_) rfl (by kernel_rfl) (by kernel_rfl) (by kernel_rfl) (fun _ _ _ h => h) (Or.inl ⟨by kernel_rfl, ?_⟩) ?_
              rotate_left
              · intro w; go_simp; try with_reducible rfl
              refine wpAny_ready (rs := [11]) (by kernel_rfl) (by simp) ?_
              refine (AllReady.cons rfl (fun K hK => ?_) AllReady.nil)
              go_simp
              refine hK _ _ ?_
              clear hK K
              refine wpAny_ready (rs := [12]) (by kernel_rfl) (by simp) ?_
              refine (AllReady.cons rfl (fun K hK => ?_) AllReady.nil)
              rw [if_pos (by rfl)]
              refine upon_append_at rfl _ _ 24 rfl w.heap.size 86 i0 (.agg #[.string ⟨#[]⟩, .string ⟨#[]⟩]) 2 32 Try.underlying24 hi hz0 hz1 hz2 rfl (by decide) _ _ _ rfl (World.ownsRow.alloc (World.ownsRow.alloc W3.out.1 _) _) _ 1 1 [.string p, .string t] rfl rfl (pair_cell (by simp)) (by intro u hu; simp at hu; rcases hu with rfl | rfl <;> rfl) (by unfold maxLen; omega) (by omega) (by have := W3.out.2.2.2.size; simp; omega) ?_
              intro v' w5 hown5 hg5 _ hat
              refine hK _ _ ?_
              clear hK K
              refine wpAny_take (i := 13) (v := ?_) rfl (by kernel_rfl) (by kernel_rfl) (by kernel_rfl) (fun _ _ _ h => h) (Or.inl ⟨by kernel_rfl, ?_⟩) ?_
              rotate_left
              · intro w; go_simp; try with_reducible rfl
              refine wpAny_done (by kernel_rfl) ?_ _
              try simp only [Act.put, List.setIfInBounds_toArray, List.set_cons_zero, List.set_cons_succ, List.getElem_toArray, List.getElem_cons_zero, List.getElem_cons_succ]
              have O2 := ownW_snoc (p := ((p, t) : Pre2)) hown5
              have hz3 := W3.out.2.2.2.size
              have HB : Hid (v'.ownBlock ≠ some (w.heap.size + 1)) := Lib.hid (by
                rcases hat with e | e
                · rw [e]; exact hne.out
                · rw [e]; simp; have := row_old W3.out.2.1; omega)
              have hlt0 := fun j hj => (World.ownsRow.lt W3.out.1 j hj).1
              have hA5 := (hg5.block (w.heap.size + 1) (by have := row_old W3.out.2.1; simp; omega) (fun e => hne.out e.symm)).trans (heap_keepA (heap_keepA W3.out.2.1 _) _)
              have R5 := ((W3.out.2.2.1.alloc _).alloc _).grown hg5 (fun j hj => by have := hlt0 j hj; omega)
              have G5 := grown_farW ((W3.out.2.2.2.trans (World.grownBy_alloc _ _ _)).trans (World.grownBy_alloc _ _ _)) hg5 hlt0
              have HSM : Hid (∀ q ∈ ts ++ [((p, t) : Pre2)], q.1.size ≤ 6 ∧ q.2.size ≤ 6) := Lib.hid (by
                intro q hq
                rcases List.mem_append.1 hq with hq | hq
                · exact hsm.out q hq
                · obtain rfl : q = ((p, t) : Pre2) := by simpa using hq
                  exact ⟨hp, ht.2⟩)
              clear hown5 hg5 hat cv3 hc W3 HF cv cva hne hown
              go_wp2_with fail
              go_roundw
              case rel => exact ⟨k + 1, by omega, by go_num, ⟨ts ++ [((p, t) : Pre2)], Lib.hid O2, HSM, by rw [List.length_append, List.length_singleton]; omega⟩, HB, R5, G5, Lib.hid hA5⟩
              case measure => simp [intOf]; omega
    · go_wp2_with fail
      refine (rdOnce B g _ hr 30 (by omega) (by omega)).mono ?_
      rintro e w1 ⟨b, rfl, hr1, hg1⟩
      have hlt0 := fun j hj => (hown.out.lt j hj).1
      have hown1 := own_keepW hown.out hgw hg1
      have G1 := hg.trans hg1
      have z1 := G1.size
      clear hg1 hr hg hA
      cases b
      · go_wp2_with fail
        go_ret
        exact ⟨_, ts, rfl, ⟨by omega, hsm.out⟩, hown1, hr1, G1⟩
      · go_wp2_with (at_builtin; refine wpList_append_own_at _ rfl _ _ 24 rfl w.heap.size 86 i0 (.agg #[.string ⟨#[]⟩, .string ⟨#[]⟩]) 2 32 Try.underlying24 hi hz0 hz1 hz2 rfl (by decide) _ _ _ rfl (hown1.alloc _) ⟨w1.heap.size, 0, none⟩ 1 1 [.string ⟨#[120]⟩, .string ⟨#[]⟩] rfl rfl ?d1 ?d2 ?d3 ?d4 ?d5 ?_)
        case d1 => exact two_cell
        case d2 => intro u hu; simp at hu; rcases hu with rfl | rfl <;> rfl
        case d3 => unfold maxLen; omega
        case d4 => omega
        case d5 => simp; omega
        intro v' w2 hown2 hg2 _ hat
        have O2 := ownW_snoc (p := ((⟨#[120]⟩, ⟨#[]⟩) : Pre2)) hown2
        have R2 := (hr1.alloc _).grown hg2 (fun j hj => by have := hlt0 j hj; omega)
        have G2 := grown_farW (G1.trans (World.grownBy_alloc w1 _ _)) hg2 hlt0
        clear hown1 hown2 hr1 G1 hg2
        go_wp2_with fail
        go_ret
        refine ⟨_, ts ++ [((⟨#[120]⟩, ⟨#[]⟩) : Pre2)], rfl, ⟨by rw [List.length_append, List.length_singleton]; omega, ?_⟩, O2, R2, G2⟩
        intro t ht
        rcases List.mem_append.1 ht with ht | ht
        · exact hsm.out t ht
        · obtain rfl : t = ((⟨#[120]⟩, ⟨#[]⟩) : Pre2) := by simpa using ht
          exact ⟨by decide, by decide⟩
end Go.Proofs.Ytegjbfbmhlaelaa
