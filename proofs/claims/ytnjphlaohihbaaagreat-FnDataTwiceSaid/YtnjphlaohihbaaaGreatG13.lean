/- A slice's cells, one by one: its front and its back. -/
import Derived.Test.YtnjphlaohihbaaaGreatG03
import Derived.Test.YtnjphlaohihbaaaGreatG01
import Derived.Test.YtnjphlaohihbaaaGreatG12
import Derived.Test.YtnjphlaohihbaaaGreatG09
import Derived.Laws.AppendOwnNone
import Derived.Lib.SliceRun
import Derived.Maps.AppendAt
import Derived.Deep.RegionHeld3
import Derived.Test.YtnjphlaohihbaaaGreatG10
namespace Go.Proofs.YtnjphlaohihbaaaGreat
open Go.RowKit Go.WideShapes
theorem flat_append (a b : List Tri3) : flat (a ++ b) = flat a ++ flat b := by simp [flat]
theorem flat_one (a : List Tri3) : ∀ u ∈ flat a, u.oneCell' = true := by
  intro u hu
  unfold flat at hu
  obtain ⟨t, _, hu⟩ := List.mem_flatMap.1 hu
  simp only [List.mem_cons, List.not_mem_nil, or_false] at hu
  rcases hu with rfl | rfl | rfl <;> rfl
theorem flat_split (ts : List Tri3) (k : Nat) : flat ts = flat (ts.take k) ++ flat (ts.drop k) := by rw [← flat_append, List.take_append_drop]
/-- A slice's cells, one by one. -/
theorem IsTris.flatAt {w : World} {b off len cap : Nat} {ts : List Tri3} (h : IsTris w (some ⟨b, off, none⟩) len cap ts) (j : Nat) (u : Value) (hj : (flat ts)[j]? = some u) : w.cell? ⟨b, off + j, none⟩ = some u := by
  have hl := h.len
  have hjl : j < ts.length * 3 := by rw [← flat_len]; exact (List.getElem?_eq_some_iff.1 hj).1
  rcases h with ⟨h, _⟩ | ⟨x, hx, h1, h2, h3, h4⟩
  · cases h
  · cases hx
    obtain ⟨q, r, hr, rfl⟩ : ∃ q r, r < 3 ∧ j = q * 3 + r := ⟨j / 3, j % 3, by omega, by omega⟩
    have hq : q < ts.length := by omega
    have e := List.getElem?_eq_getElem hq
    obtain ⟨c0, c1, c2, _⟩ := h4 q _ e
    rw [add_plain] at c0 c1 c2
    obtain ⟨f0, f1, f2⟩ := flat_at ts q _ e
    have hm : r = 0 ∨ r = 1 ∨ r = 2 := by omega
    rcases hm with rfl | rfl | rfl
    · rw [Nat.add_zero, f0] at hj; rw [← hj, ← c0, Nat.mul_comm 3 q]; rfl
    · rw [f1] at hj; rw [← hj, ← c1, Nat.mul_comm 3 q]
    · rw [f2] at hj; rw [← hj, ← c2, Nat.mul_comm 3 q]
theorem IsTris.front {w : World} {b off len cap : Nat} {ts : List Tri3} (h : IsTris w (some ⟨b, off, none⟩) len cap ts) (k : Nat) : ∀ (j : Nat) (u : Value), (flat (ts.take k))[j]? = some u → w.cell? ((⟨b, off, none⟩ : Addr).add j) = some u := by
  intro j u hj
  rw [add_plain]
  refine h.flatAt j u ?_
  rw [flat_split ts k, List.getElem?_append_left (List.getElem?_eq_some_iff.1 hj).1]
  exact hj
theorem IsTris.back {w : World} {b off len cap : Nat} {ts : List Tri3} (h : IsTris w (some ⟨b, off, none⟩) len cap ts) (k : Nat) (hk : k ≤ ts.length) : ∀ (j : Nat) (u : Value), (flat (ts.drop k))[j]? = some u → w.cell? ((⟨b, off + k * 3, none⟩ : Addr).add j) = some u := by
  intro j u hj
  rw [add_plain, Nat.add_assoc]
  refine h.flatAt (k * 3 + j) u ?_
  have e : (flat (ts.take k)).length = k * 3 := by rw [flat_len, List.length_take, Nat.min_eq_left hk]
  rw [flat_split ts k, List.getElem?_append_right (by omega), e, Nat.add_sub_cancel_left]
  exact hj
theorem tris_news {w : World} {x : Addr} {ts : List Tri3} (h4 : ∀ (i : Nat) (t : Tri3), ts[i]? = some t → TriAt w x i t) (j : Nat) (u : Value) (hj : (flat ts)[j]? = some u) : w.cell? (x.add j) = some u := by
  have hjl : j < ts.length * 3 := by rw [← flat_len]; exact (List.getElem?_eq_some_iff.1 hj).1
  obtain ⟨q, r, hr, rfl⟩ : ∃ q r, r < 3 ∧ j = q * 3 + r := ⟨j / 3, j % 3, by omega, by omega⟩
  have e := List.getElem?_eq_getElem (show q < ts.length by omega)
  obtain ⟨c0, c1, c2, _⟩ := h4 q _ e
  obtain ⟨f0, f1, f2⟩ := flat_at ts q _ e
  have hm : r = 0 ∨ r = 1 ∨ r = 2 := by omega
  rcases hm with rfl | rfl | rfl
  · rw [Nat.add_zero, f0] at hj; rw [← hj, ← c0, Nat.mul_comm 3 q]; rfl
  · rw [f1] at hj; rw [← hj, ← c1, Nat.mul_comm 3 q]
  · rw [f2] at hj; rw [← hj, ← c2, Nat.mul_comm 3 q]
theorem own_some {B : Nat} {w : World} {v : Value} {ts : List Tri3} (h : OwnT B w v ts) (h0 : 0 < ts.length) : ∃ g c, v = .slice (some ⟨g, 0, none⟩) ts.length c := by
  rcases h.2 with ⟨_, e⟩ | ⟨g, c, cur, rfl, _⟩
  · omega
  · exact ⟨g, c, rfl⟩
end Go.Proofs.YtnjphlaohihbaaaGreat
/- A copy of a slice of triples: the program's and the specification's way. -/
namespace Go.Proofs.YtnjphlaohihbaaaGreat
open Go.RowKit Go.WideShapes Go.Maps
theorem own_emptyN {g : Nat} {w : World} (h : Cells g #[] 26 w) : OwnT g w (.slice (some ⟨g, 0, none⟩) 0 0) [] := ⟨rfl, .inr ⟨g, 0, #[], rfl, Nat.le_refl _, h, Nat.le_refl _, by unfold maxLen; omega, rfl, rfl⟩⟩
theorem ownC_atN {B j : Nat} {w : World} {v : Value} {ts : List Tri3} (h : OwnT B w v ts) (hv : v.ownBlock = some j) : Holds j (j + 1) w (OwnC j (j + 1) v ts) := by
  have hlt := (World.ownsRow.lt h j hv).2
  refine ⟨ownC_lives, hlt, ?_, fun i hi => by rw [hv] at hi; cases hi; exact Nat.lt_succ_self _⟩
  obtain ⟨h1, h2⟩ := h
  refine ⟨h1, ?_⟩
  rcases h2 with h2 | ⟨g, cap, cur, e, _, r⟩
  · exact .inl h2
  · subst e
    cases hv
    exact .inr ⟨g, cap, cur, rfl, Nat.le_refl _, r⟩
/-- 'append([]T{}, x...)' at a step of a region that draws its order. -/
theorem upon_copyN {o : Oper} {a : Act} {w : World} {Q : Exit → Act → World → Prop} {K : Act → World → Prop} (s x : Operand)
    (ho : o.op = .call { callee := .builtin .append, args := #[s, x], argTypes := #[33, 33] }) (g : Nat) (hs : a.eval s = .slice (some ⟨g, 0, none⟩) 0 0) (hA : Cells g #[] 26 w)
    (ad : Option Addr) (n c : Nat) (ts : List Tri3) (hx : a.eval x = .slice ad n c) (h : IsTris w ad n c ts) (hl : n ≤ 1048576)
    (k : ∀ (v' : Value) (w' : World) (j : Nat), j = g ∨ j = w.heap.size → v'.ownBlock = some j → Holds j (j + 1) w' (OwnC j (j + 1) v' ts) → Turn g (g + 1) w w' → K (a.put o.dst v') w') : Oper.wp Tryz.prog o a w K Q := by
  obtain ⟨i0, hi, hz0, hz1, hz2⟩ := info_parts infoTri
  have O0 := own_emptyN hA
  have hg : g < w.heap.size := (World.ownsRow.lt O0 g rfl).2
  rcases h with ⟨rfl, rfl, rfl, rfl⟩ | ⟨y, rfl, h1, h2, h3, h4⟩
  · have hrun := run_append_owned_none (P := Tryz.prog) (w := w) g 33 o.type 26 i0 3 Tryz.underlying33 hi _ 0 _ O0
    unfold Oper.wp
    simp [execOp, ho, resolve, invoke, builtin, hs, hx, hrun, Result.andThen]
    exact k _ _ g (.inl rfl) rfl (ownC_atN O0 rfl) ⟨rfl, rfl, rfl, Nat.le_refl _, fun _ _ _ => rfl⟩
  · have F : ∀ (j : Nat) (u : Value), (flat ts)[j]? = some u → w.cell? (y.add j) = some u := by
      intro j u hu
      have hj : j < ts.length * 3 := by rw [← flat_len]; exact (List.getElem?_eq_some_iff.1 hu).1
      have hk : j / 3 < ts.length := by omega
      obtain ⟨f0, f1, f2⟩ := flat_at ts (j / 3) _ (List.getElem?_eq_getElem hk)
      obtain ⟨c0, c1, c2, _⟩ := h4 (j / 3) _ (List.getElem?_eq_getElem hk)
      obtain e | e | e : j = 3 * (j / 3) ∨ j = 3 * (j / 3) + 1 ∨ j = 3 * (j / 3) + 2 := by omega
      · rw [e] at hu ⊢; rw [Nat.mul_comm] at hu; rw [c0, ← hu, f0]
      · rw [e] at hu ⊢; rw [Nat.mul_comm] at hu; rw [c1, ← hu, f1]
      · rw [e] at hu ⊢; rw [Nat.mul_comm] at hu; rw [c2, ← hu, f2]
    obtain ⟨v', w', hr, ho1, hg1, _, hat⟩ := run_append_own_at (P := Tryz.prog) (w := w) g 33 o.type 26 i0 (.agg #[.string ⟨#[]⟩, .string ⟨#[]⟩, .string ⟨#[]⟩]) 3 48 Tryz.underlying33 hi hz0 hz1 hz2 rfl (by decide) _ 0 _ O0 y n c (flat ts) (by rw [flat_len, h3]) F (flat_one _) (by unfold maxLen; omega) (by omega) (by omega)
    have O1 : OwnT g w' v' ts := by unfold OwnT; rw [h3]; simpa [show flat ([] : List Tri3) = [] from rfl] using ho1
    unfold Oper.wp
    simp [execOp, ho, resolve, invoke, builtin, hs, hx, hr, Result.andThen]
    have T : Turn g (g + 1) w w' := .of_grown hg1 (fun j hj => by simp [Value.ownBlock] at hj; omega)
    rcases hat with e | e
    · exact k _ _ g (.inl rfl) e (ownC_atN O1 e) T
    · exact k _ _ w.heap.size (.inr rfl) e (ownC_atN O1 e) T
theorem wpList_copyN {ops : Array Oper} {rest : List Oper} {o : Oper} {a : Act} {w : World} {Q : Exit → Act → World → Prop} (hgd : o.guard = none) (s x : Operand)
    (ho : o.op = .call { callee := .builtin .append, args := #[s, x], argTypes := #[33, 33] }) (g : Nat) (hs : a.eval s = .slice (some ⟨g, 0, none⟩) 0 0) (hA : Cells g #[] 26 w)
    (ad : Option Addr) (n c : Nat) (ts : List Tri3) (hx : a.eval x = .slice ad n c) (h : IsTris w ad n c ts) (hl : n ≤ 1048576)
    (k : ∀ (v' : Value) (w' : World) (j : Nat), Hid (j = g ∨ j = w.heap.size) → Holds j (j + 1) w' (OwnC j (j + 1) v' ts) → Turn g (g + 1) w w' → wpList Tryz.prog ops Q rest (a.put o.dst v') w') : wpList Tryz.prog ops Q (o :: rest) a w :=
  wpList_plain hgd fun _ hK => upon_copyN s x ho g hs hA ad n c ts hx h hl fun v' w' j h1 _ h3 h4 => hK _ _ (k v' w' j (Lib.hid h1) h3 h4)
set_option maxRecDepth 100000 in
set_option maxHeartbeats 1600000 in
theorem implCloneN (a : Option Addr) (len cap : Nat) (ts : List Tri3) (w : World) (h : IsTris w a len cap ts) (hl : len ≤ 1048576) :
    Calls Tryz.prog 61 #[.slice a len cap] w fun e w' => ∃ v, e = .returned v ∧ OwnT w.heap.size w' v ts ∧ Below w.heap.size w w' := by
  obtain ⟨i0, hi, hz0, hz1, hz2⟩ := info_parts infoTri
  have q22 : ∀ (w : World) (a : Option Addr) (n c n' c' : Nat), (binOp .eql 33 (.slice a n c) (.slice none n' c')).run Tryz.prog w = .ok (.bool a.isNone) w := fun w a n c n' c' => Lib.run_eql_slice_nil w _ _ a n c n' c' Tryz.underlying33
  rcases h with ⟨rfl, rfl, rfl, rfl⟩ | ⟨x, rfl, h1, h2, h3, h4⟩
  · go_enter Tryz.func61, Tryz.ntmps61
    go_wp2_with fail
    go_ret
    exact ⟨_, rfl, World.ownsRow_nil .., Below.refl _ _⟩
  have O0 : OwnT w.heap.size (w.alloc (.cells #[] 26)) (.slice (some ⟨w.heap.size, 0, none⟩) 0 0) [] := World.ownsRow_lit (size := 3) (e := 26) w #[] 0 (Nat.le_refl _) (by decide) rfl
  have BA := (Below.refl w.heap.size w).alloc (Nat.le_refl _) (.cells #[] 26)
  have F : ∀ (j : Nat) (u : Value), (flat ts)[j]? = some u → (w.alloc (.cells #[] 26)).cell? (x.add j) = some u := by
    intro j u hu
    have hj : j < ts.length * 3 := by rw [← flat_len]; exact (List.getElem?_eq_some_iff.1 hu).1
    have hk : j / 3 < ts.length := by omega
    obtain ⟨f0, f1, f2⟩ := flat_at ts (j / 3) _ (List.getElem?_eq_getElem hk)
    obtain ⟨c0, c1, c2, _⟩ := h4 (j / 3) _ (List.getElem?_eq_getElem hk)
    have hc : w.cell? (x.add j) = some u := by
      obtain e | e | e : j = 3 * (j / 3) ∨ j = 3 * (j / 3) + 1 ∨ j = 3 * (j / 3) + 2 := by omega
      · rw [e] at hu ⊢; rw [Nat.mul_comm] at hu; rw [c0, ← hu, f0]
      · rw [e] at hu ⊢; rw [Nat.mul_comm] at hu; rw [c1, ← hu, f1]
      · rw [e] at hu ⊢; rw [Nat.mul_comm] at hu; rw [c2, ← hu, f2]
    exact Lib.cell?_alloc_some _ hc
  have HL := Lib.hid h3
  have HF := Lib.hid F
  have HO := Lib.hid O0
  clear h4 F O0 h1 h2 h3
  go_enter Tryz.func61, Tryz.ntmps61
  go_wp2_with (at_builtin; refine wpList_append_own _ rfl _ _ 33 rfl w.heap.size 26 i0 (.agg #[.string ⟨#[]⟩, .string ⟨#[]⟩, .string ⟨#[]⟩]) 3 48 Tryz.underlying33 hi hz0 hz1 hz2 rfl (by decide) _ _ _ rfl HO.out x len _ (flat ts) rfl (by rw [flat_len, HL.out]) HF.out (fun v hv => by unfold flat at hv; obtain ⟨t, _, h⟩ := List.mem_flatMap.1 hv; simp at h; rcases h with rfl | rfl | rfl <;> rfl) ?h63a ?h48a ?hbsa ?_)
  case h63a => rw [List.length_nil]; unfold maxLen; omega
  case h48a => rw [List.length_nil]; omega
  case hbsa => simp only [World.size_alloc]; omega
  intro v1 w1 hown1 hg1 _
  have O1 : OwnT w.heap.size w1 v1 ts := by unfold OwnT; rw [HL.out]; simpa [show flat ([] : List Tri3) = [] from rfl] using hown1
  have B1 : Below w.heap.size w w1 := BA.grown hg1 BA.size (fun j hj => by simp [Value.ownBlock] at hj; omega)
  have HO1 := Lib.hid O1
  clear hown1 hg1 HO HF O1
  go_wp2_with fail
  go_ret
  exact ⟨_, rfl, HO1.out, B1⟩
end Go.Proofs.YtnjphlaohihbaaaGreat
/- DataOk of the program. -/
namespace Go.Proofs.YtnjphlaohihbaaaGreat
open Go.RowKit Go.WideShapes
set_option maxRecDepth 100000 in
set_option maxHeartbeats 3200000 in
theorem implDataOk (a : Option Addr) (len cap : Nat) (ts : List NamV) (w : World) (h : IsNams w a len cap ts) (hsm : SmN ts) :
    Calls Tryz.prog 12 #[.slice a len cap] w fun e w' => e = .returned (.bool (dataOk ts)) ∧ Below w.heap.size w w' := by
  have hts := h.len
  have hlen := h.maxl
  by_cases g4 : (6 : Int) < len
  · have HG : Hid (dataOk ts = false) := Lib.hid (by unfold dataOk; rw [decide_eq_false (by omega)]; rfl)
    clear h hsm hts
    go_enter Tryz.func12, Tryz.ntmps12
    go_wp2_with fail
    go_ret
    exact ⟨by rw [HG.out]; rfl, Below.refl _ _⟩
  have HG : Hid (dataOk ts = gUpto namT lessN ts ts.length) := Lib.hid (by unfold dataOk; rw [decide_eq_true (by omega)]; rfl)
  have HT := Lib.hid hts
  have H := Lib.hid h
  have HM := Lib.hid hsm
  clear hts h hsm
  go_enter Tryz.func12, Tryz.ntmps12
  go_wp2_with fail
  go_loopw [10] (fun i wr => ∃ k : Nat, k ≤ len ∧ i = .int .i64 k ∧ Hid (gUpto namT lessN ts k = true) ∧ Below w.heap.size w wr) (fun i _ => len - (intOf i).toNat)
  case atStart => exact ⟨0, Nat.zero_le _, rfl, Lib.hid rfl, Below.refl _ _⟩
  case round =>
    obtain ⟨k, hk, rfl, hok, hnx⟩ := hrel
    have hk6 : (0 : Int) ≤ (k : Int) := by omega
    by_cases hlt : k < len
    · obtain ⟨b, off, rfl, hb, hl, hm, hts, hc⟩ := H.out.cells (by omega)
      have ht : ts[k]? = some ts[k] := List.getElem?_eq_getElem (by omega)
      have hk7 : (k : Int) < (len : Int) := by omega
      obtain ⟨n1, n2⟩ := HM.out ts[k] (List.getElem_mem _)
      have hsm := HM.out.sm (List.getElem_mem (by omega : k < ts.length))
      obtain ⟨ga, gn, gc, c0, c1, hz, m0⟩ := hc k _ ht
      clear m0 n2
      have hzl := hz.len
      have hz' := hz.next hnx
      rw [← hnx.cell (p := ⟨b, _, none⟩) hb] at c0 c1
      generalize htt : ts[k] = t at c0 c1 ht n1 hsm hz hz' hzl
      clear htt hz
      obtain ⟨s, g⟩ := t
      simp only at c0 c1 n1 hsm hz' hzl
      have A1 := implKindOf s (by omega)
      have A2 := fun W (hb : Below wr.heap.size wr W) => implGraphOk ga gn gc g W (hz'.next hb) hsm
      have l0 : b < wr.heap.size := Nat.lt_of_lt_of_le hb hnx.size
      have T0 := NamK.Box2.new wr (.string s) (.slice ga gn gc) 35
      have BW := (Below.refl wr.heap.size wr).alloc (Nat.le_refl _) (.cells #[.string s, .slice ga gn gc] 35)
      have hnx2 := (hnx.alloc hnx.size (.cells #[.string s, .slice ga gn gc] 35)).drew
      have HZL := Lib.hid hzl
      have HC : Hid (∀ i u, ts[i]? = some u → ∃ a n c, wr.cell? ⟨b, off + i * 2, none⟩ = some (.string u.1) ∧ wr.cell? ⟨b, off + i * 2 + 1, none⟩ = some (.slice a n c)) := Lib.hid (fun i u hu => by
        obtain ⟨a', n', c', d0, d1, _⟩ := hc i u hu
        rw [← hnx.cell (p := ⟨b, _, none⟩) hb] at d0 d1
        exact ⟨a', n', c', d0, d1⟩)
      clear hzl hts hc hm hz' hsm hnx
      by_cases q1 : kindL s.data.toList = 1
      rotate_left
      · have HR : Hid (dataOk ts = false) := Lib.hid (by rw [HG.out]; exact gUpto_no (gAt_not ht (by unfold namT; rw [decide_eq_false q1]; rfl)) (by have := HT.out; omega))
        have q2 : ¬ ((kindL s.data.toList : Nat) : Int) = 1 := by omega
        have q3 : (((kindL s.data.toList : Nat) : Int) == 1) = false := by rw [beq_eq_false_iff_ne]; exact q2
        have q4 : (((kindL s.data.toList : Nat) : Int) != 1) = true := by rw [bne_iff_ne]; exact q2
        have C1 := Lib.hid A1
        clear A1 A2 q1 q2 ht
        go_wp2_with fail
        obtain ⟨x10, x11⟩ := T0.drew.cells
        have T1 := T0.drew
        refine wp_region_any (by kernel_rfl) ?_
        change wpAny _ _ _ _ _ _ _ (World.drew _)
        refine wpAny_take (i := 0) (v := ?_) rfl (by kernel_rfl) (by kernel_rfl) (by kernel_rfl) (fun _ _ _ h => h) (Or.inl ⟨by kernel_rfl, ?_⟩) ?_
        rotate_left
        · intro w; go_simp; try with_reducible rfl
        refine wpAny_ready (rs := [1]) (by kernel_rfl) (by simp) ?_
        refine AllReady.cons rfl (fun K hK => ?_) AllReady.nil
        go_simp
        refine hK _ _ ?_
        clear hK K
        refine wpAny_ready (rs := [2]) (by kernel_rfl) (by simp) ?_
        refine AllReady.cons rfl (fun K hK => ?_) AllReady.nil
        go_simp
        refine (C1.out _).mono ?_
        rintro e w5 ⟨rfl, hb5⟩
        have B5 := (BW.drew).trans (hb5.mono BW.size)
        have N5 := hnx2.trans (hb5.mono hnx2.size)
        have T2 := T1.next hb5
        obtain ⟨x20, x21⟩ := T2.cells
        go_wp2_with fail
        refine wpAny_take (i := 3) (v := ?_) rfl (by kernel_rfl) (by kernel_rfl) (by kernel_rfl) (fun _ _ _ h => h) (Or.inl ⟨by kernel_rfl, ?_⟩) ?_
        rotate_left
        · intro w; go_simp; try with_reducible rfl
        refine wpAny_take (i := 4) (v := ?_) rfl (by kernel_rfl) (by kernel_rfl) (by kernel_rfl) (fun _ _ _ h => h) (Or.inl ⟨by kernel_rfl, ?_⟩) ?_
        rotate_left
        · intro w; go_simp; try with_reducible rfl
        refine wpAny_take (i := 5) (v := undef) rfl (by kernel_rfl) (by kernel_rfl) (by kernel_rfl) (fun _ _ _ h => h) (Or.inr ⟨by kernel_rfl, rfl⟩) ?_
        refine wpAny_take (i := 6) (v := undef) rfl (by kernel_rfl) (by kernel_rfl) (by kernel_rfl) (fun _ _ _ h => h) (Or.inr ⟨by kernel_rfl, rfl⟩) ?_
        refine wpAny_take (i := 7) (v := undef) rfl (by kernel_rfl) (by kernel_rfl) (by kernel_rfl) (fun _ _ _ h => h) (Or.inr ⟨by kernel_rfl, rfl⟩) ?_
        refine wpAny_take (i := 8) (v := undef) rfl (by kernel_rfl) (by kernel_rfl) (by kernel_rfl) (fun _ _ _ h => h) (Or.inr ⟨by kernel_rfl, rfl⟩) ?_
        refine wpAny_take (i := 9) (v := ?_) rfl (by kernel_rfl) (by kernel_rfl) (by kernel_rfl) (fun _ _ _ h => h) (Or.inl ⟨by kernel_rfl, ?_⟩) ?_
        rotate_left
        · intro w; go_simp; try with_reducible rfl
        refine wpAny_take (i := 10) (v := ?_) rfl (by kernel_rfl) (by kernel_rfl) (by kernel_rfl) (fun _ _ _ h => h) (Or.inl ⟨by kernel_rfl, ?_⟩) ?_
        rotate_left
        · intro w; go_simp; try with_reducible rfl
        refine wpAny_take (i := 11) (v := undef) rfl (by kernel_rfl) (by kernel_rfl) (by kernel_rfl) (fun _ _ _ h => h) (Or.inr ⟨by kernel_rfl, rfl⟩) ?_
        refine wpAny_take (i := 12) (v := undef) rfl (by kernel_rfl) (by kernel_rfl) (by kernel_rfl) (fun _ _ _ h => h) (Or.inr ⟨by kernel_rfl, rfl⟩) ?_
        refine wpAny_take (i := 13) (v := undef) rfl (by kernel_rfl) (by kernel_rfl) (by kernel_rfl) (fun _ _ _ h => h) (Or.inr ⟨by kernel_rfl, rfl⟩) ?_
        refine wpAny_take (i := 14) (v := undef) rfl (by kernel_rfl) (by kernel_rfl) (by kernel_rfl) (fun _ _ _ h => h) (Or.inr ⟨by kernel_rfl, rfl⟩) ?_
        refine wpAny_take (i := 15) (v := ?_) rfl (by kernel_rfl) (by kernel_rfl) (by kernel_rfl) (fun _ _ _ h => h) (Or.inl ⟨by kernel_rfl, ?_⟩) ?_
        rotate_left
        · intro w; go_simp; try with_reducible rfl
        refine wpAny_take (i := 16) (v := ?_) rfl (by kernel_rfl) (by kernel_rfl) (by kernel_rfl) (fun _ _ _ h => h) (Or.inl ⟨by kernel_rfl, ?_⟩) ?_
        rotate_left
        · intro w; go_simp; try with_reducible rfl
        refine wpAny_take (i := 17) (v := undef) rfl (by kernel_rfl) (by kernel_rfl) (by kernel_rfl) (fun _ _ _ h => h) (Or.inr ⟨by kernel_rfl, rfl⟩) ?_
        refine wpAny_take (i := 18) (v := undef) rfl (by kernel_rfl) (by kernel_rfl) (by kernel_rfl) (fun _ _ _ h => h) (Or.inr ⟨by kernel_rfl, rfl⟩) ?_
        refine wpAny_take (i := 19) (v := undef) rfl (by kernel_rfl) (by kernel_rfl) (by kernel_rfl) (fun _ _ _ h => h) (Or.inr ⟨by kernel_rfl, rfl⟩) ?_
        refine wpAny_take (i := 20) (v := undef) rfl (by kernel_rfl) (by kernel_rfl) (by kernel_rfl) (fun _ _ _ h => h) (Or.inr ⟨by kernel_rfl, rfl⟩) ?_
        refine wpAny_take (i := 21) (v := undef) rfl (by kernel_rfl) (by kernel_rfl) (by kernel_rfl) (fun _ _ _ h => h) (Or.inr ⟨by kernel_rfl, rfl⟩) ?_
        refine wpAny_take (i := 22) (v := undef) rfl (by kernel_rfl) (by kernel_rfl) (by kernel_rfl) (fun _ _ _ h => h) (Or.inr ⟨by kernel_rfl, rfl⟩) ?_
        refine wpAny_take (i := 23) (v := undef) rfl (by kernel_rfl) (by kernel_rfl) (by kernel_rfl) (fun _ _ _ h => h) (Or.inr ⟨by kernel_rfl, rfl⟩) ?_
        refine wpAny_take (i := 24) (v := undef) rfl (by kernel_rfl) (by kernel_rfl) (by kernel_rfl) (fun _ _ _ h => h) (Or.inr ⟨by kernel_rfl, rfl⟩) ?_
        refine wpAny_take (i := 25) (v := undef) rfl (by kernel_rfl) (by kernel_rfl) (by kernel_rfl) (fun _ _ _ h => h) (Or.inr ⟨by kernel_rfl, rfl⟩) ?_
        refine wpAny_take (i := 26) (v := undef) rfl (by kernel_rfl) (by kernel_rfl) (by kernel_rfl) (fun _ _ _ h => h) (Or.inr ⟨by kernel_rfl, rfl⟩) ?_
        refine wpAny_take (i := 27) (v := undef) rfl (by kernel_rfl) (by kernel_rfl) (by kernel_rfl) (fun _ _ _ h => h) (Or.inr ⟨by kernel_rfl, rfl⟩) ?_
        refine wpAny_take (i := 28) (v := undef) rfl (by kernel_rfl) (by kernel_rfl) (by kernel_rfl) (fun _ _ _ h => h) (Or.inr ⟨by kernel_rfl, rfl⟩) ?_
        refine wpAny_take (i := 29) (v := undef) rfl (by kernel_rfl) (by kernel_rfl) (by kernel_rfl) (fun _ _ _ h => h) (Or.inr ⟨by kernel_rfl, rfl⟩) ?_
        refine wpAny_take (i := 30) (v := ?_) rfl (by kernel_rfl) (by kernel_rfl) (by kernel_rfl) (fun _ _ _ h => h) (Or.inl ⟨by kernel_rfl, ?_⟩) ?_
        rotate_left
        · intro w; go_simp; try with_reducible rfl
        refine wpAny_done (by kernel_rfl) ?_ _
        try simp only [Act.put, List.setIfInBounds_toArray, List.set_cons_zero, List.set_cons_succ, List.getElem_toArray, List.getElem_cons_zero, List.getElem_cons_succ]
        go_wp2_with fail
        go_ret
        exact ⟨by rw [HR.out]; rfl, N5⟩
      rw [q1] at A1
      have C1 : Hid (∀ w, Calls Tryz.prog 36 #[.string s] w fun e w' => e = .returned (.int .i64 1) ∧ Below w.heap.size w w') := Lib.hid A1
      clear A1
      by_cases q5 : gn = 0
      · subst q5
        have HR : Hid (dataOk ts = false) := Lib.hid (by rw [HG.out]; exact gUpto_no (gAt_not ht (by unfold namT; rw [decide_eq_false (p := 0 < g.length) (by have := HZL.out; omega), Bool.and_false, Bool.and_false])) (by have := HT.out; omega))
        have C2 := Lib.hid A2
        clear A2 ht q1
        go_wp2_with fail
        obtain ⟨x10, x11⟩ := T0.drew.cells
        have T1 := T0.drew
        refine wp_region_any (by kernel_rfl) ?_
        change wpAny _ _ _ _ _ _ _ (World.drew _)
        refine wpAny_take (i := 0) (v := ?_) rfl (by kernel_rfl) (by kernel_rfl) (by kernel_rfl) (fun _ _ _ h => h) (Or.inl ⟨by kernel_rfl, ?_⟩) ?_
        rotate_left
        · intro w; go_simp; try with_reducible rfl
        refine wpAny_ready (rs := [1]) (by kernel_rfl) (by simp) ?_
        refine AllReady.cons rfl (fun K hK => ?_) AllReady.nil
        go_simp
        refine hK _ _ ?_
        clear hK K
        refine wpAny_ready (rs := [2]) (by kernel_rfl) (by simp) ?_
        refine AllReady.cons rfl (fun K hK => ?_) AllReady.nil
        go_simp
        refine (C1.out _).mono ?_
        rintro e w5 ⟨rfl, hb5⟩
        have B5 := (BW.drew).trans (hb5.mono BW.size)
        have N5 := hnx2.trans (hb5.mono hnx2.size)
        have T2 := T1.next hb5
        obtain ⟨x20, x21⟩ := T2.cells
        go_wp2_with fail
        refine wpAny_take (i := 3) (v := ?_) rfl (by kernel_rfl) (by kernel_rfl) (by kernel_rfl) (fun _ _ _ h => h) (Or.inl ⟨by kernel_rfl, ?_⟩) ?_
        rotate_left
        · intro w; go_simp; try with_reducible rfl
        refine wpAny_take (i := 4) (v := ?_) rfl (by kernel_rfl) (by kernel_rfl) (by kernel_rfl) (fun _ _ _ h => h) (Or.inl ⟨by kernel_rfl, ?_⟩) ?_
        rotate_left
        · intro w; go_simp; try with_reducible rfl
        refine wpAny_take (i := 5) (v := ?_) rfl (by kernel_rfl) (by kernel_rfl) (by kernel_rfl) (fun _ _ _ h => h) (Or.inl ⟨by kernel_rfl, ?_⟩) ?_
        rotate_left
        · intro w; go_simp; try with_reducible rfl
        refine wpAny_ready (rs := [6]) (by kernel_rfl) (by simp) ?_
        refine AllReady.cons rfl (fun K hK => ?_) AllReady.nil
        go_simp
        refine hK _ _ ?_
        clear hK K
        refine wpAny_take (i := 7) (v := ?_) rfl (by kernel_rfl) (by kernel_rfl) (by kernel_rfl) (fun _ _ _ h => h) (Or.inl ⟨by kernel_rfl, ?_⟩) ?_
        rotate_left
        · intro w; go_simp; try with_reducible rfl
        refine wpAny_take (i := 8) (v := ?_) rfl (by kernel_rfl) (by kernel_rfl) (by kernel_rfl) (fun _ _ _ h => h) (Or.inl ⟨by kernel_rfl, ?_⟩) ?_
        rotate_left
        · intro w; go_simp; try with_reducible rfl
        refine wpAny_take (i := 9) (v := ?_) rfl (by kernel_rfl) (by kernel_rfl) (by kernel_rfl) (fun _ _ _ h => h) (Or.inl ⟨by kernel_rfl, ?_⟩) ?_
        rotate_left
        · intro w; go_simp; try with_reducible rfl
        refine wpAny_take (i := 10) (v := ?_) rfl (by kernel_rfl) (by kernel_rfl) (by kernel_rfl) (fun _ _ _ h => h) (Or.inl ⟨by kernel_rfl, ?_⟩) ?_
        rotate_left
        · intro w; go_simp; try with_reducible rfl
        refine wpAny_take (i := 11) (v := undef) rfl (by kernel_rfl) (by kernel_rfl) (by kernel_rfl) (fun _ _ _ h => h) (Or.inr ⟨by kernel_rfl, rfl⟩) ?_
        refine wpAny_take (i := 12) (v := undef) rfl (by kernel_rfl) (by kernel_rfl) (by kernel_rfl) (fun _ _ _ h => h) (Or.inr ⟨by kernel_rfl, rfl⟩) ?_
        refine wpAny_take (i := 13) (v := undef) rfl (by kernel_rfl) (by kernel_rfl) (by kernel_rfl) (fun _ _ _ h => h) (Or.inr ⟨by kernel_rfl, rfl⟩) ?_
        refine wpAny_take (i := 14) (v := undef) rfl (by kernel_rfl) (by kernel_rfl) (by kernel_rfl) (fun _ _ _ h => h) (Or.inr ⟨by kernel_rfl, rfl⟩) ?_
        refine wpAny_take (i := 15) (v := ?_) rfl (by kernel_rfl) (by kernel_rfl) (by kernel_rfl) (fun _ _ _ h => h) (Or.inl ⟨by kernel_rfl, ?_⟩) ?_
        rotate_left
        · intro w; go_simp; try with_reducible rfl
        refine wpAny_take (i := 16) (v := ?_) rfl (by kernel_rfl) (by kernel_rfl) (by kernel_rfl) (fun _ _ _ h => h) (Or.inl ⟨by kernel_rfl, ?_⟩) ?_
        rotate_left
        · intro w; go_simp; try with_reducible rfl
        refine wpAny_take (i := 17) (v := undef) rfl (by kernel_rfl) (by kernel_rfl) (by kernel_rfl) (fun _ _ _ h => h) (Or.inr ⟨by kernel_rfl, rfl⟩) ?_
        refine wpAny_take (i := 18) (v := undef) rfl (by kernel_rfl) (by kernel_rfl) (by kernel_rfl) (fun _ _ _ h => h) (Or.inr ⟨by kernel_rfl, rfl⟩) ?_
        refine wpAny_take (i := 19) (v := undef) rfl (by kernel_rfl) (by kernel_rfl) (by kernel_rfl) (fun _ _ _ h => h) (Or.inr ⟨by kernel_rfl, rfl⟩) ?_
        refine wpAny_take (i := 20) (v := undef) rfl (by kernel_rfl) (by kernel_rfl) (by kernel_rfl) (fun _ _ _ h => h) (Or.inr ⟨by kernel_rfl, rfl⟩) ?_
        refine wpAny_take (i := 21) (v := undef) rfl (by kernel_rfl) (by kernel_rfl) (by kernel_rfl) (fun _ _ _ h => h) (Or.inr ⟨by kernel_rfl, rfl⟩) ?_
        refine wpAny_take (i := 22) (v := undef) rfl (by kernel_rfl) (by kernel_rfl) (by kernel_rfl) (fun _ _ _ h => h) (Or.inr ⟨by kernel_rfl, rfl⟩) ?_
        refine wpAny_take (i := 23) (v := undef) rfl (by kernel_rfl) (by kernel_rfl) (by kernel_rfl) (fun _ _ _ h => h) (Or.inr ⟨by kernel_rfl, rfl⟩) ?_
        refine wpAny_take (i := 24) (v := undef) rfl (by kernel_rfl) (by kernel_rfl) (by kernel_rfl) (fun _ _ _ h => h) (Or.inr ⟨by kernel_rfl, rfl⟩) ?_
        refine wpAny_take (i := 25) (v := undef) rfl (by kernel_rfl) (by kernel_rfl) (by kernel_rfl) (fun _ _ _ h => h) (Or.inr ⟨by kernel_rfl, rfl⟩) ?_
        refine wpAny_take (i := 26) (v := undef) rfl (by kernel_rfl) (by kernel_rfl) (by kernel_rfl) (fun _ _ _ h => h) (Or.inr ⟨by kernel_rfl, rfl⟩) ?_
        refine wpAny_take (i := 27) (v := undef) rfl (by kernel_rfl) (by kernel_rfl) (by kernel_rfl) (fun _ _ _ h => h) (Or.inr ⟨by kernel_rfl, rfl⟩) ?_
        refine wpAny_take (i := 28) (v := undef) rfl (by kernel_rfl) (by kernel_rfl) (by kernel_rfl) (fun _ _ _ h => h) (Or.inr ⟨by kernel_rfl, rfl⟩) ?_
        refine wpAny_take (i := 29) (v := undef) rfl (by kernel_rfl) (by kernel_rfl) (by kernel_rfl) (fun _ _ _ h => h) (Or.inr ⟨by kernel_rfl, rfl⟩) ?_
        refine wpAny_take (i := 30) (v := ?_) rfl (by kernel_rfl) (by kernel_rfl) (by kernel_rfl) (fun _ _ _ h => h) (Or.inl ⟨by kernel_rfl, ?_⟩) ?_
        rotate_left
        · intro w; go_simp; try with_reducible rfl
        refine wpAny_done (by kernel_rfl) ?_ _
        try simp only [Act.put, List.setIfInBounds_toArray, List.set_cons_zero, List.set_cons_succ, List.getElem_toArray, List.getElem_cons_zero, List.getElem_cons_succ]
        go_wp2_with fail
        go_ret
        exact ⟨by rw [HR.out]; rfl, N5⟩
      have q6 : ¬ (gn : Int) = 0 := by omega
      have q7 : ((gn : Int) == 0) = false := by rw [beq_eq_false_iff_ne]; exact q6
      cases q8 : graphOk g
      · have HR : Hid (dataOk ts = false) := Lib.hid (by rw [HG.out]; exact gUpto_no (gAt_not ht (by unfold namT; rw [q8, Bool.false_and, Bool.and_false])) (by have := HT.out; omega))
        rw [q8] at A2
        have C2 := Lib.hid A2
        clear A2 ht q1 q8
        go_wp2_with fail
        obtain ⟨x10, x11⟩ := T0.drew.cells
        have T1 := T0.drew
        refine wp_region_any (by kernel_rfl) ?_
        change wpAny _ _ _ _ _ _ _ (World.drew _)
        refine wpAny_take (i := 0) (v := ?_) rfl (by kernel_rfl) (by kernel_rfl) (by kernel_rfl) (fun _ _ _ h => h) (Or.inl ⟨by kernel_rfl, ?_⟩) ?_
        rotate_left
        · intro w; go_simp; try with_reducible rfl
        refine wpAny_ready (rs := [1]) (by kernel_rfl) (by simp) ?_
        refine AllReady.cons rfl (fun K hK => ?_) AllReady.nil
        go_simp
        refine hK _ _ ?_
        clear hK K
        refine wpAny_ready (rs := [2]) (by kernel_rfl) (by simp) ?_
        refine AllReady.cons rfl (fun K hK => ?_) AllReady.nil
        go_simp
        refine (C1.out _).mono ?_
        rintro e w5 ⟨rfl, hb5⟩
        have B5 := (BW.drew).trans (hb5.mono BW.size)
        have N5 := hnx2.trans (hb5.mono hnx2.size)
        have T2 := T1.next hb5
        obtain ⟨x20, x21⟩ := T2.cells
        go_wp2_with fail
        refine wpAny_take (i := 3) (v := ?_) rfl (by kernel_rfl) (by kernel_rfl) (by kernel_rfl) (fun _ _ _ h => h) (Or.inl ⟨by kernel_rfl, ?_⟩) ?_
        rotate_left
        · intro w; go_simp; try with_reducible rfl
        refine wpAny_take (i := 4) (v := ?_) rfl (by kernel_rfl) (by kernel_rfl) (by kernel_rfl) (fun _ _ _ h => h) (Or.inl ⟨by kernel_rfl, ?_⟩) ?_
        rotate_left
        · intro w; go_simp; try with_reducible rfl
        refine wpAny_take (i := 5) (v := ?_) rfl (by kernel_rfl) (by kernel_rfl) (by kernel_rfl) (fun _ _ _ h => h) (Or.inl ⟨by kernel_rfl, ?_⟩) ?_
        rotate_left
        · intro w; go_simp; try with_reducible rfl
        refine wpAny_ready (rs := [6]) (by kernel_rfl) (by simp) ?_
        refine AllReady.cons rfl (fun K hK => ?_) AllReady.nil
        go_simp
        refine hK _ _ ?_
        clear hK K
        refine wpAny_take (i := 7) (v := ?_) rfl (by kernel_rfl) (by kernel_rfl) (by kernel_rfl) (fun _ _ _ h => h) (Or.inl ⟨by kernel_rfl, ?_⟩) ?_
        rotate_left
        · intro w; go_simp; try with_reducible rfl
        refine wpAny_take (i := 8) (v := ?_) rfl (by kernel_rfl) (by kernel_rfl) (by kernel_rfl) (fun _ _ _ h => h) (Or.inl ⟨by kernel_rfl, ?_⟩) ?_
        rotate_left
        · intro w; go_simp; try with_reducible rfl
        refine wpAny_take (i := 9) (v := ?_) rfl (by kernel_rfl) (by kernel_rfl) (by kernel_rfl) (fun _ _ _ h => h) (Or.inl ⟨by kernel_rfl, ?_⟩) ?_
        rotate_left
        · intro w; go_simp; try with_reducible rfl
        refine wpAny_take (i := 10) (v := ?_) rfl (by kernel_rfl) (by kernel_rfl) (by kernel_rfl) (fun _ _ _ h => h) (Or.inl ⟨by kernel_rfl, ?_⟩) ?_
        rotate_left
        · intro w; go_simp; try with_reducible rfl
        refine wpAny_take (i := 11) (v := ?_) rfl (by kernel_rfl) (by kernel_rfl) (by kernel_rfl) (fun _ _ _ h => h) (Or.inl ⟨by kernel_rfl, ?_⟩) ?_
        rotate_left
        · intro w; go_simp; try with_reducible rfl
        refine wpAny_ready (rs := [12]) (by kernel_rfl) (by simp) ?_
        refine AllReady.cons rfl (fun K hK => ?_) AllReady.nil
        go_simp
        refine hK _ _ ?_
        clear hK K
        refine wpAny_ready (rs := [13]) (by kernel_rfl) (by simp) ?_
        refine AllReady.cons rfl (fun K hK => ?_) AllReady.nil
        go_simp
        refine (C2.out _ B5).mono ?_
        rintro e w6 ⟨rfl, hb6⟩
        have N6 := N5.trans (hb6.mono N5.size)
        have T3 := T2.next hb6
        obtain ⟨x30, x31⟩ := T3.cells
        go_wp2_with fail
        refine wpAny_take (i := 14) (v := ?_) rfl (by kernel_rfl) (by kernel_rfl) (by kernel_rfl) (fun _ _ _ h => h) (Or.inl ⟨by kernel_rfl, ?_⟩) ?_
        rotate_left
        · intro w; go_simp; try with_reducible rfl
        refine wpAny_take (i := 15) (v := ?_) rfl (by kernel_rfl) (by kernel_rfl) (by kernel_rfl) (fun _ _ _ h => h) (Or.inl ⟨by kernel_rfl, ?_⟩) ?_
        rotate_left
        · intro w; go_simp; try with_reducible rfl
        refine wpAny_take (i := 16) (v := ?_) rfl (by kernel_rfl) (by kernel_rfl) (by kernel_rfl) (fun _ _ _ h => h) (Or.inl ⟨by kernel_rfl, ?_⟩) ?_
        rotate_left
        · intro w; go_simp; try with_reducible rfl
        refine wpAny_take (i := 17) (v := undef) rfl (by kernel_rfl) (by kernel_rfl) (by kernel_rfl) (fun _ _ _ h => h) (Or.inr ⟨by kernel_rfl, rfl⟩) ?_
        refine wpAny_take (i := 18) (v := undef) rfl (by kernel_rfl) (by kernel_rfl) (by kernel_rfl) (fun _ _ _ h => h) (Or.inr ⟨by kernel_rfl, rfl⟩) ?_
        refine wpAny_take (i := 19) (v := undef) rfl (by kernel_rfl) (by kernel_rfl) (by kernel_rfl) (fun _ _ _ h => h) (Or.inr ⟨by kernel_rfl, rfl⟩) ?_
        refine wpAny_take (i := 20) (v := undef) rfl (by kernel_rfl) (by kernel_rfl) (by kernel_rfl) (fun _ _ _ h => h) (Or.inr ⟨by kernel_rfl, rfl⟩) ?_
        refine wpAny_take (i := 21) (v := undef) rfl (by kernel_rfl) (by kernel_rfl) (by kernel_rfl) (fun _ _ _ h => h) (Or.inr ⟨by kernel_rfl, rfl⟩) ?_
        refine wpAny_take (i := 22) (v := undef) rfl (by kernel_rfl) (by kernel_rfl) (by kernel_rfl) (fun _ _ _ h => h) (Or.inr ⟨by kernel_rfl, rfl⟩) ?_
        refine wpAny_take (i := 23) (v := undef) rfl (by kernel_rfl) (by kernel_rfl) (by kernel_rfl) (fun _ _ _ h => h) (Or.inr ⟨by kernel_rfl, rfl⟩) ?_
        refine wpAny_take (i := 24) (v := undef) rfl (by kernel_rfl) (by kernel_rfl) (by kernel_rfl) (fun _ _ _ h => h) (Or.inr ⟨by kernel_rfl, rfl⟩) ?_
        refine wpAny_take (i := 25) (v := undef) rfl (by kernel_rfl) (by kernel_rfl) (by kernel_rfl) (fun _ _ _ h => h) (Or.inr ⟨by kernel_rfl, rfl⟩) ?_
        refine wpAny_take (i := 26) (v := undef) rfl (by kernel_rfl) (by kernel_rfl) (by kernel_rfl) (fun _ _ _ h => h) (Or.inr ⟨by kernel_rfl, rfl⟩) ?_
        refine wpAny_take (i := 27) (v := undef) rfl (by kernel_rfl) (by kernel_rfl) (by kernel_rfl) (fun _ _ _ h => h) (Or.inr ⟨by kernel_rfl, rfl⟩) ?_
        refine wpAny_take (i := 28) (v := undef) rfl (by kernel_rfl) (by kernel_rfl) (by kernel_rfl) (fun _ _ _ h => h) (Or.inr ⟨by kernel_rfl, rfl⟩) ?_
        refine wpAny_take (i := 29) (v := undef) rfl (by kernel_rfl) (by kernel_rfl) (by kernel_rfl) (fun _ _ _ h => h) (Or.inr ⟨by kernel_rfl, rfl⟩) ?_
        refine wpAny_take (i := 30) (v := ?_) rfl (by kernel_rfl) (by kernel_rfl) (by kernel_rfl) (fun _ _ _ h => h) (Or.inl ⟨by kernel_rfl, ?_⟩) ?_
        rotate_left
        · intro w; go_simp; try with_reducible rfl
        refine wpAny_done (by kernel_rfl) ?_ _
        try simp only [Act.put, List.setIfInBounds_toArray, List.set_cons_zero, List.set_cons_succ, List.getElem_toArray, List.getElem_cons_zero, List.getElem_cons_succ]
        go_wp2_with fail
        go_ret
        exact ⟨by rw [HR.out]; rfl, N6⟩
      rw [q8] at A2
      have C2 := Lib.hid A2
      clear A2
      have hq : Hid (namT (s, g) = true) := Lib.hid (by unfold namT; rw [q8, decide_eq_true q1, decide_eq_true (p := 0 < g.length) (by have := HZL.out; omega)]; rfl)
      rcases k with _ | j
      · have HN : Hid (gUpto namT lessN ts (0 + 1) = true) := Lib.hid (by rw [gUpto_succ, hok.out, gAt_zero ht, hq.out]; rfl)
        clear ht q1 q5 q8
        simp only [Nat.zero_mul, Nat.add_zero] at c0 c1
        go_wp2_with fail
        obtain ⟨x10, x11⟩ := T0.drew.cells
        have T1 := T0.drew
        refine wp_region_any (by kernel_rfl) ?_
        change wpAny _ _ _ _ _ _ _ (World.drew _)
        refine wpAny_take (i := 0) (v := ?_) rfl (by kernel_rfl) (by kernel_rfl) (by kernel_rfl) (fun _ _ _ h => h) (Or.inl ⟨by kernel_rfl, ?_⟩) ?_
        rotate_left
        · intro w; go_simp; try with_reducible rfl
        refine wpAny_ready (rs := [1]) (by kernel_rfl) (by simp) ?_
        refine AllReady.cons rfl (fun K hK => ?_) AllReady.nil
        go_simp
        refine hK _ _ ?_
        clear hK K
        refine wpAny_ready (rs := [2]) (by kernel_rfl) (by simp) ?_
        refine AllReady.cons rfl (fun K hK => ?_) AllReady.nil
        go_simp
        refine (C1.out _).mono ?_
        rintro e w5 ⟨rfl, hb5⟩
        have B5 := (BW.drew).trans (hb5.mono BW.size)
        have N5 := hnx2.trans (hb5.mono hnx2.size)
        have T2 := T1.next hb5
        obtain ⟨x20, x21⟩ := T2.cells
        go_wp2_with fail
        refine wpAny_take (i := 3) (v := ?_) rfl (by kernel_rfl) (by kernel_rfl) (by kernel_rfl) (fun _ _ _ h => h) (Or.inl ⟨by kernel_rfl, ?_⟩) ?_
        rotate_left
        · intro w; go_simp; try with_reducible rfl
        refine wpAny_take (i := 4) (v := ?_) rfl (by kernel_rfl) (by kernel_rfl) (by kernel_rfl) (fun _ _ _ h => h) (Or.inl ⟨by kernel_rfl, ?_⟩) ?_
        rotate_left
        · intro w; go_simp; try with_reducible rfl
        refine wpAny_take (i := 5) (v := ?_) rfl (by kernel_rfl) (by kernel_rfl) (by kernel_rfl) (fun _ _ _ h => h) (Or.inl ⟨by kernel_rfl, ?_⟩) ?_
        rotate_left
        · intro w; go_simp; try with_reducible rfl
        refine wpAny_ready (rs := [6]) (by kernel_rfl) (by simp) ?_
        refine AllReady.cons rfl (fun K hK => ?_) AllReady.nil
        go_simp
        refine hK _ _ ?_
        clear hK K
        refine wpAny_take (i := 7) (v := ?_) rfl (by kernel_rfl) (by kernel_rfl) (by kernel_rfl) (fun _ _ _ h => h) (Or.inl ⟨by kernel_rfl, ?_⟩) ?_
        rotate_left
        · intro w; go_simp; try with_reducible rfl
        refine wpAny_take (i := 8) (v := ?_) rfl (by kernel_rfl) (by kernel_rfl) (by kernel_rfl) (fun _ _ _ h => h) (Or.inl ⟨by kernel_rfl, ?_⟩) ?_
        rotate_left
        · intro w; go_simp; try with_reducible rfl
        refine wpAny_take (i := 9) (v := ?_) rfl (by kernel_rfl) (by kernel_rfl) (by kernel_rfl) (fun _ _ _ h => h) (Or.inl ⟨by kernel_rfl, ?_⟩) ?_
        rotate_left
        · intro w; go_simp; try with_reducible rfl
        refine wpAny_take (i := 10) (v := ?_) rfl (by kernel_rfl) (by kernel_rfl) (by kernel_rfl) (fun _ _ _ h => h) (Or.inl ⟨by kernel_rfl, ?_⟩) ?_
        rotate_left
        · intro w; go_simp; try with_reducible rfl
        refine wpAny_take (i := 11) (v := ?_) rfl (by kernel_rfl) (by kernel_rfl) (by kernel_rfl) (fun _ _ _ h => h) (Or.inl ⟨by kernel_rfl, ?_⟩) ?_
        rotate_left
        · intro w; go_simp; try with_reducible rfl
        refine wpAny_ready (rs := [12]) (by kernel_rfl) (by simp) ?_
        refine AllReady.cons rfl (fun K hK => ?_) AllReady.nil
        go_simp
        refine hK _ _ ?_
        clear hK K
        refine wpAny_ready (rs := [13]) (by kernel_rfl) (by simp) ?_
        refine AllReady.cons rfl (fun K hK => ?_) AllReady.nil
        go_simp
        refine (C2.out _ B5).mono ?_
        rintro e w6 ⟨rfl, hb6⟩
        have N6 := N5.trans (hb6.mono N5.size)
        have T3 := T2.next hb6
        obtain ⟨x30, x31⟩ := T3.cells
        go_wp2_with fail
        refine wpAny_take (i := 14) (v := ?_) rfl (by kernel_rfl) (by kernel_rfl) (by kernel_rfl) (fun _ _ _ h => h) (Or.inl ⟨by kernel_rfl, ?_⟩) ?_
        rotate_left
        · intro w; go_simp; try with_reducible rfl
        refine wpAny_take (i := 15) (v := ?_) rfl (by kernel_rfl) (by kernel_rfl) (by kernel_rfl) (fun _ _ _ h => h) (Or.inl ⟨by kernel_rfl, ?_⟩) ?_
        rotate_left
        · intro w; go_simp; try with_reducible rfl
        refine wpAny_take (i := 16) (v := ?_) rfl (by kernel_rfl) (by kernel_rfl) (by kernel_rfl) (fun _ _ _ h => h) (Or.inl ⟨by kernel_rfl, ?_⟩) ?_
        rotate_left
        · intro w; go_simp; try with_reducible rfl
        refine wpAny_take (i := 17) (v := ?_) rfl (by kernel_rfl) (by kernel_rfl) (by kernel_rfl) (fun _ _ _ h => h) (Or.inl ⟨by kernel_rfl, ?_⟩) ?_
        rotate_left
        · intro w; go_simp; try with_reducible rfl
        refine wpAny_take (i := 18) (v := ?_) rfl (by kernel_rfl) (by kernel_rfl) (by kernel_rfl) (fun _ _ _ h => h) (Or.inl ⟨by kernel_rfl, ?_⟩) ?_
        rotate_left
        · intro w; go_simp; try with_reducible rfl
        refine wpAny_take (i := 19) (v := ?_) rfl (by kernel_rfl) (by kernel_rfl) (by kernel_rfl) (fun _ _ _ h => h) (Or.inl ⟨by kernel_rfl, ?_⟩) ?_
        rotate_left
        · intro w; go_simp; try with_reducible rfl
        refine wpAny_take (i := 20) (v := undef) rfl (by kernel_rfl) (by kernel_rfl) (by kernel_rfl) (fun _ _ _ h => h) (Or.inr ⟨by kernel_rfl, rfl⟩) ?_
        refine wpAny_take (i := 21) (v := undef) rfl (by kernel_rfl) (by kernel_rfl) (by kernel_rfl) (fun _ _ _ h => h) (Or.inr ⟨by kernel_rfl, rfl⟩) ?_
        refine wpAny_take (i := 22) (v := undef) rfl (by kernel_rfl) (by kernel_rfl) (by kernel_rfl) (fun _ _ _ h => h) (Or.inr ⟨by kernel_rfl, rfl⟩) ?_
        refine wpAny_take (i := 23) (v := undef) rfl (by kernel_rfl) (by kernel_rfl) (by kernel_rfl) (fun _ _ _ h => h) (Or.inr ⟨by kernel_rfl, rfl⟩) ?_
        refine wpAny_take (i := 24) (v := undef) rfl (by kernel_rfl) (by kernel_rfl) (by kernel_rfl) (fun _ _ _ h => h) (Or.inr ⟨by kernel_rfl, rfl⟩) ?_
        refine wpAny_take (i := 25) (v := undef) rfl (by kernel_rfl) (by kernel_rfl) (by kernel_rfl) (fun _ _ _ h => h) (Or.inr ⟨by kernel_rfl, rfl⟩) ?_
        refine wpAny_take (i := 26) (v := undef) rfl (by kernel_rfl) (by kernel_rfl) (by kernel_rfl) (fun _ _ _ h => h) (Or.inr ⟨by kernel_rfl, rfl⟩) ?_
        refine wpAny_take (i := 27) (v := undef) rfl (by kernel_rfl) (by kernel_rfl) (by kernel_rfl) (fun _ _ _ h => h) (Or.inr ⟨by kernel_rfl, rfl⟩) ?_
        refine wpAny_take (i := 28) (v := undef) rfl (by kernel_rfl) (by kernel_rfl) (by kernel_rfl) (fun _ _ _ h => h) (Or.inr ⟨by kernel_rfl, rfl⟩) ?_
        refine wpAny_take (i := 29) (v := ?_) rfl (by kernel_rfl) (by kernel_rfl) (by kernel_rfl) (fun _ _ _ h => h) (Or.inl ⟨by kernel_rfl, ?_⟩) ?_
        rotate_left
        · intro w; go_simp; try with_reducible rfl
        refine wpAny_take (i := 30) (v := ?_) rfl (by kernel_rfl) (by kernel_rfl) (by kernel_rfl) (fun _ _ _ h => h) (Or.inl ⟨by kernel_rfl, ?_⟩) ?_
        rotate_left
        · intro w; go_simp; try with_reducible rfl
        refine wpAny_done (by kernel_rfl) ?_ _
        try simp only [Act.put, List.setIfInBounds_toArray, List.set_cons_zero, List.set_cons_succ, List.getElem_toArray, List.getElem_cons_zero, List.getElem_cons_succ]
        go_wp2_with fail
        go_roundw
        case rel => exact ⟨0 + 1, by omega, by go_num, HN, N6⟩
        case measure => simp [intOf]; omega
      · have hu : ts[j]? = some (ts[j]'(by have := HT.out; omega)) := List.getElem?_eq_getElem _
        have HA := gAt_next (ok := namT) (ah := lessN) (by omega) ht hu
        obtain ⟨pa, pn, pc, p0, p1⟩ := HC.out j _ hu
        generalize ts[j]'(by have := HT.out; omega) = u at hu HA p0 p1
        obtain ⟨r, g'⟩ := u
        simp only at p0 p1
        rw [hq.out] at HA
        cases ha : lessN (r, g') (s, g)
        · have HR2 : gAt namT lessN ts (j + 1) = false := by rw [HA, ha]; rfl
          have HR : Hid (dataOk ts = false) := Lib.hid (by rw [HG.out]; exact gUpto_no (HR2) (by have := HT.out; omega))
          have hl : Op.bytesLess r.toList s.toList = false := ha
          clear ht hu HA ha HR2 q1 q5 q8
          go_wp2_with fail
          obtain ⟨x10, x11⟩ := T0.cells
          have hj1 : ((j + 1 : Nat) : Int) - 1 = (j : Int) := by omega
          have hj2 : IntKind.i64.wrap (((j + 1 : Nat) : Int) - 1) = (j : Int) := by rw [hj1]; exact IntWalk.i64_in _ (by omega)
          have hjl : j < len := by omega
          have hj6 : (0 : Int) ≤ (j : Int) := by omega
          have hj7 : (j : Int) < (len : Int) := by omega
          have hj8 : IntKind.i64.wrap (j : Int) = (j : Int) := IntWalk.i64_in _ (by omega)
          have hj4 : (j : Int) + 1 - 1 = (j : Int) := by omega
          have hj5 : IntKind.i64.wrap ((j : Int) + 1 - 1) = (j : Int) := by rw [hj4]; exact IntWalk.i64_in _ (by omega)
          have hj3 : decide ((0 : Int) < ((j + 1 : Nat) : Int)) = true := by rw [decide_eq_true_eq]; omega
          go_region_held3 (fun w' => w'.cell? ⟨wr.heap.size, 0, none⟩ = some (.string s) ∧ w'.cell? ⟨wr.heap.size, 1, none⟩ = some (.slice ga gn gc) ∧ w'.cell? ⟨b, off + j * 2, none⟩ = some (.string r))
            (first | go_keep | (go_split_ands; refine ⟨?_, ?_, ?_⟩ <;> assumption) | (go_split_ands; refine ⟨?_, ?_, ?_⟩ <;> (rw [hb5.cell (by first | (simp; done) | exact World.block_lt_of_cell? _ _ (by assumption))]; assumption)) | (go_split_ands; refine ⟨?_, ?_, ?_⟩ <;> (rw [hb6.cell (by first | (simp; done) | exact World.block_lt_of_cell? _ _ (by assumption))]; assumption)))
            (first
              | (go_at_call 36; refine (C1.out _).mono ?_; rintro e w5 ⟨rfl, hb5⟩; have B5 := (BW.drew).trans (hb5.mono BW.size); have N5 := hnx2.trans (hb5.mono hnx2.size))
              | (go_at_call 43; refine (C2.out _ B5).mono ?_; rintro e w6 ⟨rfl, hb6⟩; have N6 := N5.trans (hb6.mono N5.size)))
          go_wp2_with fail
          go_ret
          exact ⟨by rw [HR.out]; rfl, N6⟩
        · have HN : Hid (gUpto namT lessN ts (j + 1 + 1) = true) := Lib.hid (by rw [gUpto_succ, hok.out, HA, ha]; rfl)
          have hl : Op.bytesLess r.toList s.toList = true := ha
          clear ht hu HA ha q1 q5 q8
          go_wp2_with fail
          obtain ⟨x10, x11⟩ := T0.cells
          have hj1 : ((j + 1 : Nat) : Int) - 1 = (j : Int) := by omega
          have hj2 : IntKind.i64.wrap (((j + 1 : Nat) : Int) - 1) = (j : Int) := by rw [hj1]; exact IntWalk.i64_in _ (by omega)
          have hjl : j < len := by omega
          have hj6 : (0 : Int) ≤ (j : Int) := by omega
          have hj7 : (j : Int) < (len : Int) := by omega
          have hj8 : IntKind.i64.wrap (j : Int) = (j : Int) := IntWalk.i64_in _ (by omega)
          have hj4 : (j : Int) + 1 - 1 = (j : Int) := by omega
          have hj5 : IntKind.i64.wrap ((j : Int) + 1 - 1) = (j : Int) := by rw [hj4]; exact IntWalk.i64_in _ (by omega)
          have hj3 : decide ((0 : Int) < ((j + 1 : Nat) : Int)) = true := by rw [decide_eq_true_eq]; omega
          go_region_held3 (fun w' => w'.cell? ⟨wr.heap.size, 0, none⟩ = some (.string s) ∧ w'.cell? ⟨wr.heap.size, 1, none⟩ = some (.slice ga gn gc) ∧ w'.cell? ⟨b, off + j * 2, none⟩ = some (.string r))
            (first | go_keep | (go_split_ands; refine ⟨?_, ?_, ?_⟩ <;> assumption) | (go_split_ands; refine ⟨?_, ?_, ?_⟩ <;> (rw [hb5.cell (by first | (simp; done) | exact World.block_lt_of_cell? _ _ (by assumption))]; assumption)) | (go_split_ands; refine ⟨?_, ?_, ?_⟩ <;> (rw [hb6.cell (by first | (simp; done) | exact World.block_lt_of_cell? _ _ (by assumption))]; assumption)))
            (first
              | (go_at_call 36; refine (C1.out _).mono ?_; rintro e w5 ⟨rfl, hb5⟩; have B5 := (BW.drew).trans (hb5.mono BW.size); have N5 := hnx2.trans (hb5.mono hnx2.size))
              | (go_at_call 43; refine (C2.out _ B5).mono ?_; rintro e w6 ⟨rfl, hb6⟩; have N6 := N5.trans (hb6.mono N5.size)))
          go_wp2_with fail
          go_roundw
          case rel => exact ⟨j + 1 + 1, by omega, by go_num, HN, N6⟩
          case measure => simp [intOf]; omega
    · obtain rfl : k = len := by omega
      have hall : Hid (gUpto namT lessN ts ts.length = true) := Lib.hid (by have := hok.out; rwa [← HT.out] at this)
      go_wp2_with fail
      go_ret
      exact ⟨by rw [HG.out, hall.out]; rfl, hnx⟩
end Go.Proofs.YtnjphlaohihbaaaGreat
