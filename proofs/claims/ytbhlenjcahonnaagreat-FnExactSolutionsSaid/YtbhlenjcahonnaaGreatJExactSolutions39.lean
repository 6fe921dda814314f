/- A range over an iterator that tells of each row where it lies. -/
import Derived.Test.YtbhlenjcahonnaaGreatJExactSolutions38
import Derived.RangeFuncFrom
import Derived.RangeFuncNested
import Derived.Test.YtbhlenjcahonnaaGreatJExactSolutions28
namespace Go.Proofs.YtbhlenjcahonnaaGreat
open Go.RowKit Go.WideShapes Go.Maps Go.Sort Go.Shelf
theorem ownI_next {β : Type} {B : Nat} {I : β → World → Prop} (hI : OwnFrom B I) {s : β} {A C : World} (h : I s A) (hb : RowKit.Below A.heap.size A C) : I s C := hI s A C none h (grown_of_below hb) (fun r e => by cases e)
set_option maxHeartbeats 1000000 in
theorem rangeTold {g : Operand} {ps : Array Tmp} {assign body : Code} {Q : Exit → Act → World → Prop} {a : Act} {w : World} {n : Nat} (h1 : 1 ≤ n) {gf : Nat} {lb : Array Value} (hg : a.eval g = .func (.func gf) #[] lb)
    (eg : ∀ args w, (callFunc gf args).run Tryz.prog w = .ok (.enter gf args) w) (hps : ps.size = 1) (Kp : World → World → Prop) (full : List RowV) (I Ix : List RowV → World → Prop) (a₁ : Value → Act)
    (hrun : ∀ (l : Nat) (J Jx : List RowV → World → Prop) (W : World), RowKit.Below w.heap.size w W → (∀ s A B, J s A → RowKit.Below A.heap.size A B → J s B) →
      (∀ pre u r A, J pre A → RowT A u r → YieldAt Fence.wide (n - 1 - 1) Tryz.prog l #[u] A fun e B => (e = .returned (.bool true) ∧ J (pre ++ [r]) B ∧ Kp A B) ∨ (e = .returned (.bool false) ∧ Jx (pre ++ [r]) B)) → J [] W →
      CallsIn Fence.wide (n - 1) Tryz.prog gf (#[.func (.yield l) #[] #[]] ++ lb) W fun e W' => (∃ v, e = .returned v) ∧ (J full W' ∨ ∃ pre m, full = pre ++ m ∧ Jx pre W'))
    (hKt : ∀ {A B C : World}, Kp A B → Kp B C → Kp A C) (hKo : ∀ (W : World) (l : Nat) (o o' : Obj), w.heap.size ≤ l → W.heap[l]? = some o → o.isCells = false → Kp W (W.putObj l o'))
    (hI : OwnFrom w.heap.size I) (hIx : OwnFrom w.heap.size Ix) (h0 : I [] w)
    (hassign : ∀ (l : Nat) (u : Value) (W : World) (K : Act → World → Prop), K (a₁ u) W → assign.wpIn (Fence.wide.inRound l) (n - 1 - 1) Tryz.prog (Exit.then K (fun _ _ _ => False)) { tmps := (ps.zip #[u]).foldl (fun t (p, v) => t.setIfInBounds p v) a.tmps, defers := [] } W)
    (hbody : ∀ (l : Nat) (pre : List RowV) (u : Value) (r : RowV) (W : World), I pre W → RowT W u r → body.wpIn (Fence.wide.inRound l) (n - 1 - 1) Tryz.prog (ownPostK Kp I (fun c s W => c = .ret ∧ Ix s W) (pre ++ [r]) W) (a₁ u) W)
    (hdone : ∀ (D : Nat) (W : World), w.heap.size ≤ D → I full W → W.heap[D]? = some (.deferred (some [])) → Q .normal { a with defers := { target := .collected D, args := #[] } :: a.defers } W)
    (hstop : ∀ (D : Nat) (pre m : List RowV) (W : World), w.heap.size ≤ D → full = pre ++ m → Ix pre W → W.heap[D]? = some (.deferred (some [])) → Code.wpIn Fence.wide n Tryz.prog .ret Q { a with defers := { target := .collected D, args := #[] } :: a.defers } W) :
    (Code.rangeFunc g ps assign body).wpIn Fence.wide n Tryz.prog Q a w := by
  refine wpIn_rangeFunc ?_
  intro fn hfn
  rw [show Fence.wide.round = none from rfl]
  let rec' : LoopState → Option Code → Loop := fun st pe => { state := st, pending := pe, fn, tmps := a.tmps, params := ps, assign, body, defers := w.heap.size }
  obtain ⟨lrec, hlr⟩ : ∃ lrec : LoopState → Option Code → Loop, lrec = rec' := ⟨_, rfl⟩
  obtain ⟨V, hV⟩ : ∃ V, (w.alloc (.deferred (some []))).alloc (.loop (lrec .ready none)) = V := ⟨_, rfl⟩
  have kL : V.heap[w.heap.size + 1]? = some (.loop (lrec .ready none)) := by
    rw [← hV]
    have q := World.alloc_heap_new (w.alloc (.deferred (some []))) (.loop (lrec .ready none))
    rwa [World.size_alloc] at q
  have kD : V.heap[w.heap.size]? = some (.deferred (some [])) := by
    rw [← hV]
    exact (Below.heap_alloc _ _ _ (by simp)).trans (World.alloc_heap_new w _)
  have kI : I [] V := by
    rw [← hV]
    exact hI.alloc _ (hI.alloc _ h0)
  have kB : RowKit.Below w.heap.size w V := by
    rw [← hV]
    exact ((Below.refl _ w).alloc (Nat.le_refl _) _).alloc (by simp) _
  refine ⟨w.heap.size + 1, [{ target := .collected w.heap.size, args := #[] }], V, { target := .fn (.func gf) lb, args := #[.func (.yield (w.heap.size + 1)) #[] #[]] }, V, gf, #[.func (.yield (w.heap.size + 1)) #[] #[]] ++ lb, V, ?_, ?_, ?_, ?_, fun _ => h1, ?_⟩
  · rw [← hV, hlr]
    exact run_enterLoop_outer _ _ _ _ _
  · simp only [resolve, hg]
    simp [go_sem]
  · intro f' hf'
    trivial
  · simp [invoke, go_sem, eg]
  have bookP : ∀ {s : List RowV} {A : World} {K : List RowV → World → Prop} (hK : OwnFrom w.heap.size K) (o : Obj) (o' : Obj), K s A → A.heap[w.heap.size + 1]? = some o → o.isCells = false → K s (A.putObj (w.heap.size + 1) o') := fun hK o o' h hl ho => hK.putObj _ h (by omega) hl ho
  refine (hrun (w.heap.size + 1) (fun s A => I s A ∧ A.heap[w.heap.size + 1]? = some (.loop (lrec .ready none)) ∧ A.heap[w.heap.size]? = some (.deferred (some [])))
    (fun s A => Ix s A ∧ A.heap[w.heap.size + 1]? = some (.loop (lrec .done (some .ret))) ∧ A.heap[w.heap.size]? = some (.deferred (some []))) V kB
    (fun s A B h hb => ⟨ownI_next hI h.1 hb, (hb.block _ (Array.getElem?_eq_some_iff.1 h.2.1).1).trans h.2.1, (hb.block _ (Array.getElem?_eq_some_iff.1 h.2.2).1).trans h.2.2⟩) ?_ ⟨kI, kL, kD⟩).mono ?_
  · intro pre u r A hJ hT
    obtain ⟨hi, hl, hd⟩ := hJ
    have hlt := (Array.getElem?_eq_some_iff.1 hl).1
    have hy := run_yield (P := Tryz.prog) (args := #[u]) hl (by rw [hlr]; exact hps.symm)
    rw [hlr] at hy
    refine ⟨fn, _, assign, body, hy, roundIn_of_wpIn hfn (hassign _ u A _ ⟨_, run_beginRound hl (by rw [hlr]), ?_⟩)⟩
    obtain ⟨A2, hA2⟩ : ∃ A2, A.putObj (w.heap.size + 1) (.loop { lrec .ready none with state := .busy }) = A2 := ⟨_, rfl⟩
    have l2 : A2.heap[w.heap.size + 1]? = some (.loop { lrec .ready none with state := .busy }) := by rw [← hA2]; exact World.putObj_heap_same hlt
    have d2 : A2.heap[w.heap.size]? = some (.deferred (some [])) := by rw [← hA2]; exact (World.putObj_heap_other (by omega)).trans hd
    have p2 : Kp A A2 := by rw [← hA2]; exact hKo _ _ _ _ (by omega) hl rfl
    have i2 : I pre A2 := by rw [← hA2]; exact bookP hI _ _ hi hl rfl
    have t2 : RowT A2 u r := by rw [← hA2]; exact hT.same (fun k cur hk => World.putObj_heap_other (fun e => by rw [e, hl] at hk; cases hk))
    rw [hA2]
    refine wpIn_mono (hbody _ pre u r A2 i2 t2) ?_
    have close : ∀ (jump : Option Code) (C : World), KeepsOthers A2 C → (Instr.endRound (w.heap.size + 1) jump).run Tryz.prog C = .ok (.bool jump.isNone) (C.putObj (w.heap.size + 1) (.loop (lrec (if jump.isNone then .ready else .done) jump))) ∧ C.heap[w.heap.size + 1]? = some (.loop { lrec .ready none with state := .busy }) ∧
        (C.putObj (w.heap.size + 1) (.loop (lrec (if jump.isNone then .ready else .done) jump))).heap[w.heap.size + 1]? = some (.loop (lrec (if jump.isNone then .ready else .done) jump)) ∧ (C.putObj (w.heap.size + 1) (.loop (lrec (if jump.isNone then .ready else .done) jump))).heap[w.heap.size]? = some (.deferred (some [])) := fun jump C hk => by
      have l3 := hk.same _ _ l2 rfl
      refine ⟨?_, l3, World.putObj_heap_same (Array.getElem?_eq_some_iff.1 l3).1, (World.putObj_heap_other (by omega)).trans (hk.same _ _ d2 rfl)⟩
      have q := run_endRound (P := Tryz.prog) jump l3
      rw [hlr] at q ⊢
      exact q
    rintro e b C hp
    cases e with
    | normal =>
      obtain ⟨hk, hkp, hi3⟩ := hp
      obtain ⟨q1, q2, q3, q4⟩ := close none C hk
      exact ⟨_, _, q1, .inl ⟨rfl, ⟨bookP hI _ _ hi3 q2 rfl, q3, q4⟩, hKt (hKt p2 hkp) (hKo _ _ _ _ (by omega) q2 rfl)⟩⟩
    | ret =>
      obtain ⟨hk, _, hi3⟩ := hp
      obtain ⟨q1, q2, q3, q4⟩ := close (some .ret) C hk
      exact ⟨_, _, q1, .inr ⟨rfl, bookP hIx _ _ hi3 q2 rfl, q3, q4⟩⟩
    | exit id => exact absurd hp.2.1 (by simp)
    | goto t => exact absurd hp.2.1 (by simp)
    | panic ch => exact hp.elim
    | outgrown => exact hp.elim
  · rintro e W2 ⟨⟨v, rfl⟩, (⟨hi, hl, hd⟩ | ⟨pre, m, hf, hi, hl, hd⟩)⟩
    · refine ⟨none, _, by have q := run_endLoop (P := Tryz.prog) hl (by rw [hlr]; simp [rec']); rw [hlr] at q; exact q, hdone _ _ (Nat.le_refl _) (bookP hI _ _ hi hl rfl) ((World.putObj_heap_other (by omega)).trans hd)⟩
    · refine ⟨some .ret, _, by have q := run_endLoop (P := Tryz.prog) hl (by rw [hlr]; simp [rec']); rw [hlr] at q; exact q, hstop _ pre m _ (Nat.le_refl _) hf (bookP hIx _ _ hi hl rfl) ((World.putObj_heap_other (by omega)).trans hd)⟩
end Go.Proofs.YtbhlenjcahonnaaGreat
/- Rows projected: the program's own walk. -/
namespace Go.Proofs.YtbhlenjcahonnaaGreat
open Go.RowKit Go.WideShapes Go.Maps
theorem one_rows {w : World} {a : Option Addr} {n c : Nat} {r : RowV} (h : IsPres w a n c r) : IsRows (w.alloc (.cells #[.slice a n c] 31)) (some ⟨w.heap.size, 0, none⟩) 1 1 [r] := by
  refine .inr ⟨_, rfl, Nat.le_refl _, by unfold maxLen; omega, rfl, fun i s hi => ?_⟩
  obtain rfl : i = 0 := by have := (List.getElem?_eq_some_iff.1 hi).1; simp at this; omega
  obtain rfl : r = s := by simpa using hi
  refine ⟨a, n, c, ?_, h.next ((Below.refl w.heap.size w).alloc (Nat.le_refl _) _)⟩
  exact one_cellV rfl 0 _ rfl
theorem put_next {w w5 w6 : World} {mb k : Nat} {ks : List RowV} {r : RowV} {us us1 : List Value} (hk : k < ks.length) (hr : ks[k]? = some r) (hU : us.length = k ∧ (∀ (i : Nat) (u : Value) (r : RowV), us[i]? = some u → ks[i]? = some r → RowIn w u r) ∧ OwnMapV w mb k (putV [] (ks.take k) us))
    (hb : Below w.heap.size w w5) (h1 : us1.length = [r].length) (h2 : ∀ (i : Nat) (u : Value) (s : RowV), us1[i]? = some u → [r][i]? = some s → RowIn w6 u s) (h3 : OwnMapV w6 mb (k + 1) (putV (putV [] (ks.take k) us) [r] us1)) (hg : w5.grownBy w6 (some mb)) :
    ∃ us' : List Value, us'.length = k + 1 ∧ (∀ (i : Nat) (u : Value) (r : RowV), us'[i]? = some u → ks[i]? = some r → RowIn w6 u r) ∧ OwnMapV w6 mb (k + 1) (putV [] (ks.take (k + 1)) us') := by
  obtain ⟨a1, a2, a3⟩ := hU
  match us1, h1 with
  | [u1], _ =>
    refine ⟨us ++ [u1], by simp [a1], fun i u s hu hs => ?_, ?_⟩
    · rcases Nat.lt_or_ge i k with g | g
      · rw [List.getElem?_append_left (by omega)] at hu
        exact ((a2 i u s hu hs).next hb).past hg (a3.next hb).isMap
      · obtain rfl : i = k := by have := (List.getElem?_eq_some_iff.1 hu).1; simp [a1] at this; omega
        rw [List.getElem?_append_right (by omega), a1, Nat.sub_self] at hu
        rw [hr] at hs
        obtain rfl := Option.some.inj hs
        exact h2 0 u r hu rfl
    · have e : ks.take (k + 1) = ks.take k ++ [r] := by
        have e1 := List.getElem?_eq_getElem hk
        rw [hr] at e1
        rw [List.take_succ_eq_append_getElem hk, ← Option.some.inj e1]
      rw [e, putV_snoc _ _ _ _ _ (by rw [a1, List.length_take]; omega)]
      exact h3
set_option maxRecDepth 100000 in
set_option maxHeartbeats 3200000 in
theorem implProjected (a b : Option Addr) (la ca lb cb : Nat) (rs : List RowV) (vs : List ByteArray) (w : World) (ha : IsRows w a la ca rs) (hb : IsStrs w b lb cb vs) (hsa : SmR rs) (hsb : ∀ t ∈ vs, t.size ≤ 1048576) (hlb : lb ≤ 1048576) :
    Calls Tryz.prog 8 #[.slice a la ca, .slice b lb cb] w fun e w' => ∃ v, e = .returned (.tuple #[v, .bool (projOk rs vs)]) ∧ OwnRs w.heap.size w' v (projR rs vs) ∧ Below w.heap.size w w' := by
  have C' := implRowsOk a la ca rs w ha hsa
  have HA := Lib.hid ha
  have HB := Lib.hid hb
  have HSB := Lib.hid hsb
  have HVL := Lib.hid hb.len
  have HRL := Lib.hid ha.len
  cases hq : rowsOkL rs
  · rw [hq] at C'
    have C := Lib.hid C'
    have HP : Hid (projOk rs vs = false) := Lib.hid (by unfold projOk; rw [hq, Bool.false_and])
    clear C' hq ha hb hsa hsb
    go_enter Tryz.func8, Tryz.ntmps8
    go_wp2_with fail
    refine C.out.mono ?_
    rintro e w1 ⟨rfl, hb1⟩
    go_wp2_with fail
    go_ret2
    exact ⟨_, by rw [HP.out]; rfl, by rw [projR_no HP.out]; exact OwnRs.none _ _, hb1⟩
  have hla : la ≤ 300 := by have := rowsOk_most hq; rw [ha.len] at this; exact this
  have HROW : Hid (∀ r ∈ rs, r.length ≤ 12) := Lib.hid (fun r hr => rowsOk_row hq hr)
  have HNZ := Lib.hid (rowsOk_noZ hq)
  have HSA := Lib.hid hsa
  have HRQ := Lib.hid hq
  have hmm := @run_makeMap Tryz.prog
  rw [hq] at C'
  have C := Lib.hid C'
  clear C' hq ha hb hsa hsb
  go_enter Tryz.func8, Tryz.ntmps8
  go_wp2_with fail
  refine C.out.mono ?_
  rintro e w1 ⟨rfl, hb1⟩
  have O0 := Lib.hid (OwnSetS.made w1)
  have B0 := hb1.alloc hb1.size (.map #[] 0)
  have HB1 := Lib.hid hb1.size
  clear hb1 C
  go_wp2_with fail
  go_loopw [18] (fun i wr => ∃ k : Nat, k ≤ lb ∧ i = .int .i64 k ∧ Hid ((txts (vs.take k)).all isVarK = true) ∧ Hid (OwnSetS wr w1.heap.size k (addAllS [] (txts (vs.take k)))) ∧ w1.heap.size < wr.heap.size ∧ Below w.heap.size w wr) (fun i _ => lb - (intOf i).toNat)
  case atStart => exact ⟨0, Nat.zero_le _, rfl, Lib.hid rfl, by simpa [txts, addAllS] using O0, by simp, B0⟩
  case round =>
    obtain ⟨k, hk, rfl, hal, hown, hws, hnx⟩ := hrel
    clear O0 B0
    by_cases hlt : k < lb
    · obtain ⟨bb, off, rfl, hbb, _, _, hts, hcs⟩ := HB.out.cells (by omega)
      have ht : vs[k]? = some (vs[k]'(by omega)) := List.getElem?_eq_getElem (by omega)
      have c0 := hcs k _ ht
      have HK : Hid (vs.take (k + 1) = vs.take k ++ [vs[k]'(by omega)]) := Lib.hid (List.take_succ_eq_append_getElem (by omega))
      have hx1 := HSB.out _ (List.getElem_mem (by omega : k < vs.length))
      have HMEM := Lib.hid (List.getElem_mem (by omega : k < vs.length))
      rw [← hnx.cell (p := ⟨bb, _, none⟩) hbb] at c0
      generalize vs[k]'(by omega) = x at c0 HK hx1 HMEM
      have CV' := implIsVar x (by omega)
      have hx2 : x.size ≤ maxLen := by unfold maxLen; omega
      obtain ⟨q, hbq⟩ : ∃ q, isVarK x.data.toList = q := ⟨_, rfl⟩
      rw [hbq] at CV'
      have CV := Lib.hid CV'
      have HBQ := Lib.hid hbq
      clear CV' hbq hts hcs ht hmm
      go_wp2_with fail
      refine (CV.out _).mono ?_
      rintro e w4 ⟨rfl, hb4⟩
      have B4 := hnx.trans (hb4.mono hnx.size)
      have O4 := Lib.hid (hown.out.next hb4)
      have hw4 := hb4.size
      clear hb4 hnx hown CV
      cases q
      · have HP : Hid (projOk rs vs = false) := Lib.hid (by unfold projOk; rw [varsOk_not HMEM.out HBQ.out, Bool.and_false])
        clear O4
        go_wp2_with fail
        go_ret2
        exact ⟨_, by rw [HP.out]; rfl, by rw [projR_no HP.out]; exact OwnRs.none _ _, B4⟩
      · have HN := Lib.hid (varsOk_step hal.out HK.out HBQ.out)
        have hkl : k < maxLen := by unfold maxLen; omega
        go_wp2_with (at_mapUpdate; refine wpList_putS _ rfl _ _ _ rfl w1.heap.size k (addAllS [] (txts (vs.take k))) rfl O4.out hkl x hx2 rfl rfl ?_)
        intro w5 hown5 hg5
        have B5 : Below w.heap.size w w5 := B4.grown hg5 B4.size (fun r e => by cases e; exact HB1.out)
        have HO5 : Hid (OwnSetS w5 w1.heap.size (k + 1) (addAllS [] (txts (vs.take (k + 1))))) := Lib.hid (by rw [HK.out, txts_snoc, addAllS_snoc]; exact hown5)
        have hw5 : w1.heap.size < w5.heap.size := by have := hg5.size; omega
        clear hown5 hg5 O4 B4 hal HK
        go_wp2_with fail
        go_roundw
        case rel => exact ⟨k + 1, by omega, by go_num, HN, HO5, hw5, B5⟩
        case measure => simp [intOf]; omega
    · have hkl : k = lb := by omega
      have hvt : vs.take k = vs := List.take_of_length_le (by rw [HVL.out]; omega)
      have HVO : Hid (projOk rs vs = true) := Lib.hid (by
        have h1 := hal.out
        rw [hvt] at h1
        unfold projOk varsOkL
        rw [HRQ.out, h1]; rfl)
      rw [hvt] at hown
      obtain ⟨wo, rfl⟩ : ∃ x, x = wr := ⟨_, rfl⟩
      have HS2 := Lib.hid (hown.out.alloc (.map #[] 0))
      have OM0 := Lib.hid (OwnMapV.made wo)
      have B2 := hnx.alloc hnx.size (.map #[] 0)
      have HMB := Lib.hid hnx.size
      have HKP : Hid ((rs.map (keepL (addAllS [] (txts vs)))) = rs.map (keepL (txts vs))) := Lib.hid (List.map_congr_left fun r _ => keepL_same _ _)
      obtain ⟨ks, hks⟩ : ∃ ks, rs.map (keepL (addAllS [] (txts vs))) = ks := ⟨_, rfl⟩
      have HKL : Hid (ks.length = la) := Lib.hid (by rw [← hks, List.length_map, HRL.out])
      have HKS := Lib.hid hks
      generalize addAllS [] (txts vs) = nm at HS2 HKS HKP
      rw [HKS.out] at HKP
      have hne : w1.heap.size ≠ wo.heap.size := by omega
      clear hown hnx hal hks hvt hkl hws
      go_wp2_with fail
      clear hmm hlt
      go_loopw [31] (fun i wr => ∃ j : Nat, j ≤ la ∧ i = .int .i64 j ∧ (∃ us : List Value, Hid (us.length = j ∧ (∀ (i : Nat) (u : Value) (r : RowV), us[i]? = some u → ks[i]? = some r → RowIn wr u r) ∧ OwnMapV wr wo.heap.size j (putV [] (ks.take j) us))) ∧ Hid (OwnSetS wr w1.heap.size k nm) ∧ Below w.heap.size w wr) (fun i _ => la - (intOf i).toNat)
      case atStart => exact ⟨0, Nat.zero_le _, rfl, ⟨[], Lib.hid ⟨rfl, by simp, by simpa [putV] using OM0.out⟩⟩, HS2, B2⟩
      case round =>
        obtain ⟨j, hj, rfl, ⟨us, HU⟩, HSS, hnx⟩ := hrel
        clear OM0 HS2 B2
        by_cases hlj : j < la
        · obtain ⟨bb, off, rfl, hbb, _, _, hts, hcs⟩ := HA.out.cells (by omega)
          have ht : rs[j]? = some (rs[j]'(by omega)) := List.getElem?_eq_getElem (by omega)
          obtain ⟨a1, n1, c1, c0, hz0⟩ := hcs j _ ht
          rw [← hnx.cell (p := ⟨bb, _, none⟩) hbb] at c0
          have hrm := List.getElem_mem (by omega : j < rs.length)
          have hr12 := HROW.out _ hrm
          have hsm := HSA.out _ hrm
          have HKJ : Hid (ks[j]? = some (keepL nm (rs[j]'(by omega)))) := Lib.hid (by rw [← HKS.out, List.getElem?_map, ht]; rfl)
          generalize rs[j]'(by omega) = r at hz0 hr12 hsm HKJ
          have hz := hz0.next hnx
          have hn1 := hz.len
          have E1 := Lib.hid (fun W (h : Below wr.heap.size wr W) => implProjectedTo w1.heap.size k nm a1 n1 c1 r W (HSS.out.next h) (hz.next h) (by omega))
          have HSM : Hid (SmP (keepL nm r)) := Lib.hid (fun t ht => hsm t (List.mem_filter.1 ht).1)
          have HKL2 : Hid ((keepL nm r).length ≤ 12) := Lib.hid (Nat.le_trans (keepL_len _ _) hr12)
          generalize keepL nm r = kr at E1 HSM HKL2 HKJ
          clear hts hcs ht hz hz0 hrm hr12 hsm hn1
          go_wp2_with fail
          refine (E1.out _ (by first | exact Below.refl _ _ | exact Below.drew (Below.refl _ _))).mono ?_
          rintro e w4 ⟨u, rfl, ou, hb4⟩
          obtain ⟨ua, uc, rfl, hu⟩ := ou.is (fun t ht => by have := HSM.out t ht; unfold maxLen; omega)
          have hb4' : Below wr.heap.size wr w4 := by first | exact hb4 | exact (Below.drew (Below.refl _ _)).trans hb4
          have B5 := (hb4'.alloc hb4'.size (.cells #[.slice ua kr.length uc] 31))
          have IR := one_rows hu
          have HBW := Lib.hid B5
          have HIR := Lib.hid IR
          have E2 := Lib.hid (fun W (h : Below (w4.alloc (.cells #[.slice ua kr.length uc] 31)).heap.size (w4.alloc (.cells #[.slice ua kr.length uc] 31)) W) => implPut wo.heap.size j (putV [] (ks.take j) us) (some ⟨w4.heap.size, 0, none⟩) 1 1 [kr] W ((HU.out.2.2.next HBW.out).next h) (HIR.out.next h)
            (fun r hr => by
              obtain rfl : r = kr := by simpa using hr
              have := rowText_len HSM.out
              have := HKL2.out
              omega) (by unfold maxLen; omega))
          generalize hkn : kr.length = kn at HKL2 E2 HBW HIR IR B5 ou hu ⊢
          clear ou hu hb4 IR E1 c0 B5 hb4'
          go_wp2_with fail
          refine (E2.out _ (by first | exact Below.refl _ _ | exact Below.drew (Below.refl _ _))).mono ?_
          rintro e w6 ⟨rfl, ⟨us1, hl1, hr1, hM1⟩, hg6⟩
          obtain ⟨us', q1, q2, q3⟩ := put_next (by rw [HKL.out]; exact hlj) HKJ.out HU.out HBW.out hl1 hr1 hM1 hg6
          have HU' := Lib.hid (And.intro q1 (And.intro q2 q3))
          have HS6 := Lib.hid ((HSS.out.next HBW.out).kept hg6 (by simpa using hne))
          have B6 : Below w.heap.size w w6 := (hnx.trans (HBW.out.mono hnx.size)).grown hg6 (by have := HBW.out.size; have := hnx.size; omega) (fun q e => by cases e; exact HMB.out)
          clear hl1 hr1 hM1 hg6 q1 q2 q3 HU HSS hnx HBW HIR E2 HKJ HSM HKL2
          go_wp2_with fail
          go_roundw
          case rel => exact ⟨j + 1, by omega, by go_num, ⟨us', HU'⟩, HS6, B6⟩
          case measure => simp [intOf]; omega
        · have hjl : j = la := by omega
          have HUF : Hid (us.length = ks.length ∧ (∀ (i : Nat) (u : Value) (r : RowV), us[i]? = some u → ks[i]? = some r → RowIn wr u r) ∧ OwnMapV wr wo.heap.size j (putV [] ks us)) := Lib.hid (by
            have h1 := HU.out
            rw [List.take_of_length_le (by rw [HKL.out]; omega)] at h1
            exact ⟨by rw [h1.1, HKL.out, hjl], h1.2⟩)
          have HKM : Hid (∀ r ∈ ks, (∀ t ∈ r, NoZ t) ∧ (r.length ≤ 1048576 ∧ (rowTextL r).length ≤ maxLen)) := Lib.hid (fun r hr => by
            rw [← HKS.out] at hr
            obtain ⟨s, hs, rfl⟩ := List.mem_map.1 hr
            have h1 := HROW.out s hs
            have h2 := keepL_len nm s
            have h3 := rowText_len (r := keepL nm s) (fun t ht => HSA.out s hs t (List.mem_filter.1 ht).1)
            refine ⟨keepL_noZ (HNZ.out s hs), by omega, by unfold maxLen; omega⟩)
          have E3 := Lib.hid (fun W (h : Below wr.heap.size wr W) => implOrdered wo.heap.size j ks us W HUF.out.1 (fun i u r hu hr => (HUF.out.2.1 i u r hu hr).next h) (HUF.out.2.2.next h) (fun r hr => (HKM.out r hr).1) (by rw [HKL.out]; omega) (fun r hr => (HKM.out r hr).2))
          clear HU hjl HSS
          go_wp2_with fail
          refine (E3.out _ (by first | exact Below.refl _ _ | exact Below.drew (Below.refl _ _))).mono ?_
          rintro e w7 ⟨v, rfl, ov, hb7⟩
          have hb7' : Below wr.heap.size wr w7 := by first | exact hb7 | exact (Below.drew (Below.refl _ _)).trans hb7
          have B7 := hnx.trans (hb7'.mono hnx.size)
          have HF : Hid (OwnRs w.heap.size w7 v (projL rs vs)) := Lib.hid (by
            unfold projL
            rw [← HKP.out]
            exact ov.base hnx.size)
          clear ov hb7 hb7' E3
          go_wp2_with fail
          go_ret2
          exact ⟨v, by rw [HVO.out]; rfl, by rw [projR_yes HVO.out]; exact HF.out, B7⟩
end Go.Proofs.YtbhlenjcahonnaaGreat
