/- A map from texts to slices of triples, of the program's own: what it holds; a store and a look. -/
import Derived.Test.YthnpchcfjkepaaaG18
import Derived.Test.YthnpchcfjkepaaaG12
import Derived.Test.YthnpchcfjkepaaaG10
namespace Go.Proofs.Ythnpchcfjkepaaa
open Go.Maps
/-- One more: the value at the text is told anew where the text is there. -/
def addD (kvs : List (Txt × Value)) (t : Txt) (v : Value) : List (Txt × Value) :=
  if t ∈ kvs.map Prod.fst then kvs.map (fun p => if p.1 = t then (t, v) else p) else kvs ++ [(t, v)]
theorem addD_keys (kvs : List (Txt × Value)) (t : Txt) (v : Value) : (addD kvs t v).map Prod.fst = addS (kvs.map Prod.fst) t := by
  unfold addD addS
  split
  · rw [List.map_map]
    apply List.map_congr_left
    intro p _
    by_cases e : p.1 = t
    · simp [e]
    · simp [e]
  · simp
theorem addD_mem {kvs : List (Txt × Value)} {t : Txt} {v : Value} {p : Txt × Value} (h : p ∈ addD kvs t v) : p = (t, v) ∨ (p.1 ≠ t ∧ p ∈ kvs) := by
  unfold addD at h
  split at h
  · obtain ⟨q, hq, rfl⟩ := List.mem_map.1 h
    by_cases e : q.1 = t
    · left; simp [e]
    · right; simp [e, hq]
  · rename_i hn
    rcases List.mem_append.1 h with h | h
    · right
      exact ⟨fun e => hn (List.mem_map.2 ⟨p, h, e⟩), h⟩
    · left; simpa using h
/-- A map's datum is just these texts, each with its value. -/
structure MapOfD (D : DataW Value) (kvs : List (Txt × Value)) : Prop where
  nodup : (kvs.map Prod.fst).Nodup
  has : ∀ kl, Maps.has D kl = true ↔ ∃ t ∈ kvs.map Prod.fst, kl = litS t
  size : Maps.size D = kvs.length
  val : ∀ p ∈ kvs, ∀ z, D.atKey (litS p.1) z = .held p.2
section
variable {D : DataW Value} {kvs : List (Txt × Value)}
theorem MapOfD.empty : MapOfD (.map [] : DataW Value) [] := ⟨List.nodup_nil, fun kl => by simp [has_eq], rfl, by simp⟩
theorem MapOfD.mem (h : MapOfD D kvs) (t : Txt) : Maps.has D (litS t) = decide (t ∈ kvs.map Prod.fst) := by
  rw [Bool.eq_iff_iff, h.has, decide_eq_true_eq]
  exact ⟨fun ⟨u, hu, e⟩ => by rw [litS_inj e]; exact hu, fun g => ⟨t, g, rfl⟩⟩
theorem MapOfD.put (h : MapOfD D kvs) (hT : Tidy D) (t : Txt) (v : Value) : MapOfD (D.put (litS t) (.held v)) (addD kvs t v) := by
  have hm := h.mem t
  have hkk := addD_keys kvs t v
  have hhas : ∀ kl, Maps.has (D.put (litS t) (.held v)) kl = true ↔ ∃ u ∈ (addD kvs t v).map Prod.fst, kl = litS u := by
    intro kl
    rw [hkk]
    by_cases e : kl = litS t
    · subst e
      exact ⟨fun _ => ⟨t, addS_mem.2 (.inr rfl), rfl⟩, fun _ => has_put_same hT.isMap (litS_key t) _⟩
    · rw [has_put_other e, h.has]
      exact ⟨fun ⟨u, hu, hk⟩ => ⟨u, addS_mem.2 (.inl hu), hk⟩, fun ⟨u, hu, hk⟩ => by
        rcases addS_mem.1 hu with hu | rfl
        · exact ⟨u, hu, hk⟩
        · exact absurd hk e⟩
  have hval : ∀ p ∈ addD kvs t v, ∀ z, (D.put (litS t) (.held v)).atKey (litS p.1) z = .held p.2 := by
    intro p hp z
    rcases addD_mem hp with rfl | ⟨hne, hp⟩
    · exact atKey_put_same hT.isMap (litS_key t) _ _
    · rw [atKey_put_other (fun e => hne (litS_inj e))]
      exact h.val p hp z
  refine ⟨?_, hhas, ?_, hval⟩
  · rw [hkk]
    unfold addS
    split
    · exact h.nodup
    · rename_i hn
      exact List.nodup_append.2 ⟨h.nodup, by simp, fun a ha b hb => by simp at hb; subst hb; exact fun e => hn (e ▸ ha)⟩
  · rw [size_put hT, hm]
    unfold addD
    by_cases g : t ∈ kvs.map Prod.fst
    · rw [if_pos g, List.length_map, h.size]; simp [g]
    · rw [if_neg g, List.length_append, h.size]; simp [g]
end
open Go.RowKit Go.Maps
/-- Each value told by itself. -/
def valD (v : Value) : Option (DataW Value × List MemPlace) := some (.held v, [])
/-- Block b is a map of at most n entries that has just these texts, each with its value. -/
def OwnMapD (w : World) (b n : Nat) (kvs : List (Txt × Value)) : Prop := ∃ D : DataW Value, w.ownsMap Try.prog 9 valD b n D ∧ MapOfD D kvs
theorem OwnMapD.lt {w : World} {b n : Nat} {kvs : List (Txt × Value)} (h : OwnMapD w b n kvs) : b < w.heap.size := by obtain ⟨D, h, _⟩ := h; exact h.lt
theorem OwnMapD.kept {w w' : World} {b n : Nat} {kvs : List (Txt × Value)} {row : Option Nat} (h : OwnMapD w b n kvs) (hg : w.grownBy w' row) (hne : some b ≠ row) : OwnMapD w' b n kvs := by
  obtain ⟨D, h, hD⟩ := h
  exact ⟨D, h.kept hg hne, hD⟩
theorem OwnMapD.next {w w' : World} {b n : Nat} {kvs : List (Txt × Value)} (h : OwnMapD w b n kvs) (hb : Below w.heap.size w w') : OwnMapD w' b n kvs := h.kept (grown_of_below hb) (by simp)
theorem OwnMapD.alloc {w : World} {b n : Nat} {kvs : List (Txt × Value)} (h : OwnMapD w b n kvs) (o : Obj) : OwnMapD (w.alloc o) b n kvs := h.kept (World.grownBy_alloc w o none) (by simp)
theorem OwnMapD.drew {w : World} {b n : Nat} {kvs : List (Txt × Value)} (h : OwnMapD w b n kvs) : OwnMapD w.drew b n kvs := h
theorem OwnMapD.nodup {w : World} {b n : Nat} {kvs : List (Txt × Value)} (h : OwnMapD w b n kvs) : (kvs.map Prod.fst).Nodup := by obtain ⟨D, _, h⟩ := h; exact h.nodup
theorem OwnMapD.made (w : World) : OwnMapD (w.alloc (.map #[] 0)) w.heap.size 0 [] := ⟨_, World.ownsMap_made _ _ _ _, MapOfD.empty⟩
theorem OwnMapD.mono {w : World} {b n n' : Nat} {kvs : List (Txt × Value)} (h : OwnMapD w b n kvs) (hn : n ≤ n') : OwnMapD w b n' kvs := by
  obtain ⟨D, h, hD⟩ := h
  exact ⟨D, h.mono hn, hD⟩
section
variable (w : World) {ops : Array Oper} {rest : List Oper} {o : Oper} {a : Act} {Q : Exit → Act → World → Prop}
end
theorem cell_mapD {w : World} {b : Nat} {es : Array MapEntry} {c : Nat} (hb : w.heap[b]? = some (.map es c)) {a : Addr} {v : Value} (h : w.cell? a = some v) : some a.block ≠ some b := by
  intro e
  simp only [Option.some.injEq] at e
  simp [World.cell?, e, hb] at h
theorem OwnMapD.isMap {w : World} {b n : Nat} {kvs : List (Txt × Value)} (h : OwnMapD w b n kvs) : ∃ es c, w.heap[b]? = some (.map es c) := by
  obtain ⟨D, ⟨es, c, hb, _⟩, _⟩ := h
  exact ⟨es, c, hb⟩
end Go.Proofs.Ythnpchcfjkepaaa
/- Datasets: names that rise; a map of them. -/
namespace Go.Proofs.Ythnpchcfjkepaaa
open Go.Maps
abbrev nmT (r : NamV) : Txt := r.1.data.toList
theorem lessN_is (t u : NamV) : lessN t u = lessS (nmT t) (nmT u) := by unfold lessN lessS; rw [ByteArray.toList_eq, ByteArray.toList_eq]
theorem rising_names (ts : List NamV) : ∀ k, k ≤ ts.length → gUpto namT lessN ts k = true → RisingS ((ts.take k).map nmT)
  | 0, _, _ => by simp [RisingS]
  | k + 1, hk, h => by
    rw [gUpto_succ, Bool.and_eq_true] at h
    have ih := rising_names ts k (by omega) h.1
    have ht : ts[k]? = some (ts[k]'(by omega)) := List.getElem?_eq_getElem _
    have e : ts.take (k + 1) = ts.take k ++ [ts[k]'(by omega)] := List.take_succ_eq_append_getElem (by omega)
    have h2 := h.2
    generalize ts[k]'(by omega) = t at ht e
    rw [e, List.map_append, List.map_singleton]
    refine List.pairwise_append.2 ⟨ih, List.pairwise_singleton _ _, fun a ha b hb => ?_⟩
    obtain rfl : b = nmT t := by simpa using hb
    rcases k with _ | j
    · simp at ha
    · have hu : ts[j]? = some (ts[j]'(by omega)) := List.getElem?_eq_getElem _
      rw [gAt_next (by omega) ht hu, Bool.and_eq_true] at h2
      have e2 : ts.take (j + 1) = ts.take j ++ [ts[j]'(by omega)] := List.take_succ_eq_append_getElem (by omega)
      have hl := h2.2
      rw [lessN_is] at hl
      rw [e2, List.map_append, List.map_singleton] at ih ha
      rcases List.mem_append.1 ha with ha | ha
      · exact lessS_trans ((List.pairwise_append.1 ih).2.2 a ha _ (by simp)) hl
      · obtain rfl : a = nmT (ts[j]'(by omega)) := by simpa using ha
        exact hl
theorem dataOk_parts {ts : List NamV} (h : dataOk ts = true) : ts.length ≤ 6 ∧ RisingS (ts.map nmT) := by
  unfold dataOk at h
  rw [Bool.and_eq_true, decide_eq_true_eq] at h
  have := rising_names ts ts.length (Nat.le_refl _) h.2
  rw [List.take_of_length_le (Nat.le_refl _)] at this
  exact ⟨h.1, this⟩
/-- The map's entries: each name with its graph's slice. -/
def kvsD : List NamV → List Value → List (Txt × Value)
  | t :: ts, u :: us => (nmT t, u) :: kvsD ts us
  | _, _ => []
theorem kvsD_snoc (t : NamV) (u : Value) : ∀ (ts : List NamV) (us : List Value), us.length = ts.length → kvsD (ts ++ [t]) (us ++ [u]) = kvsD ts us ++ [(nmT t, u)]
  | [], [], _ => rfl
  | [], _ :: _, h => by simp at h
  | _ :: _, [], h => by simp at h
  | s :: ts, v :: us, h => by
    have := kvsD_snoc t u ts us (by simpa using h)
    simp only [List.cons_append, kvsD, this]
theorem kvsD_keys : ∀ (ts : List NamV) (us : List Value), us.length = ts.length → (kvsD ts us).map Prod.fst = ts.map nmT
  | [], [], _ => rfl
  | [], _ :: _, h => by simp at h
  | _ :: _, [], h => by simp at h
  | s :: ts, v :: us, h => by
    have := kvsD_keys ts us (by simpa using h)
    simp only [kvsD, List.map_cons, this]
theorem kvsD_mem : ∀ (ts : List NamV) (us : List Value), us.length = ts.length → ∀ (i : Nat) (t : NamV) (u : Value), ts[i]? = some t → us[i]? = some u → (nmT t, u) ∈ kvsD ts us
  | [], _, _, i, t, u, h, _ => by simp at h
  | _ :: _, [], h, _, _, _, _, _ => by simp at h
  | s :: ts, v :: us, h, i, t, u, ht, hu => by
    cases i with
    | zero => simp at ht hu; subst ht hu; simp [kvsD]
    | succ n => exact List.mem_cons_of_mem _ (kvsD_mem ts us (by simpa using h) n t u (by simpa using ht) (by simpa using hu))
theorem addD_new {kvs : List (Txt × Value)} {t : Txt} {v : Value} (h : t ∉ kvs.map Prod.fst) : addD kvs t v = kvs ++ [(t, v)] := by unfold addD; rw [if_neg h]
theorem rising_new {ts : List NamV} {k : Nat} {t : NamV} (h : RisingS (ts.map nmT)) (ht : ts[k]? = some t) : nmT t ∉ (ts.take k).map nmT := by
  intro hm
  have hk := (List.getElem?_eq_some_iff.1 ht).1
  have e : ts = ts.take k ++ (t :: ts.drop (k + 1)) := by
    conv => lhs; rw [← List.take_append_drop k ts]
    rw [List.drop_eq_getElem_cons hk, (List.getElem?_eq_some_iff.1 ht).2]
  rw [e, List.map_append] at h
  have := (List.pairwise_append.1 h).2.2 _ hm (nmT t) (by simp)
  rw [lessS_irrefl] at this
  cases this
end Go.Proofs.Ythnpchcfjkepaaa
/- DataOk of the program. -/
namespace Go.Proofs.Ythnpchcfjkepaaa
open Go.RowKit Go.WideShapes
set_option maxRecDepth 100000 in
set_option maxHeartbeats 3200000 in
theorem implDataOk (a : Option Addr) (len cap : Nat) (ts : List NamV) (w : World) (h : IsNams w a len cap ts) (hsm : SmN ts) :
    Calls Try.prog 28 #[.slice a len cap] w fun e w' => e = .returned (.bool (dataOk ts)) ∧ Below w.heap.size w w' := by
  have hts := h.len
  have hlen := h.maxl
  by_cases g4 : (6 : Int) < len
  · have HG : Hid (dataOk ts = false) := Lib.hid (by unfold dataOk; rw [decide_eq_false (by omega)]; rfl)
    clear h hsm hts
    go_enter Try.func28, Try.ntmps28
    go_wp2_with fail
    go_ret
    exact ⟨by rw [HG.out]; rfl, Below.refl _ _⟩
  have HG : Hid (dataOk ts = gUpto namT lessN ts ts.length) := Lib.hid (by unfold dataOk; rw [decide_eq_true (by omega)]; rfl)
  have HT := Lib.hid hts
  have H := Lib.hid h
  have HM := Lib.hid hsm
  clear hts h hsm
  go_enter Try.func28, Try.ntmps28
  go_wp2_with fail
  go_loopw [10] (fun i wr => ∃ k : Nat, k ≤ len ∧ i = .int .i64 k ∧ Hid (gUpto namT lessN ts k = true) ∧ Below w.heap.size w wr) (fun i _ => len - (intOf i).toNat)
  case atStart => exact ⟨0, Nat.zero_le _, rfl, Lib.hid rfl, Below.refl _ _⟩
  case round =>
    obtain ⟨k, hk, rfl, hok, hnx⟩ := hrel
    have hk6 : (0 : Int) ≤ (k : Int) := by omega
    by_cases hlt : k < len
    · obtain ⟨b, off, rfl, hb, hl, hm, hts, hc⟩ := H.out.cells (by omega)
      have ht : ts[k]? = some ts[k] := List.getElem?_eq_getElem (by omega)
      have hk7 : (k : Int) < (len : Int) := by omega
      obtain ⟨n1, n2⟩ := HM.out ts[k] (List.getElem_mem _)
      have hsm := HM.out.sm (List.getElem_mem (by omega : k < ts.length))
      obtain ⟨ga, gn, gc, c0, c1, hz, m0⟩ := hc k _ ht
      clear m0 n2
      have hzl := hz.len
      have hz' := hz.next hnx
      rw [← hnx.cell (p := ⟨b, _, none⟩) hb] at c0 c1
      generalize htt : ts[k] = t at c0 c1 ht n1 hsm hz hz' hzl
      clear htt hz
      obtain ⟨s, g⟩ := t
      simp only at c0 c1 n1 hsm hz' hzl
      have A1 := implKindOf s (by omega)
      have A2 := fun W (hb : Below wr.heap.size wr W) => implGraphOk ga gn gc g W (hz'.next hb) hsm
      have l0 : b < wr.heap.size := Nat.lt_of_lt_of_le hb hnx.size
      have T0 := NamK.Box2.new wr (.string s) (.slice ga gn gc) 31
      have BW := (Below.refl wr.heap.size wr).alloc (Nat.le_refl _) (.cells #[.string s, .slice ga gn gc] 31)
      have hnx2 := (hnx.alloc hnx.size (.cells #[.string s, .slice ga gn gc] 31)).drew
      have HZL := Lib.hid hzl
      have HC : Hid (∀ i u, ts[i]? = some u → ∃ a n c, wr.cell? ⟨b, off + i * 2, none⟩ = some (.string u.1) ∧ wr.cell? ⟨b, off + i * 2 + 1, none⟩ = some (.slice a n c)) := Lib.hid (fun i u hu => by
        obtain ⟨a', n', c', d0, d1, _⟩ := hc i u hu
        rw [← hnx.cell (p := ⟨b, _, none⟩) hb] at d0 d1
        exact ⟨a', n', c', d0, d1⟩)
      clear hzl hts hc hm hz' hsm hnx
      by_cases q1 : kindL s.data.toList = 1
      rotate_left
      · have HR : Hid (dataOk ts = false) := Lib.hid (by rw [HG.out]; exact gUpto_no (gAt_not ht (by unfold namT; rw [decide_eq_false q1]; rfl)) (by have := HT.out; omega))
        have q2 : ¬ ((kindL s.data.toList : Nat) : Int) = 1 := by omega
        have q3 : (((kindL s.data.toList : Nat) : Int) == 1) = false := by rw [beq_eq_false_iff_ne]; exact q2
        have q4 : (((kindL s.data.toList : Nat) : Int) != 1) = true := by rw [bne_iff_ne]; exact q2
        have C1 := Lib.hid A1
        clear A1 A2 q1 q2 ht
        go_wp2_with fail
        obtain ⟨x10, x11⟩ := T0.drew.cells
        have T1 := T0.drew
        refine wp_region_any (by kernel_rfl) ?_
        change wpAny _ _ _ _ _ _ _ (World.drew _)
        refine wpAny_take (i := 0) (v := ?_) rfl (by kernel_rfl) (by kernel_rfl) (by kernel_rfl) (fun _ _ _ h => h) (Or.inl ⟨by kernel_rfl, ?_⟩) ?_
        rotate_left
        · intro w; go_simp; try with_reducible rfl
        refine wpAny_ready (rs := [1]) (by kernel_rfl) (by simp) ?_
        refine AllReady.cons rfl (fun K hK => ?_) AllReady.nil
        go_simp
        refine hK _ _ ?_
        clear hK K
        refine wpAny_ready (rs := [2]) (by kernel_rfl) (by simp) ?_
        refine AllReady.cons rfl (fun K hK => ?_) AllReady.nil
        go_simp
        refine (C1.out _).mono ?_
        rintro e w5 ⟨rfl, hb5⟩
        have B5 := (BW.drew).trans (hb5.mono BW.size)
        have N5 := hnx2.trans (hb5.mono hnx2.size)
        have T2 := T1.next hb5
        obtain ⟨x20, x21⟩ := T2.cells
        go_wp2_with fail
        refine wpAny_take (i := 3) (v := ?_) rfl (by kernel_rfl) (by kernel_rfl) (by kernel_rfl) (fun _ _ _ h => h) (Or.inl ⟨by kernel_rfl, ?_⟩) ?_
        rotate_left
        · intro w; go_simp; try with_reducible rfl
        refine wpAny_take (i := 4) (v := ?_) rfl (by kernel_rfl) (by kernel_rfl) (by kernel_rfl) (fun _ _ _ h => h) (Or.inl ⟨by kernel_rfl, ?_⟩) ?_
        rotate_left
        · intro w; go_simp; try with_reducible rfl
        refine wpAny_take (i := 5) (v := undef) rfl (by kernel_rfl) (by kernel_rfl) (by kernel_rfl) (fun _ _ _ h => h) (Or.inr ⟨by kernel_rfl, rfl⟩) ?_
        refine wpAny_take (i := 6) (v := undef) rfl (by kernel_rfl) (by kernel_rfl) (by kernel_rfl) (fun _ _ _ h => h) (Or.inr ⟨by kernel_rfl, rfl⟩) ?_
        refine wpAny_take (i := 7) (v := undef) rfl (by kernel_rfl) (by kernel_rfl) (by kernel_rfl) (fun _ _ _ h => h) (Or.inr ⟨by kernel_rfl, rfl⟩) ?_
        refine wpAny_take (i := 8) (v := undef) rfl (by kernel_rfl) (by kernel_rfl) (by kernel_rfl) (fun _ _ _ h => h) (Or.inr ⟨by kernel_rfl, rfl⟩) ?_
        refine wpAny_take (i := 9) (v := ?_) rfl (by kernel_rfl) (by kernel_rfl) (by kernel_rfl) (fun _ _ _ h => h) (Or.inl ⟨by kernel_rfl, ?_⟩) ?_
        rotate_left
        · intro w; go_simp; try with_reducible rfl
        refine wpAny_take (i := 10) (v := ?_) rfl (by kernel_rfl) (by kernel_rfl) (by kernel_rfl) (fun _ _ _ h => h) (Or.inl ⟨by kernel_rfl, ?_⟩) ?_
        rotate_left
        · intro w; go_simp; try with_reducible rfl
        refine wpAny_take (i := 11) (v := undef) rfl (by kernel_rfl) (by kernel_rfl) (by kernel_rfl) (fun _ _ _ h => h) (Or.inr ⟨by kernel_rfl, rfl⟩) ?_
        refine wpAny_take (i := 12) (v := undef) rfl (by kernel_rfl) (by kernel_rfl) (by kernel_rfl) (fun _ _ _ h => h) (Or.inr ⟨by kernel_rfl, rfl⟩) ?_
        refine wpAny_take (i := 13) (v := undef) rfl (by kernel_rfl) (by kernel_rfl) (by kernel_rfl) (fun _ _ _ h => h) (Or.inr ⟨by kernel_rfl, rfl⟩) ?_
        refine wpAny_take (i := 14) (v := undef) rfl (by kernel_rfl) (by kernel_rfl) (by kernel_rfl) (fun _ _ _ h => h) (Or.inr ⟨by kernel_rfl, rfl⟩) ?_
        refine wpAny_take (i := 15) (v := ?_) rfl (by kernel_rfl) (by kernel_rfl) (by kernel_rfl) (fun _ _ _ h => h) (Or.inl ⟨by kernel_rfl, ?_⟩) ?_
        rotate_left
        · intro w; go_simp; try with_reducible rfl
        refine wpAny_take (i := 16) (v := ?_) rfl (by kernel_rfl) (by kernel_rfl) (by kernel_rfl) (fun _ _ _ h => h) (Or.inl ⟨by kernel_rfl, ?_⟩) ?_
        rotate_left
        · intro w; go_simp; try with_reducible rfl
        refine wpAny_take (i := 17) (v := undef) rfl (by kernel_rfl) (by kernel_rfl) (by kernel_rfl) (fun _ _ _ h => h) (Or.inr ⟨by kernel_rfl, rfl⟩) ?_
        refine wpAny_take (i := 18) (v := undef) rfl (by kernel_rfl) (by kernel_rfl) (by kernel_rfl) (fun _ _ _ h => h) (Or.inr ⟨by kernel_rfl, rfl⟩) ?_
        refine wpAny_take (i := 19) (v := undef) rfl (by kernel_rfl) (by kernel_rfl) (by kernel_rfl) (fun _ _ _ h => h) (Or.inr ⟨by kernel_rfl, rfl⟩) ?_
        refine wpAny_take (i := 20) (v := undef) rfl (by kernel_rfl) (by kernel_rfl) (by kernel_rfl) (fun _ _ _ h => h) (Or.inr ⟨by kernel_rfl, rfl⟩) ?_
        refine wpAny_take (i := 21) (v := undef) rfl (by kernel_rfl) (by kernel_rfl) (by kernel_rfl) (fun _ _ _ h => h) (Or.inr ⟨by kernel_rfl, rfl⟩) ?_
        refine wpAny_take (i := 22) (v := undef) rfl (by kernel_rfl) (by kernel_rfl) (by kernel_rfl) (fun _ _ _ h => h) (Or.inr ⟨by kernel_rfl, rfl⟩) ?_
        refine wpAny_take (i := 23) (v := undef) rfl (by kernel_rfl) (by kernel_rfl) (by kernel_rfl) (fun _ _ _ h => h) (Or.inr ⟨by kernel_rfl, rfl⟩) ?_
        refine wpAny_take (i := 24) (v := undef) rfl (by kernel_rfl) (by kernel_rfl) (by kernel_rfl) (fun _ _ _ h => h) (Or.inr ⟨by kernel_rfl, rfl⟩) ?_
        refine wpAny_take (i := 25) (v := undef) rfl (by kernel_rfl) (by kernel_rfl) (by kernel_rfl) (fun _ _ _ h => h) (Or.inr ⟨by kernel_rfl, rfl⟩) ?_
        refine wpAny_take (i := 26) (v := undef) rfl (by kernel_rfl) (by kernel_rfl) (by kernel_rfl) (fun _ _ _ h => h) (Or.inr ⟨by kernel_rfl, rfl⟩) ?_
        refine wpAny_take (i := 27) (v := undef) rfl (by kernel_rfl) (by kernel_rfl) (by kernel_rfl) (fun _ _ _ h => h) (Or.inr ⟨by kernel_rfl, rfl⟩) ?_
        refine wpAny_take (i := 28) (v := undef) rfl (by kernel_rfl) (by kernel_rfl) (by kernel_rfl) (fun _ _ _ h => h) (Or.inr ⟨by kernel_rfl, rfl⟩) ?_
        refine wpAny_take (i := 29) (v := undef) rfl (by kernel_rfl) (by kernel_rfl) (by kernel_rfl) (fun _ _ _ h => h) (Or.inr ⟨by kernel_rfl, rfl⟩) ?_
        refine wpAny_take (i := 30) (v := ?_) rfl (by kernel_rfl) (by kernel_rfl) (by kernel_rfl) (fun _ _ _ h => h) (Or.inl ⟨by kernel_rfl, ?_⟩) ?_
        rotate_left
        · intro w; go_simp; try with_reducible rfl
        refine wpAny_done (by kernel_rfl) ?_ _
        try simp only [Act.put, List.setIfInBounds_toArray, List.set_cons_zero, List.set_cons_succ, List.getElem_toArray, List.getElem_cons_zero, List.getElem_cons_succ]
        go_wp2_with fail
        go_ret
        exact ⟨by rw [HR.out]; rfl, N5⟩
      rw [q1] at A1
      have C1 : Hid (∀ w, Calls Try.prog 65 #[.string s] w fun e w' => e = .returned (.int .i64 1) ∧ Below w.heap.size w w') := Lib.hid A1
      clear A1
      by_cases q5 : gn = 0
      · subst q5
        have HR : Hid (dataOk ts = false) := Lib.hid (by rw [HG.out]; exact gUpto_no (gAt_not ht (by unfold namT; rw [decide_eq_false (p := 0 < g.length) (by have := HZL.out; omega), Bool.and_false, Bool.and_false])) (by have := HT.out; omega))
        have C2 := Lib.hid A2
        clear A2 ht q1
        go_wp2_with fail
        obtain ⟨x10, x11⟩ := T0.drew.cells
        have T1 := T0.drew
        refine wp_region_any (by kernel_rfl) ?_
        change wpAny _ _ _ _ _ _ _ (World.drew _)
        refine wpAny_take (i := 0) (v := ?_) rfl (by kernel_rfl) (by kernel_rfl) (by kernel_rfl) (fun _ _ _ h => h) (Or.inl ⟨by kernel_rfl, ?_⟩) ?_
        rotate_left
        · intro w; go_simp; try with_reducible rfl
        refine wpAny_ready (rs := [1]) (by kernel_rfl) (by simp) ?_
        refine AllReady.cons rfl (fun K hK => ?_) AllReady.nil
        go_simp
        refine hK _ _ ?_
        clear hK K
        refine wpAny_ready (rs := [2]) (by kernel_rfl) (by simp) ?_
        refine AllReady.cons rfl (fun K hK => ?_) AllReady.nil
        go_simp
        refine (C1.out _).mono ?_
        rintro e w5 ⟨rfl, hb5⟩
        have B5 := (BW.drew).trans (hb5.mono BW.size)
        have N5 := hnx2.trans (hb5.mono hnx2.size)
        have T2 := T1.next hb5
        obtain ⟨x20, x21⟩ := T2.cells
        go_wp2_with fail
        refine wpAny_take (i := 3) (v := ?_) rfl (by kernel_rfl) (by kernel_rfl) (by kernel_rfl) (fun _ _ _ h => h) (Or.inl ⟨by kernel_rfl, ?_⟩) ?_
        rotate_left
        · intro w; go_simp; try with_reducible rfl
        refine wpAny_take (i := 4) (v := ?_) rfl (by kernel_rfl) (by kernel_rfl) (by kernel_rfl) (fun _ _ _ h => h) (Or.inl ⟨by kernel_rfl, ?_⟩) ?_
        rotate_left
        · intro w; go_simp; try with_reducible rfl
        refine wpAny_take (i := 5) (v := ?_) rfl (by kernel_rfl) (by kernel_rfl) (by kernel_rfl) (fun _ _ _ h => h) (Or.inl ⟨by kernel_rfl, ?_⟩) ?_
        rotate_left
        · intro w; go_simp; try with_reducible rfl
        refine wpAny_ready (rs := [6]) (by kernel_rfl) (by simp) ?_
        refine AllReady.cons rfl (fun K hK => ?_) AllReady.nil
        go_simp
        refine hK _ _ ?_
        clear hK K
        refine wpAny_take (i := 7) (v := ?_) rfl (by kernel_rfl) (by kernel_rfl) (by kernel_rfl) (fun _ _ _ h => h) (Or.inl ⟨by kernel_rfl, ?_⟩) ?_
        rotate_left
        · intro w; go_simp; try with_reducible rfl
        refine wpAny_take (i := 8) (v := ?_) rfl (by kernel_rfl) (by kernel_rfl) (by kernel_rfl) (fun _ _ _ h => h) (Or.inl ⟨by kernel_rfl, ?_⟩) ?_
        rotate_left
        · intro w; go_simp; try with_reducible rfl
        refine wpAny_take (i := 9) (v := ?_) rfl (by kernel_rfl) (by kernel_rfl) (by kernel_rfl) (fun _ _ _ h => h) (Or.inl ⟨by kernel_rfl, ?_⟩) ?_
        rotate_left
        · intro w; go_simp; try with_reducible rfl
        refine wpAny_take (i := 10) (v := ?_) rfl (by kernel_rfl) (by kernel_rfl) (by kernel_rfl) (fun _ _ _ h => h) (Or.inl ⟨by kernel_rfl, ?_⟩) ?_
        rotate_left
        · intro w; go_simp; try with_reducible rfl
        refine wpAny_take (i := 11) (v := undef) rfl (by kernel_rfl) (by kernel_rfl) (by kernel_rfl) (fun _ _ _ h => h) (Or.inr ⟨by kernel_rfl, rfl⟩) ?_
        refine wpAny_take (i := 12) (v := undef) rfl (by kernel_rfl) (by kernel_rfl) (by kernel_rfl) (fun _ _ _ h => h) (Or.inr ⟨by kernel_rfl, rfl⟩) ?_
        refine wpAny_take (i := 13) (v := undef) rfl (by kernel_rfl) (by kernel_rfl) (by kernel_rfl) (fun _ _ _ h => h) (Or.inr ⟨by kernel_rfl, rfl⟩) ?_
        refine wpAny_take (i := 14) (v := undef) rfl (by kernel_rfl) (by kernel_rfl) (by kernel_rfl) (fun _ _ _ h => h) (Or.inr ⟨by kernel_rfl, rfl⟩) ?_
        refine wpAny_take (i := 15) (v := ?_) rfl (by kernel_rfl) (by kernel_rfl) (by kernel_rfl) (fun _ _ _ h => h) (Or.inl ⟨by kernel_rfl, ?_⟩) ?_
        rotate_left
        · intro w; go_simp; try with_reducible rfl
        refine wpAny_take (i := 16) (v := ?_) rfl (by kernel_rfl) (by kernel_rfl) (by kernel_rfl) (fun _ _ _ h => h) (Or.inl ⟨by kernel_rfl, ?_⟩) ?_
        rotate_left
        · intro w; go_simp; try with_reducible rfl
        refine wpAny_take (i := 17) (v := undef) rfl (by kernel_rfl) (by kernel_rfl) (by kernel_rfl) (fun _ _ _ h => h) (Or.inr ⟨by kernel_rfl, rfl⟩) ?_
        refine wpAny_take (i := 18) (v := undef) rfl (by kernel_rfl) (by kernel_rfl) (by kernel_rfl) (fun _ _ _ h => h) (Or.inr ⟨by kernel_rfl, rfl⟩) ?_
        refine wpAny_take (i := 19) (v := undef) rfl (by kernel_rfl) (by kernel_rfl) (by kernel_rfl) (fun _ _ _ h => h) (Or.inr ⟨by kernel_rfl, rfl⟩) ?_
        refine wpAny_take (i := 20) (v := undef) rfl (by kernel_rfl) (by kernel_rfl) (by kernel_rfl) (fun _ _ _ h => h) (Or.inr ⟨by kernel_rfl, rfl⟩) ?_
        refine wpAny_take (i := 21) (v := undef) rfl (by kernel_rfl) (by kernel_rfl) (by kernel_rfl) (fun _ _ _ h => h) (Or.inr ⟨by kernel_rfl, rfl⟩) ?_
        refine wpAny_take (i := 22) (v := undef) rfl (by kernel_rfl) (by kernel_rfl) (by kernel_rfl) (fun _ _ _ h => h) (Or.inr ⟨by kernel_rfl, rfl⟩) ?_
        refine wpAny_take (i := 23) (v := undef) rfl (by kernel_rfl) (by kernel_rfl) (by kernel_rfl) (fun _ _ _ h => h) (Or.inr ⟨by kernel_rfl, rfl⟩) ?_
        refine wpAny_take (i := 24) (v := undef) rfl (by kernel_rfl) (by kernel_rfl) (by kernel_rfl) (fun _ _ _ h => h) (Or.inr ⟨by kernel_rfl, rfl⟩) ?_
        refine wpAny_take (i := 25) (v := undef) rfl (by kernel_rfl) (by kernel_rfl) (by kernel_rfl) (fun _ _ _ h => h) (Or.inr ⟨by kernel_rfl, rfl⟩) ?_
        refine wpAny_take (i := 26) (v := undef) rfl (by kernel_rfl) (by kernel_rfl) (by kernel_rfl) (fun _ _ _ h => h) (Or.inr ⟨by kernel_rfl, rfl⟩) ?_
        refine wpAny_take (i := 27) (v := undef) rfl (by kernel_rfl) (by kernel_rfl) (by kernel_rfl) (fun _ _ _ h => h) (Or.inr ⟨by kernel_rfl, rfl⟩) ?_
        refine wpAny_take (i := 28) (v := undef) rfl (by kernel_rfl) (by kernel_rfl) (by kernel_rfl) (fun _ _ _ h => h) (Or.inr ⟨by kernel_rfl, rfl⟩) ?_
        refine wpAny_take (i := 29) (v := undef) rfl (by kernel_rfl) (by kernel_rfl) (by kernel_rfl) (fun _ _ _ h => h) (Or.inr ⟨by kernel_rfl, rfl⟩) ?_
        refine wpAny_take (i := 30) (v := ?_) rfl (by kernel_rfl) (by kernel_rfl) (by kernel_rfl) (fun _ _ _ h => h) (Or.inl ⟨by kernel_rfl, ?_⟩) ?_
        rotate_left
        · intro w; go_simp; try with_reducible rfl
        refine wpAny_done (by kernel_rfl) ?_ _
        try simp only [Act.put, List.setIfInBounds_toArray, List.set_cons_zero, List.set_cons_succ, List.getElem_toArray, List.getElem_cons_zero, List.getElem_cons_succ]
        go_wp2_with fail
        go_ret
        exact ⟨by rw [HR.out]; rfl, N5⟩
      have q6 : ¬ (gn : Int) = 0 := by omega
      have q7 : ((gn : Int) == 0) = false := by rw [beq_eq_false_iff_ne]; exact q6
      cases q8 : graphOk g
      · have HR : Hid (dataOk ts = false) := Lib.hid (by rw [HG.out]; exact gUpto_no (gAt_not ht (by unfold namT; rw [q8, Bool.false_and, Bool.and_false])) (by have := HT.out; omega))
        rw [q8] at A2
        have C2 := Lib.hid A2
        clear A2 ht q1 q8
        go_wp2_with fail
        obtain ⟨x10, x11⟩ := T0.drew.cells
        have T1 := T0.drew
        refine wp_region_any (by kernel_rfl) ?_
        change wpAny _ _ _ _ _ _ _ (World.drew _)
        refine wpAny_take (i := 0) (v := ?_) rfl (by kernel_rfl) (by kernel_rfl) (by kernel_rfl) (fun _ _ _ h => h) (Or.inl ⟨by kernel_rfl, ?_⟩) ?_
        rotate_left
        · intro w; go_simp; try with_reducible rfl
        refine wpAny_ready (rs := [1]) (by kernel_rfl) (by simp) ?_
        refine AllReady.cons rfl (fun K hK => ?_) AllReady.nil
        go_simp
        refine hK _ _ ?_
        clear hK K
        refine wpAny_ready (rs := [2]) (by kernel_rfl) (by simp) ?_
        refine AllReady.cons rfl (fun K hK => ?_) AllReady.nil
        go_simp
        refine (C1.out _).mono ?_
        rintro e w5 ⟨rfl, hb5⟩
        have B5 := (BW.drew).trans (hb5.mono BW.size)
        have N5 := hnx2.trans (hb5.mono hnx2.size)
        have T2 := T1.next hb5
        obtain ⟨x20, x21⟩ := T2.cells
        go_wp2_with fail
        refine wpAny_take (i := 3) (v := ?_) rfl (by kernel_rfl) (by kernel_rfl) (by kernel_rfl) (fun _ _ _ h => h) (Or.inl ⟨by kernel_rfl, ?_⟩) ?_
        rotate_left
        · intro w; go_simp; try with_reducible rfl
        refine wpAny_take (i := 4) (v := ?_) rfl (by kernel_rfl) (by kernel_rfl) (by kernel_rfl) (fun _ _ _ h => h) (Or.inl ⟨by kernel_rfl, ?_⟩) ?_
        rotate_left
        · intro w; go_simp; try with_reducible rfl
        refine wpAny_take (i := 5) (v := ?_) rfl (by kernel_rfl) (by kernel_rfl) (by kernel_rfl) (fun _ _ _ h => h) (Or.inl ⟨by kernel_rfl, ?_⟩) ?_
        rotate_left
        · intro w; go_simp; try with_reducible rfl
        refine wpAny_ready (rs := [6]) (by kernel_rfl) (by simp) ?_
        refine AllReady.cons rfl (fun K hK => ?_) AllReady.nil
        go_simp
        refine hK _ _ ?_
        clear hK K
        refine wpAny_take (i := 7) (v := ?_) rfl (by kernel_rfl) (by kernel_rfl) (by kernel_rfl) (fun _ _ _ h => h) (Or.inl ⟨by kernel_rfl, ?_⟩) ?_
        rotate_left
        · intro w; go_simp; try with_reducible rfl
        refine wpAny_take (i := 8) (v := ?_) rfl (by kernel_rfl) (by kernel_rfl) (by kernel_rfl) (fun _ _ _ h => h) (Or.inl ⟨by kernel_rfl, ?_⟩) ?_
        rotate_left
        · intro w; go_simp; try with_reducible rfl
        refine wpAny_take (i := 9) (v := ?_) rfl (by kernel_rfl) (by kernel_rfl) (by kernel_rfl) (fun _ _ _ h => h) (Or.inl ⟨by kernel_rfl, ?_⟩) ?_
        rotate_left
        · intro w; go_simp; try with_reducible rfl
        refine wpAny_take (i := 10) (v := ?_) rfl (by kernel_rfl) (by kernel_rfl) (by kernel_rfl) (fun _ _ _ h => h) (Or.inl ⟨by kernel_rfl, ?_⟩) ?_
        rotate_left
        · intro w; go_simp; try with_reducible rfl
        refine wpAny_take (i := 11) (v := ?_) rfl (by kernel_rfl) (by kernel_rfl) (by kernel_rfl) (fun _ _ _ h => h) (Or.inl ⟨by kernel_rfl, ?_⟩) ?_
        rotate_left
        · intro w; go_simp; try with_reducible rfl
        refine wpAny_ready (rs := [12]) (by kernel_rfl) (by simp) ?_
        refine AllReady.cons rfl (fun K hK => ?_) AllReady.nil
        go_simp
        refine hK _ _ ?_
        clear hK K
        refine wpAny_ready (rs := [13]) (by kernel_rfl) (by simp) ?_
        refine AllReady.cons rfl (fun K hK => ?_) AllReady.nil
        go_simp
        refine (C2.out _ B5).mono ?_
        rintro e w6 ⟨rfl, hb6⟩
        have N6 := N5.trans (hb6.mono N5.size)
        have T3 := T2.next hb6
        obtain ⟨x30, x31⟩ := T3.cells
        go_wp2_with fail
        refine wpAny_take (i := 14) (v := ?_) rfl (by kernel_rfl) (by kernel_rfl) (by kernel_rfl) (fun _ _ _ h => h) (Or.inl ⟨by kernel_rfl, ?_⟩) ?_
        rotate_left
        · intro w; go_simp; try with_reducible rfl
        refine wpAny_take (i := 15) (v := ?_) rfl (by kernel_rfl) (by kernel_rfl) (by kernel_rfl) (fun _ _ _ h => h) (Or.inl ⟨by kernel_rfl, ?_⟩) ?_
        rotate_left
        · intro w; go_simp; try with_reducible rfl
        refine wpAny_take (i := 16) (v := ?_) rfl (by kernel_rfl) (by kernel_rfl) (by kernel_rfl) (fun _ _ _ h => h) (Or.inl ⟨by kernel_rfl, ?_⟩) ?_
        rotate_left
        · intro w; go_simp; try with_reducible rfl
        refine wpAny_take (i := 17) (v := undef) rfl (by kernel_rfl) (by kernel_rfl) (by kernel_rfl) (fun _ _ _ h => h) (Or.inr ⟨by kernel_rfl, rfl⟩) ?_
        refine wpAny_take (i := 18) (v := undef) rfl (by kernel_rfl) (by kernel_rfl) (by kernel_rfl) (fun _ _ _ h => h) (Or.inr ⟨by kernel_rfl, rfl⟩) ?_
        refine wpAny_take (i := 19) (v := undef) rfl (by kernel_rfl) (by kernel_rfl) (by kernel_rfl) (fun _ _ _ h => h) (Or.inr ⟨by kernel_rfl, rfl⟩) ?_
        refine wpAny_take (i := 20) (v := undef) rfl (by kernel_rfl) (by kernel_rfl) (by kernel_rfl) (fun _ _ _ h => h) (Or.inr ⟨by kernel_rfl, rfl⟩) ?_
        refine wpAny_take (i := 21) (v := undef) rfl (by kernel_rfl) (by kernel_rfl) (by kernel_rfl) (fun _ _ _ h => h) (Or.inr ⟨by kernel_rfl, rfl⟩) ?_
        refine wpAny_take (i := 22) (v := undef) rfl (by kernel_rfl) (by kernel_rfl) (by kernel_rfl) (fun _ _ _ h => h) (Or.inr ⟨by kernel_rfl, rfl⟩) ?_
        refine wpAny_take (i := 23) (v := undef) rfl (by kernel_rfl) (by kernel_rfl) (by kernel_rfl) (fun _ _ _ h => h) (Or.inr ⟨by kernel_rfl, rfl⟩) ?_
        refine wpAny_take (i := 24) (v := undef) rfl (by kernel_rfl) (by kernel_rfl) (by kernel_rfl) (fun _ _ _ h => h) (Or.inr ⟨by kernel_rfl, rfl⟩) ?_
        refine wpAny_take (i := 25) (v := undef) rfl (by kernel_rfl) (by kernel_rfl) (by kernel_rfl) (fun _ _ _ h => h) (Or.inr ⟨by kernel_rfl, rfl⟩) ?_
        refine wpAny_take (i := 26) (v := undef) rfl (by kernel_rfl) (by kernel_rfl) (by kernel_rfl) (fun _ _ _ h => h) (Or.inr ⟨by kernel_rfl, rfl⟩) ?_
        refine wpAny_take (i := 27) (v := undef) rfl (by kernel_rfl) (by kernel_rfl) (by kernel_rfl) (fun _ _ _ h => h) (Or.inr ⟨by kernel_rfl, rfl⟩) ?_
        refine wpAny_take (i := 28) (v := undef) rfl (by kernel_rfl) (by kernel_rfl) (by kernel_rfl) (fun _ _ _ h => h) (Or.inr ⟨by kernel_rfl, rfl⟩) ?_
        refine wpAny_take (i := 29) (v := undef) rfl (by kernel_rfl) (by kernel_rfl) (by kernel_rfl) (fun _ _ _ h => h) (Or.inr ⟨by kernel_rfl, rfl⟩) ?_
        refine wpAny_take (i := 30) (v := ?_) rfl (by kernel_rfl) (by kernel_rfl) (by kernel_rfl) (fun _ _ _ h => h) (Or.inl ⟨by kernel_rfl, ?_⟩) ?_
        rotate_left
        · intro w; go_simp; try with_reducible rfl
        refine wpAny_done (by kernel_rfl) ?_ _
        try simp only [Act.put, List.setIfInBounds_toArray, List.set_cons_zero, List.set_cons_succ, List.getElem_toArray, List.getElem_cons_zero, List.getElem_cons_succ]
        go_wp2_with fail
        go_ret
        exact ⟨by rw [HR.out]; rfl, N6⟩
      rw [q8] at A2
      have C2 := Lib.hid A2
      clear A2
      have hq : Hid (namT (s, g) = true) := Lib.hid (by unfold namT; rw [q8, decide_eq_true q1, decide_eq_true (p := 0 < g.length) (by have := HZL.out; omega)]; rfl)
      rcases k with _ | j
      · have HN : Hid (gUpto namT lessN ts (0 + 1) = true) := Lib.hid (by rw [gUpto_succ, hok.out, gAt_zero ht, hq.out]; rfl)
        clear ht q1 q5 q8
        simp only [Nat.zero_mul, Nat.add_zero] at c0 c1
        go_wp2_with fail
        obtain ⟨x10, x11⟩ := T0.drew.cells
        have T1 := T0.drew
        refine wp_region_any (by kernel_rfl) ?_
        change wpAny _ _ _ _ _ _ _ (World.drew _)
        refine wpAny_take (i := 0) (v := ?_) rfl (by kernel_rfl) (by kernel_rfl) (by kernel_rfl) (fun _ _ _ h => h) (Or.inl ⟨by kernel_rfl, ?_⟩) ?_
        rotate_left
        · intro w; go_simp; try with_reducible rfl
        refine wpAny_ready (rs := [1]) (by kernel_rfl) (by simp) ?_
        refine AllReady.cons rfl (fun K hK => ?_) AllReady.nil
        go_simp
        refine hK _ _ ?_
        clear hK K
        refine wpAny_ready (rs := [2]) (by kernel_rfl) (by simp) ?_
        refine AllReady.cons rfl (fun K hK => ?_) AllReady.nil
        go_simp
        refine (C1.out _).mono ?_
        rintro e w5 ⟨rfl, hb5⟩
        have B5 := (BW.drew).trans (hb5.mono BW.size)
        have N5 := hnx2.trans (hb5.mono hnx2.size)
        have T2 := T1.next hb5
        obtain ⟨x20, x21⟩ := T2.cells
        go_wp2_with fail
        refine wpAny_take (i := 3) (v := ?_) rfl (by kernel_rfl) (by kernel_rfl) (by kernel_rfl) (fun _ _ _ h => h) (Or.inl ⟨by kernel_rfl, ?_⟩) ?_
        rotate_left
        · intro w; go_simp; try with_reducible rfl
        refine wpAny_take (i := 4) (v := ?_) rfl (by kernel_rfl) (by kernel_rfl) (by kernel_rfl) (fun _ _ _ h => h) (Or.inl ⟨by kernel_rfl, ?_⟩) ?_
        rotate_left
        · intro w; go_simp; try with_reducible rfl
        refine wpAny_take (i := 5) (v := ?_) rfl (by kernel_rfl) (by kernel_rfl) (by kernel_rfl) (fun _ _ _ h => h) (Or.inl ⟨by kernel_rfl, ?_⟩) ?_
        rotate_left
        · intro w; go_simp; try with_reducible rfl
        refine wpAny_ready (rs := [6]) (by kernel_rfl) (by simp) ?_
        refine AllReady.cons rfl (fun K hK => ?_) AllReady.nil
        go_simp
        refine hK _ _ ?_
        clear hK K
        refine wpAny_take (i := 7) (v := ?_) rfl (by kernel_rfl) (by kernel_rfl) (by kernel_rfl) (fun _ _ _ h => h) (Or.inl ⟨by kernel_rfl, ?_⟩) ?_
        rotate_left
        · intro w; go_simp; try with_reducible rfl
        refine wpAny_take (i := 8) (v := ?_) rfl (by kernel_rfl) (by kernel_rfl) (by kernel_rfl) (fun _ _ _ h => h) (Or.inl ⟨by kernel_rfl, ?_⟩) ?_
        rotate_left
        · intro w; go_simp; try with_reducible rfl
        refine wpAny_take (i := 9) (v := ?_) rfl (by kernel_rfl) (by kernel_rfl) (by kernel_rfl) (fun _ _ _ h => h) (Or.inl ⟨by kernel_rfl, ?_⟩) ?_
        rotate_left
        · intro w; go_simp; try with_reducible rfl
        refine wpAny_take (i := 10) (v := ?_) rfl (by kernel_rfl) (by kernel_rfl) (by kernel_rfl) (fun _ _ _ h => h) (Or.inl ⟨by kernel_rfl, ?_⟩) ?_
        rotate_left
        · intro w; go_simp; try with_reducible rfl
        refine wpAny_take (i := 11) (v := ?_) rfl (by kernel_rfl) (by kernel_rfl) (by kernel_rfl) (fun _ _ _ h => h) (Or.inl ⟨by kernel_rfl, ?_⟩) ?_
        rotate_left
        · intro w; go_simp; try with_reducible rfl
        refine wpAny_ready (rs := [12]) (by kernel_rfl) (by simp) ?_
        refine AllReady.cons rfl (fun K hK => ?_) AllReady.nil
        go_simp
        refine hK _ _ ?_
        clear hK K
        refine wpAny_ready (rs := [13]) (by kernel_rfl) (by simp) ?_
        refine AllReady.cons rfl (fun K hK => ?_) AllReady.nil
        go_simp
        refine (C2.out _ B5).mono ?_
        rintro e w6 ⟨rfl, hb6⟩
        have N6 := N5.trans (hb6.mono N5.size)
        have T3 := T2.next hb6
        obtain ⟨x30, x31⟩ := T3.cells
        go_wp2_with fail
        refine wpAny_take (i := 14) (v := ?_) rfl (by kernel_rfl) (by kernel_rfl) (by kernel_rfl) (fun _ _ _ h => h) (Or.inl ⟨by kernel_rfl, ?_⟩) ?_
        rotate_left
        · intro w; go_simp; try with_reducible rfl
        refine wpAny_take (i := 15) (v := ?_) rfl (by kernel_rfl) (by kernel_rfl) (by kernel_rfl) (fun _ _ _ h => h) (Or.inl ⟨by kernel_rfl, ?_⟩) ?_
        rotate_left
        · intro w; go_simp; try with_reducible rfl
        refine wpAny_take (i := 16) (v := ?_) rfl (by kernel_rfl) (by kernel_rfl) (by kernel_rfl) (fun _ _ _ h => h) (Or.inl ⟨by kernel_rfl, ?_⟩) ?_
        rotate_left
        · intro w; go_simp; try with_reducible rfl
        refine wpAny_take (i := 17) (v := ?_) rfl (by kernel_rfl) (by kernel_rfl) (by kernel_rfl) (fun _ _ _ h => h) (Or.inl ⟨by kernel_rfl, ?_⟩) ?_
        rotate_left
        · intro w; go_simp; try with_reducible rfl
        refine wpAny_take (i := 18) (v := ?_) rfl (by kernel_rfl) (by kernel_rfl) (by kernel_rfl) (fun _ _ _ h => h) (Or.inl ⟨by kernel_rfl, ?_⟩) ?_
        rotate_left
        · intro w; go_simp; try with_reducible rfl
        refine wpAny_take (i := 19) (v := ?_) rfl (by kernel_rfl) (by kernel_rfl) (by kernel_rfl) (fun _ _ _ h => h) (Or.inl ⟨by kernel_rfl, ?_⟩) ?_
        rotate_left
        · intro w; go_simp; try with_reducible rfl
        refine wpAny_take (i := 20) (v := undef) rfl (by kernel_rfl) (by kernel_rfl) (by kernel_rfl) (fun _ _ _ h => h) (Or.inr ⟨by kernel_rfl, rfl⟩) ?_
        refine wpAny_take (i := 21) (v := undef) rfl (by kernel_rfl) (by kernel_rfl) (by kernel_rfl) (fun _ _ _ h => h) (Or.inr ⟨by kernel_rfl, rfl⟩) ?_
        refine wpAny_take (i := 22) (v := undef) rfl (by kernel_rfl) (by kernel_rfl) (by kernel_rfl) (fun _ _ _ h => h) (Or.inr ⟨by kernel_rfl, rfl⟩) ?_
        refine wpAny_take (i := 23) (v := undef) rfl (by kernel_rfl) (by kernel_rfl) (by kernel_rfl) (fun _ _ _ h => h) (Or.inr ⟨by kernel_rfl, rfl⟩) ?_
        refine wpAny_take (i := 24) (v := undef) rfl (by kernel_rfl) (by kernel_rfl) (by kernel_rfl) (fun _ _ _ h => h) (Or.inr ⟨by kernel_rfl, rfl⟩) ?_
        refine wpAny_take (i := 25) (v := undef) rfl (by kernel_rfl) (by kernel_rfl) (by kernel_rfl) (fun _ _ _ h => h) (Or.inr ⟨by kernel_rfl, rfl⟩) ?_
        refine wpAny_take (i := 26) (v := undef) rfl (by kernel_rfl) (by kernel_rfl) (by kernel_rfl) (fun _ _ _ h => h) (Or.inr ⟨by kernel_rfl, rfl⟩) ?_
        refine wpAny_take (i := 27) (v := undef) rfl (by kernel_rfl) (by kernel_rfl) (by kernel_rfl) (fun _ _ _ h => h) (Or.inr ⟨by kernel_rfl, rfl⟩) ?_
        refine wpAny_take (i := 28) (v := undef) rfl (by kernel_rfl) (by kernel_rfl) (by kernel_rfl) (fun _ _ _ h => h) (Or.inr ⟨by kernel_rfl, rfl⟩) ?_
        refine wpAny_take (i := 29) (v := ?_) rfl (by kernel_rfl) (by kernel_rfl) (by kernel_rfl) (fun _ _ _ h => h) (Or.inl ⟨by kernel_rfl, ?_⟩) ?_
        rotate_left
        · intro w; go_simp; try with_reducible rfl
        refine wpAny_take (i := 30) (v := ?_) rfl (by kernel_rfl) (by kernel_rfl) (by kernel_rfl) (fun _ _ _ h => h) (Or.inl ⟨by kernel_rfl, ?_⟩) ?_
        rotate_left
        · intro w; go_simp; try with_reducible rfl
        refine wpAny_done (by kernel_rfl) ?_ _
        try simp only [Act.put, List.setIfInBounds_toArray, List.set_cons_zero, List.set_cons_succ, List.getElem_toArray, List.getElem_cons_zero, List.getElem_cons_succ]
        go_wp2_with fail
        go_roundw
        case rel => exact ⟨0 + 1, by omega, by go_num, HN, N6⟩
        case measure => simp [intOf]; omega
      · have hu : ts[j]? = some (ts[j]'(by have := HT.out; omega)) := List.getElem?_eq_getElem _
        have HA := gAt_next (ok := namT) (ah := lessN) (by omega) ht hu
        obtain ⟨pa, pn, pc, p0, p1⟩ := HC.out j _ hu
        generalize ts[j]'(by have := HT.out; omega) = u at hu HA p0 p1
        obtain ⟨r, g'⟩ := u
        simp only at p0 p1
        rw [hq.out] at HA
        cases ha : lessN (r, g') (s, g)
        · have HR2 : gAt namT lessN ts (j + 1) = false := by rw [HA, ha]; rfl
          have HR : Hid (dataOk ts = false) := Lib.hid (by rw [HG.out]; exact gUpto_no (HR2) (by have := HT.out; omega))
          have hl : Op.bytesLess r.toList s.toList = false := ha
          clear ht hu HA ha HR2 q1 q5 q8
          go_wp2_with fail
          obtain ⟨x10, x11⟩ := T0.cells
          have hj1 : ((j + 1 : Nat) : Int) - 1 = (j : Int) := by omega
          have hj2 : IntKind.i64.wrap (((j + 1 : Nat) : Int) - 1) = (j : Int) := by rw [hj1]; exact IntWalk.i64_in _ (by omega)
          have hjl : j < len := by omega
          have hj6 : (0 : Int) ≤ (j : Int) := by omega
          have hj7 : (j : Int) < (len : Int) := by omega
          have hj8 : IntKind.i64.wrap (j : Int) = (j : Int) := IntWalk.i64_in _ (by omega)
          have hj4 : (j : Int) + 1 - 1 = (j : Int) := by omega
          have hj5 : IntKind.i64.wrap ((j : Int) + 1 - 1) = (j : Int) := by rw [hj4]; exact IntWalk.i64_in _ (by omega)
          have hj3 : decide ((0 : Int) < ((j + 1 : Nat) : Int)) = true := by rw [decide_eq_true_eq]; omega
          go_region_held3 (fun w' => w'.cell? ⟨wr.heap.size, 0, none⟩ = some (.string s) ∧ w'.cell? ⟨wr.heap.size, 1, none⟩ = some (.slice ga gn gc) ∧ w'.cell? ⟨b, off + j * 2, none⟩ = some (.string r))
            (first | go_keep | (go_split_ands; refine ⟨?_, ?_, ?_⟩ <;> assumption) | (go_split_ands; refine ⟨?_, ?_, ?_⟩ <;> (rw [hb5.cell (by first | (simp; done) | exact World.block_lt_of_cell? _ _ (by assumption))]; assumption)) | (go_split_ands; refine ⟨?_, ?_, ?_⟩ <;> (rw [hb6.cell (by first | (simp; done) | exact World.block_lt_of_cell? _ _ (by assumption))]; assumption)))
            (first
              | (go_at_call 65; refine (C1.out _).mono ?_; rintro e w5 ⟨rfl, hb5⟩; have B5 := (BW.drew).trans (hb5.mono BW.size); have N5 := hnx2.trans (hb5.mono hnx2.size))
              | (go_at_call 14; refine (C2.out _ B5).mono ?_; rintro e w6 ⟨rfl, hb6⟩; have N6 := N5.trans (hb6.mono N5.size)))
          go_wp2_with fail
          go_ret
          exact ⟨by rw [HR.out]; rfl, N6⟩
        · have HN : Hid (gUpto namT lessN ts (j + 1 + 1) = true) := Lib.hid (by rw [gUpto_succ, hok.out, HA, ha]; rfl)
          have hl : Op.bytesLess r.toList s.toList = true := ha
          clear ht hu HA ha q1 q5 q8
          go_wp2_with fail
          obtain ⟨x10, x11⟩ := T0.cells
          have hj1 : ((j + 1 : Nat) : Int) - 1 = (j : Int) := by omega
          have hj2 : IntKind.i64.wrap (((j + 1 : Nat) : Int) - 1) = (j : Int) := by rw [hj1]; exact IntWalk.i64_in _ (by omega)
          have hjl : j < len := by omega
          have hj6 : (0 : Int) ≤ (j : Int) := by omega
          have hj7 : (j : Int) < (len : Int) := by omega
          have hj8 : IntKind.i64.wrap (j : Int) = (j : Int) := IntWalk.i64_in _ (by omega)
          have hj4 : (j : Int) + 1 - 1 = (j : Int) := by omega
          have hj5 : IntKind.i64.wrap ((j : Int) + 1 - 1) = (j : Int) := by rw [hj4]; exact IntWalk.i64_in _ (by omega)
          have hj3 : decide ((0 : Int) < ((j + 1 : Nat) : Int)) = true := by rw [decide_eq_true_eq]; omega
          go_region_held3 (fun w' => w'.cell? ⟨wr.heap.size, 0, none⟩ = some (.string s) ∧ w'.cell? ⟨wr.heap.size, 1, none⟩ = some (.slice ga gn gc) ∧ w'.cell? ⟨b, off + j * 2, none⟩ = some (.string r))
            (first | go_keep | (go_split_ands; refine ⟨?_, ?_, ?_⟩ <;> assumption) | (go_split_ands; refine ⟨?_, ?_, ?_⟩ <;> (rw [hb5.cell (by first | (simp; done) | exact World.block_lt_of_cell? _ _ (by assumption))]; assumption)) | (go_split_ands; refine ⟨?_, ?_, ?_⟩ <;> (rw [hb6.cell (by first | (simp; done) | exact World.block_lt_of_cell? _ _ (by assumption))]; assumption)))
            (first
              | (go_at_call 65; refine (C1.out _).mono ?_; rintro e w5 ⟨rfl, hb5⟩; have B5 := (BW.drew).trans (hb5.mono BW.size); have N5 := hnx2.trans (hb5.mono hnx2.size))
              | (go_at_call 14; refine (C2.out _ B5).mono ?_; rintro e w6 ⟨rfl, hb6⟩; have N6 := N5.trans (hb6.mono N5.size)))
          go_wp2_with fail
          go_roundw
          case rel => exact ⟨j + 1 + 1, by omega, by go_num, HN, N6⟩
          case measure => simp [intOf]; omega
    · obtain rfl : k = len := by omega
      have hall : Hid (gUpto namT lessN ts ts.length = true) := Lib.hid (by have := hok.out; rwa [← HT.out] at this)
      go_wp2_with fail
      go_ret
      exact ⟨by rw [HG.out, hall.out]; rfl, hnx⟩
end Go.Proofs.Ythnpchcfjkepaaa
