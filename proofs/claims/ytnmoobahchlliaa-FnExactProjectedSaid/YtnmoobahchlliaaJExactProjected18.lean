/- A map from texts to values of the program's own (rows): what it holds; a store and a look. -/
import Derived.Test.YtnmoobahchlliaaJExactProjected17
namespace Go.Proofs.Ytnmoobahchlliaa
open Go.Maps
/-- One more: the value at the text is told anew where the text is there. -/
def addV (kvs : List (Txt × Value)) (t : Txt) (v : Value) : List (Txt × Value) :=
  if t ∈ kvs.map Prod.fst then kvs.map (fun p => if p.1 = t then (t, v) else p) else kvs ++ [(t, v)]
theorem addV_keys (kvs : List (Txt × Value)) (t : Txt) (v : Value) : (addV kvs t v).map Prod.fst = addS (kvs.map Prod.fst) t := by
  unfold addV addS
  split
  · rw [List.map_map]
    apply List.map_congr_left
    intro p _
    by_cases e : p.1 = t
    · simp [e]
    · simp [e]
  · simp
theorem addV_mem {kvs : List (Txt × Value)} {t : Txt} {v : Value} {p : Txt × Value} (h : p ∈ addV kvs t v) : p = (t, v) ∨ (p.1 ≠ t ∧ p ∈ kvs) := by
  unfold addV at h
  split at h
  · obtain ⟨q, hq, rfl⟩ := List.mem_map.1 h
    by_cases e : q.1 = t
    · left; simp [e]
    · right; simp [e, hq]
  · rename_i hn
    rcases List.mem_append.1 h with h | h
    · right
      exact ⟨fun e => hn (List.mem_map.2 ⟨p, h, e⟩), h⟩
    · left; simpa using h
/-- A map's datum is just these texts, each with its value. -/
structure MapOfV (D : DataW Value) (kvs : List (Txt × Value)) : Prop where
  nodup : (kvs.map Prod.fst).Nodup
  has : ∀ kl, Maps.has D kl = true ↔ ∃ t ∈ kvs.map Prod.fst, kl = litS t
  size : Maps.size D = kvs.length
  val : ∀ p ∈ kvs, ∀ z, D.atKey (litS p.1) z = .held p.2
section
variable {D : DataW Value} {kvs : List (Txt × Value)}
theorem MapOfV.empty : MapOfV (.map [] : DataW Value) [] := ⟨List.nodup_nil, fun kl => by simp [has_eq], rfl, by simp⟩
theorem MapOfV.mem (h : MapOfV D kvs) (t : Txt) : Maps.has D (litS t) = decide (t ∈ kvs.map Prod.fst) := by
  rw [Bool.eq_iff_iff, h.has, decide_eq_true_eq]
  exact ⟨fun ⟨u, hu, e⟩ => by rw [litS_inj e]; exact hu, fun g => ⟨t, g, rfl⟩⟩
theorem MapOfV.put (h : MapOfV D kvs) (hT : Tidy D) (t : Txt) (v : Value) : MapOfV (D.put (litS t) (.held v)) (addV kvs t v) := by
  have hm := h.mem t
  have hkk := addV_keys kvs t v
  have hhas : ∀ kl, Maps.has (D.put (litS t) (.held v)) kl = true ↔ ∃ u ∈ (addV kvs t v).map Prod.fst, kl = litS u := by
    intro kl
    rw [hkk]
    by_cases e : kl = litS t
    · subst e
      exact ⟨fun _ => ⟨t, addS_mem.2 (.inr rfl), rfl⟩, fun _ => has_put_same hT.isMap (litS_key t) _⟩
    · rw [has_put_other e, h.has]
      exact ⟨fun ⟨u, hu, hk⟩ => ⟨u, addS_mem.2 (.inl hu), hk⟩, fun ⟨u, hu, hk⟩ => by
        rcases addS_mem.1 hu with hu | rfl
        · exact ⟨u, hu, hk⟩
        · exact absurd hk e⟩
  have hval : ∀ p ∈ addV kvs t v, ∀ z, (D.put (litS t) (.held v)).atKey (litS p.1) z = .held p.2 := by
    intro p hp z
    rcases addV_mem hp with rfl | ⟨hne, hp⟩
    · exact atKey_put_same hT.isMap (litS_key t) _ _
    · rw [atKey_put_other (fun e => hne (litS_inj e))]
      exact h.val p hp z
  refine ⟨?_, hhas, ?_, hval⟩
  · rw [hkk]
    unfold addS
    split
    · exact h.nodup
    · rename_i hn
      exact List.nodup_append.2 ⟨h.nodup, by simp, fun a ha b hb => by simp at hb; subst hb; exact fun e => hn (e ▸ ha)⟩
  · rw [size_put hT, hm]
    unfold addV
    by_cases g : t ∈ kvs.map Prod.fst
    · rw [if_pos g, List.length_map, h.size]; simp [g]
    · rw [if_neg g, List.length_append, h.size]; simp [g]
end
open Go.RowKit Go.Maps
/-- Each value told by itself. -/
def valR (v : Value) : Option (DataW Value × List MemPlace) := some (.held v, [])
/-- Block b is a map of at most n entries that has just these texts, each with its value. -/
def OwnMapV (w : World) (b n : Nat) (kvs : List (Txt × Value)) : Prop := ∃ D : DataW Value, w.ownsMap Try.prog 9 valR b n D ∧ MapOfV D kvs
theorem OwnMapV.lt {w : World} {b n : Nat} {kvs : List (Txt × Value)} (h : OwnMapV w b n kvs) : b < w.heap.size := by obtain ⟨D, h, _⟩ := h; exact h.lt
theorem OwnMapV.kept {w w' : World} {b n : Nat} {kvs : List (Txt × Value)} {row : Option Nat} (h : OwnMapV w b n kvs) (hg : w.grownBy w' row) (hne : some b ≠ row) : OwnMapV w' b n kvs := by
  obtain ⟨D, h, hD⟩ := h
  exact ⟨D, h.kept hg hne, hD⟩
theorem OwnMapV.next {w w' : World} {b n : Nat} {kvs : List (Txt × Value)} (h : OwnMapV w b n kvs) (hb : Below w.heap.size w w') : OwnMapV w' b n kvs := h.kept (grown_of_below hb) (by simp)
theorem OwnMapV.alloc {w : World} {b n : Nat} {kvs : List (Txt × Value)} (h : OwnMapV w b n kvs) (o : Obj) : OwnMapV (w.alloc o) b n kvs := h.kept (World.grownBy_alloc w o none) (by simp)
theorem OwnMapV.drew {w : World} {b n : Nat} {kvs : List (Txt × Value)} (h : OwnMapV w b n kvs) : OwnMapV w.drew b n kvs := h
theorem OwnMapV.nodup {w : World} {b n : Nat} {kvs : List (Txt × Value)} (h : OwnMapV w b n kvs) : (kvs.map Prod.fst).Nodup := by obtain ⟨D, _, h⟩ := h; exact h.nodup
theorem OwnMapV.made (w : World) : OwnMapV (w.alloc (.map #[] 0)) w.heap.size 0 [] := ⟨_, World.ownsMap_made _ _ _ _, MapOfV.empty⟩
theorem OwnMapV.mono {w : World} {b n n' : Nat} {kvs : List (Txt × Value)} (h : OwnMapV w b n kvs) (hn : n ≤ n') : OwnMapV w b n' kvs := by
  obtain ⟨D, h, hD⟩ := h
  exact ⟨D, h.mono hn, hD⟩
section
variable (w : World) {ops : Array Oper} {rest : List Oper} {o : Oper} {a : Act} {Q : Exit → Act → World → Prop}
/-- A store of a row at a text. -/
theorem wpList_putV (hg : o.guard = none) (m x v : Operand) (hop : o.op = Op.mapUpdate 65 m x v) (b n : Nat) (kvs : List (Txt × Value)) (hm : a.eval m = .map (some b)) (h : OwnMapV w b n kvs) (hn : n < maxLen) (t : ByteArray) (ht : t.size ≤ maxLen)
    (hx : a.eval x = .string t) (u : Value) (hv : a.eval v = u) (hK : ∀ w', OwnMapV w' b (n + 1) (addV kvs t.data.toList u) → w.grownBy w' (some b) → wpList Try.prog ops Q rest (a.put o.dst undef) w') : wpList Try.prog ops Q (o :: rest) a w := by
  obtain ⟨D, hown, hD⟩ := h
  exact wpList_mapUpdate_own w hg m x v _ hop _ 56 lawTxt Try.underlying65 valR b n D hm hown hn _ u (litS t.data.toList) hx hv (Go.WideMaps.keyOf_string_mk Try.underlying9 ht) _ [] rfl (fun w' h1 h2 => hK w' ⟨_, h1, hD.put (hown.tidy lawTxt) _ u⟩ h2)
/-- What stands at a text that is there. -/
theorem wpList_lookV (hg : o.guard = none) (m x : Operand) (hop : o.op = Op.lookup 65 m x false) (b n : Nat) (kvs : List (Txt × Value)) (hm : a.eval m = .map (some b)) (h : OwnMapV w b n kvs) (t : ByteArray) (ht : t.size ≤ maxLen)
    (u : Value) (hu : (t.data.toList, u) ∈ kvs) (hx : a.eval x = .string t) (hz : (zeroValue 56).run Try.prog w = .ok (.slice none 0 0) w) (hK : wpList Try.prog ops Q rest (a.put o.dst u) w) : wpList Try.prog ops Q (o :: rest) a w := by
  obtain ⟨D, hown, hD⟩ := h
  refine wpList_plain hg fun K' hK' => ?_
  obtain ⟨v, ps, hrun, hv⟩ := hown.lookup lawTxt Try.underlying65 hz (rfl : valR (.slice none 0 0) = some (.held (.slice none 0 0), [])) (Go.WideMaps.keyOf_string_mk Try.underlying9 ht)
  have hl := hD.val _ hu (.held (.slice none 0 0))
  unfold litS at hl
  rw [hl] at hv
  unfold valR at hv
  simp only [Option.some.injEq, Prod.mk.injEq, DataW.held.injEq] at hv
  obtain ⟨rfl, _⟩ := hv
  unfold Oper.wp
  simp [execOp, hop, hm, hx, hrun, Result.andThen]
  exact hK' _ _ hK
end
end Go.Proofs.Ytnmoobahchlliaa
/- The program's own store of rows by their texts. -/
namespace Go.Proofs.Ytnmoobahchlliaa
open Go.Maps Go.RowKit Go.WideShapes
theorem cell_map {w : World} {b : Nat} {es : Array MapEntry} {c : Nat} (hb : w.heap[b]? = some (.map es c)) {a : Addr} {v : Value} (h : w.cell? a = some v) : some a.block ≠ some b := by
  intro e
  simp only [Option.some.injEq] at e
  simp [World.cell?, e, hb] at h
theorem OwnMapV.isMap {w : World} {b n : Nat} {kvs : List (Txt × Value)} (h : OwnMapV w b n kvs) : ∃ es c, w.heap[b]? = some (.map es c) := by
  obtain ⟨D, ⟨es, c, hb, _⟩, _⟩ := h
  exact ⟨es, c, hb⟩
theorem OwnSetS.isMap {w : World} {b n : Nat} {ts : List Txt} (h : OwnSetS w b n ts) : ∃ es c, w.heap[b]? = some (.map es c) := by
  obtain ⟨D, ⟨es, c, hb, _⟩, _⟩ := h
  exact ⟨es, c, hb⟩
theorem IsPres.past {w w' : World} {b : Nat} {a : Option Addr} {len cap : Nat} {ts : List Pre2} (h : IsPres w a len cap ts) (hg : w.grownBy w' (some b)) (hb : ∃ es c, w.heap[b]? = some (.map es c)) : IsPres w' a len cap ts := by
  obtain ⟨es, c, hb⟩ := hb
  rcases h with h | ⟨x, rfl, h1, h2, h3, h4⟩
  · exact .inl h
  · refine .inr ⟨x, rfl, h1, h2, h3, fun i t hi => ?_⟩
    obtain ⟨c0, c1, w0, w1⟩ := h4 i t hi
    exact ⟨hg.cell c0 (cell_map hb c0), hg.cell c1 (cell_map hb c1), w0, w1⟩
theorem IsRows.past {w w' : World} {b : Nat} {a : Option Addr} {len cap : Nat} {rs : List RowV} (h : IsRows w a len cap rs) (hg : w.grownBy w' (some b)) (hb : ∃ es c, w.heap[b]? = some (.map es c)) : IsRows w' a len cap rs := by
  have hb' := hb
  obtain ⟨es, c, hb⟩ := hb
  rcases h with h | ⟨x, rfl, h1, h2, h3, h4⟩
  · exact .inl h
  · refine .inr ⟨x, rfl, h1, h2, h3, fun i r hi => ?_⟩
    obtain ⟨a', n, c', c0, hp⟩ := h4 i r hi
    exact ⟨a', n, c', hg.cell c0 (cell_map hb c0), hp.past hg hb'⟩
/-- The handle of a slice that holds this row. -/
def RowIn (w : World) (u : Value) (r : RowV) : Prop := ∃ a n c, u = .slice a n c ∧ IsPres w a n c r
theorem RowIn.past {w w' : World} {b : Nat} {u : Value} {r : RowV} (h : RowIn w u r) (hg : w.grownBy w' (some b)) (hb : ∃ es c, w.heap[b]? = some (.map es c)) : RowIn w' u r := by
  obtain ⟨a, n, c, e, h⟩ := h
  exact ⟨a, n, c, e, h.past hg hb⟩
/-- Rows put one behind the other, each by its text. -/
def putV (kvs : List (Txt × Value)) : List RowV → List Value → List (Txt × Value)
  | r :: rs, u :: us => putV (addV kvs (rowTextL r) u) rs us
  | _, _ => kvs
theorem putV_snoc (r : RowV) (u : Value) : ∀ (rs : List RowV) (us : List Value) (kvs : List (Txt × Value)), us.length = rs.length → putV kvs (rs ++ [r]) (us ++ [u]) = addV (putV kvs rs us) (rowTextL r) u
  | [], [], _, _ => rfl
  | [], _ :: _, _, h => by simp at h
  | _ :: _, [], _, h => by simp at h
  | s :: rs, v :: us, kvs, h => putV_snoc r u rs us _ (by simpa using h)
def LongR (rs : List RowV) : Prop := ∀ r ∈ rs, (rowTextL r).length ≤ 140737488355328
set_option maxRecDepth 100000 in
set_option maxHeartbeats 1600000 in
theorem implPut (b n : Nat) (kvs : List (Txt × Value)) (a : Option Addr) (len cap : Nat) (rs : List RowV) (w : World) (hm : OwnMapV w b n kvs) (h : IsRows w a len cap rs) (hL : LongR rs) (hn : n + len < maxLen) :
    Calls Try.prog 39 #[.map (some b), .slice a len cap] w fun e w' => e = .returned (.tuple #[]) ∧ (∃ us : List Value, us.length = rs.length ∧ (∀ (i : Nat) (u : Value) (r : RowV), us[i]? = some u → rs[i]? = some r → RowIn w' u r) ∧ OwnMapV w' b (n + len) (putV kvs rs us)) ∧ w.grownBy w' (some b) := by
  have hlen : len ≤ 9223372036854775807 := h.maxl
  have HI := Lib.hid h
  have HT := Lib.hid h.len
  have HLL := Lib.hid hL
  have HB := Lib.hid hm.isMap
  have HM := Lib.hid hm
  clear h hL hm
  go_enter Try.func39, Try.ntmps39
  go_wp2_with fail
  go_loopw [8] (fun i wr => ∃ k : Nat, k ≤ len ∧ i = .int .i64 k ∧ (∃ us : List Value, Hid (us.length = k ∧ (∀ (i : Nat) (u : Value) (r : RowV), us[i]? = some u → rs[i]? = some r → RowIn wr u r) ∧ OwnMapV wr b (n + k) (putV kvs (rs.take k) us))) ∧ w.grownBy wr (some b)) (fun i _ => len - (intOf i).toNat)
  case atStart => exact ⟨0, Nat.zero_le _, rfl, ⟨[], Lib.hid ⟨rfl, by simp, by simpa [putV] using HM.out⟩⟩, World.grownBy.refl _ _⟩
  case round =>
    obtain ⟨k, hk, rfl, ⟨us, HU⟩, hnx⟩ := hrel
    by_cases hlt : k < len
    · obtain ⟨x, off, rfl, hx, _, _, hts, hc⟩ := (HI.out.past hnx HB.out).cells (by omega)
      have ht : rs[k]? = some rs[k] := List.getElem?_eq_getElem (by omega)
      have HK : Hid (rs.take (k + 1) = rs.take k ++ [rs[k]]) := Lib.hid (List.take_succ_eq_append_getElem (by omega))
      obtain ⟨a1, n1, k1, c0, hz1⟩ := hc k _ ht
      have hzl := HLL.out _ (List.getElem_mem (by omega : k < rs.length))
      have HR := Lib.hid ht
      generalize rs[k] = r at hz1 hzl HK HR
      have E := Lib.hid (fun W (h : Below wr.heap.size wr W) => implRowText a1 n1 k1 r W (hz1.next h) hzl)
      have HZ := Lib.hid hz1
      clear ht hts hc hz1
      go_wp2_with fail
      refine (E.out _ (by first | exact Below.refl _ _ | exact Below.drew (Below.refl _ _))).mono ?_
      rintro e w2 ⟨rfl, hb2⟩
      have HB2 := Lib.hid hb2
      have G2 := hnx.trans ((grown_of_below hb2).but (some b))
      obtain ⟨hu1, hu2, hu3⟩ := HU.out
      have O2 := hu3.next hb2
      have htz : (bs (rowTextL r)).size ≤ maxLen := by rw [bs_size]; unfold maxLen; omega
      have hnk : n + k < maxLen := by omega
      have HTT : Hid ((bs (rowTextL r)).data.toList = rowTextL r) := Lib.hid (bs_toList _)
      obtain ⟨t, hbt⟩ : ∃ t, bs (rowTextL r) = t := ⟨_, rfl⟩
      rw [hbt] at htz HTT ⊢
      clear hb2 c0 E hbt hnx hzl
      go_wp2_with (at_mapUpdate; refine wpList_putV _ rfl _ _ _ rfl b (n + k) (putV kvs (rs.take k) us) rfl O2 hnk t htz rfl _ rfl ?_)
      intro w3 O3 hg3
      have G3 := G2.trans hg3
      have HN : Hid ((us ++ [Value.slice a1 n1 k1]).length = k + 1 ∧ (∀ (i : Nat) (u : Value) (r : RowV), (us ++ [Value.slice a1 n1 k1])[i]? = some u → rs[i]? = some r → RowIn w3 u r) ∧ OwnMapV w3 b (n + (k + 1)) (putV kvs (rs.take (k + 1)) (us ++ [Value.slice a1 n1 k1]))) := Lib.hid ⟨by simp [hu1], fun i u s hu hs => by
        have G : wr.grownBy w3 (some b) := ((grown_of_below HB2.out).but (some b)).trans hg3
        rcases Nat.lt_or_ge i k with g | g
        · rw [List.getElem?_append_left (by omega)] at hu
          exact (hu2 i u s hu hs).past G hu3.isMap
        · obtain rfl : i = k := by have := (List.getElem?_eq_some_iff.1 hu).1; simp [hu1] at this; omega
          rw [List.getElem?_append_right (by omega), hu1] at hu
          rw [HR.out] at hs
          simp at hu hs
          subst hu hs
          exact ⟨a1, n1, k1, rfl, HZ.out.past G hu3.isMap⟩, by
        rw [HK.out, putV_snoc r _ _ _ _ (by rw [hu1, List.length_take, HT.out]; omega), ← HTT.out]
        exact O3⟩
      clear O2 O3 hg3 G2 HU hu1 hu2 hu3 HB2 HZ HR HK HTT htz hnk
      go_wp2_with fail
      go_roundw
      case rel => exact ⟨k + 1, by omega, by go_num, ⟨_, HN⟩, G3⟩
      case measure => simp [intOf]; omega
    · have hkl : k = len := by omega
      have HF : Hid (us.length = rs.length ∧ (∀ (i : Nat) (u : Value) (r : RowV), us[i]? = some u → rs[i]? = some r → RowIn wr u r) ∧ OwnMapV wr b (n + len) (putV kvs rs us)) := Lib.hid (by
        have h1 := HU.out
        rw [List.take_of_length_le (by rw [HT.out]; omega), hkl] at h1
        rw [HT.out]
        exact h1)
      clear HU
      clear hkl
      go_wp2_with fail
      go_end0
      exact ⟨rfl, ⟨us, HF.out⟩, hnx⟩
end Go.Proofs.Ytnmoobahchlliaa
