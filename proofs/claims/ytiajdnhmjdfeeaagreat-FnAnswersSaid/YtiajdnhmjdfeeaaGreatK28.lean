/- The program's own store of rows by their texts.; What a row keeps of the variables asked for: the program's own.; Rows that rise by their texts, with one more: plain facts. -/
import Derived.Test.YtiajdnhmjdfeeaaGreatK27
import Derived.Maps.OwnOps
namespace Go.Proofs.YtiajdnhmjdfeeaaGreat
open Go.Maps Go.RowKit Go.WideShapes
theorem cell_map {w : World} {b : Nat} {es : Array MapEntry} {c : Nat} (hb : w.heap[b]? = some (.map es c)) {a : Addr} {v : Value} (h : w.cell? a = some v) : some a.block ≠ some b := by
  intro e
  simp only [Option.some.injEq] at e
  simp [World.cell?, e, hb] at h
theorem OwnMapV.isMap {w : World} {b n : Nat} {kvs : List (Txt × Value)} (h : OwnMapV w b n kvs) : ∃ es c, w.heap[b]? = some (.map es c) := by
  obtain ⟨D, ⟨es, c, hb, _⟩, _⟩ := h
  exact ⟨es, c, hb⟩
theorem OwnSetS.isMap {w : World} {b n : Nat} {ts : List Txt} (h : OwnSetS w b n ts) : ∃ es c, w.heap[b]? = some (.map es c) := by
  obtain ⟨D, ⟨es, c, hb, _⟩, _⟩ := h
  exact ⟨es, c, hb⟩
theorem IsPres.past {w w' : World} {b : Nat} {a : Option Addr} {len cap : Nat} {ts : List Pre2} (h : IsPres w a len cap ts) (hg : w.grownBy w' (some b)) (hb : ∃ es c, w.heap[b]? = some (.map es c)) : IsPres w' a len cap ts := by
  obtain ⟨es, c, hb⟩ := hb
  rcases h with h | ⟨x, rfl, h1, h2, h3, h4⟩
  · exact .inl h
  · refine .inr ⟨x, rfl, h1, h2, h3, fun i t hi => ?_⟩
    obtain ⟨c0, c1, w0, w1⟩ := h4 i t hi
    exact ⟨hg.cell c0 (cell_map hb c0), hg.cell c1 (cell_map hb c1), w0, w1⟩
theorem IsRows.past {w w' : World} {b : Nat} {a : Option Addr} {len cap : Nat} {rs : List RowV} (h : IsRows w a len cap rs) (hg : w.grownBy w' (some b)) (hb : ∃ es c, w.heap[b]? = some (.map es c)) : IsRows w' a len cap rs := by
  have hb' := hb
  obtain ⟨es, c, hb⟩ := hb
  rcases h with h | ⟨x, rfl, h1, h2, h3, h4⟩
  · exact .inl h
  · refine .inr ⟨x, rfl, h1, h2, h3, fun i r hi => ?_⟩
    obtain ⟨a', n, c', c0, hp⟩ := h4 i r hi
    exact ⟨a', n, c', hg.cell c0 (cell_map hb c0), hp.past hg hb'⟩
/-- The handle of a slice that holds this row. -/
def RowIn (w : World) (u : Value) (r : RowV) : Prop := ∃ a n c, u = .slice a n c ∧ IsPres w a n c r
theorem RowIn.past {w w' : World} {b : Nat} {u : Value} {r : RowV} (h : RowIn w u r) (hg : w.grownBy w' (some b)) (hb : ∃ es c, w.heap[b]? = some (.map es c)) : RowIn w' u r := by
  obtain ⟨a, n, c, e, h⟩ := h
  exact ⟨a, n, c, e, h.past hg hb⟩
/-- Rows put one behind the other, each by its text. -/
def putV (kvs : List (Txt × Value)) : List RowV → List Value → List (Txt × Value)
  | r :: rs, u :: us => putV (addV kvs (rowTextL r) u) rs us
  | _, _ => kvs
theorem putV_snoc (r : RowV) (u : Value) : ∀ (rs : List RowV) (us : List Value) (kvs : List (Txt × Value)), us.length = rs.length → putV kvs (rs ++ [r]) (us ++ [u]) = addV (putV kvs rs us) (rowTextL r) u
  | [], [], _, _ => rfl
  | [], _ :: _, _, h => by simp at h
  | _ :: _, [], _, h => by simp at h
  | s :: rs, v :: us, kvs, h => putV_snoc r u rs us _ (by simpa using h)
def LongR (rs : List RowV) : Prop := ∀ r ∈ rs, (rowTextL r).length ≤ 140737488355328
set_option maxRecDepth 100000 in
set_option maxHeartbeats 1600000 in
theorem implPut (b n : Nat) (kvs : List (Txt × Value)) (a : Option Addr) (len cap : Nat) (rs : List RowV) (w : World) (hm : OwnMapV w b n kvs) (h : IsRows w a len cap rs) (hL : LongR rs) (hn : n + len < maxLen) :
    Calls Tryz.prog 76 #[.map (some b), .slice a len cap] w fun e w' => e = .returned (.tuple #[]) ∧ (∃ us : List Value, us.length = rs.length ∧ (∀ (i : Nat) (u : Value) (r : RowV), us[i]? = some u → rs[i]? = some r → RowIn w' u r) ∧ OwnMapV w' b (n + len) (putV kvs rs us)) ∧ w.grownBy w' (some b) := by
  have hlen : len ≤ 9223372036854775807 := h.maxl
  have HI := Lib.hid h
  have HT := Lib.hid h.len
  have HLL := Lib.hid hL
  have HB := Lib.hid hm.isMap
  have HM := Lib.hid hm
  clear h hL hm
  go_enter Tryz.func76, Tryz.ntmps76
  go_wp2_with fail
  go_loopw [8] (fun i wr => ∃ k : Nat, k ≤ len ∧ i = .int .i64 k ∧ (∃ us : List Value, Hid (us.length = k ∧ (∀ (i : Nat) (u : Value) (r : RowV), us[i]? = some u → rs[i]? = some r → RowIn wr u r) ∧ OwnMapV wr b (n + k) (putV kvs (rs.take k) us))) ∧ w.grownBy wr (some b)) (fun i _ => len - (intOf i).toNat)
  case atStart => exact ⟨0, Nat.zero_le _, rfl, ⟨[], Lib.hid ⟨rfl, by simp, by simpa [putV] using HM.out⟩⟩, World.grownBy.refl _ _⟩
  case round =>
    obtain ⟨k, hk, rfl, ⟨us, HU⟩, hnx⟩ := hrel
    by_cases hlt : k < len
    · obtain ⟨x, off, rfl, hx, _, _, hts, hc⟩ := (HI.out.past hnx HB.out).cells (by omega)
      have ht : rs[k]? = some rs[k] := List.getElem?_eq_getElem (by omega)
      have HK : Hid (rs.take (k + 1) = rs.take k ++ [rs[k]]) := Lib.hid (List.take_succ_eq_append_getElem (by omega))
      obtain ⟨a1, n1, k1, c0, hz1⟩ := hc k _ ht
      have hzl := HLL.out _ (List.getElem_mem (by omega : k < rs.length))
      have HR := Lib.hid ht
      generalize rs[k] = r at hz1 hzl HK HR
      have E := Lib.hid (fun W (h : Below wr.heap.size wr W) => implRowText a1 n1 k1 r W (hz1.next h) hzl)
      have HZ := Lib.hid hz1
      clear ht hts hc hz1
      go_wp2_with fail
      refine (E.out _ (by first | exact Below.refl _ _ | exact Below.drew (Below.refl _ _))).mono ?_
      rintro e w2 ⟨rfl, hb2⟩
      have HB2 := Lib.hid hb2
      have G2 := hnx.trans ((grown_of_below hb2).but (some b))
      obtain ⟨hu1, hu2, hu3⟩ := HU.out
      have O2 := hu3.next hb2
      have htz : (bs (rowTextL r)).size ≤ maxLen := by rw [bs_size]; unfold maxLen; omega
      have hnk : n + k < maxLen := by omega
      have HTT : Hid ((bs (rowTextL r)).data.toList = rowTextL r) := Lib.hid (bs_toList _)
      obtain ⟨t, hbt⟩ : ∃ t, bs (rowTextL r) = t := ⟨_, rfl⟩
      rw [hbt] at htz HTT ⊢
      clear hb2 c0 E hbt hnx hzl
      go_wp2_with (at_mapUpdate; refine wpList_putV _ rfl _ _ _ rfl b (n + k) (putV kvs (rs.take k) us) rfl O2 hnk t htz rfl _ rfl ?_)
      intro w3 O3 hg3
      have G3 := G2.trans hg3
      have HN : Hid ((us ++ [Value.slice a1 n1 k1]).length = k + 1 ∧ (∀ (i : Nat) (u : Value) (r : RowV), (us ++ [Value.slice a1 n1 k1])[i]? = some u → rs[i]? = some r → RowIn w3 u r) ∧ OwnMapV w3 b (n + (k + 1)) (putV kvs (rs.take (k + 1)) (us ++ [Value.slice a1 n1 k1]))) := Lib.hid ⟨by simp [hu1], fun i u s hu hs => by
        have G : wr.grownBy w3 (some b) := ((grown_of_below HB2.out).but (some b)).trans hg3
        rcases Nat.lt_or_ge i k with g | g
        · rw [List.getElem?_append_left (by omega)] at hu
          exact (hu2 i u s hu hs).past G hu3.isMap
        · obtain rfl : i = k := by have := (List.getElem?_eq_some_iff.1 hu).1; simp [hu1] at this; omega
          rw [List.getElem?_append_right (by omega), hu1] at hu
          rw [HR.out] at hs
          simp at hu hs
          subst hu hs
          exact ⟨a1, n1, k1, rfl, HZ.out.past G hu3.isMap⟩, by
        rw [HK.out, putV_snoc r _ _ _ _ (by rw [hu1, List.length_take, HT.out]; omega), ← HTT.out]
        exact O3⟩
      clear O2 O3 hg3 G2 HU hu1 hu2 hu3 HB2 HZ HR HK HTT htz hnk
      go_wp2_with fail
      go_roundw
      case rel => exact ⟨k + 1, by omega, by go_num, ⟨_, HN⟩, G3⟩
      case measure => simp [intOf]; omega
    · have hkl : k = len := by omega
      have HF : Hid (us.length = rs.length ∧ (∀ (i : Nat) (u : Value) (r : RowV), us[i]? = some u → rs[i]? = some r → RowIn wr u r) ∧ OwnMapV wr b (n + len) (putV kvs rs us)) := Lib.hid (by
        have h1 := HU.out
        rw [List.take_of_length_le (by rw [HT.out]; omega), hkl] at h1
        rw [HT.out]
        exact h1)
      clear HU
      clear hkl
      go_wp2_with fail
      go_end0
      exact ⟨rfl, ⟨us, HF.out⟩, hnx⟩
end Go.Proofs.YtiajdnhmjdfeeaaGreat
namespace Go.Proofs.YtiajdnhmjdfeeaaGreat
open Go.Maps Go.RowKit Go.WideShapes
/-- What the row has at these names. -/
def keepL (names : List Txt) (ts : RowV) : RowV := ts.filter fun t => decide (t.1.data.toList ∈ names)
theorem keepL_snoc (names : List Txt) (ts : RowV) (t : Pre2) : keepL names (ts ++ [t]) = if t.1.data.toList ∈ names then keepL names ts ++ [t] else keepL names ts := by
  unfold keepL
  rw [List.filter_append]
  by_cases h : t.1.data.toList ∈ names
  · simp [h]
  · simp [h]
theorem keepL_len (names : List Txt) (ts : RowV) : (keepL names ts).length ≤ ts.length := List.length_filter_le ..
theorem own_snocP {B : Nat} {w : World} {v : Value} {ts : List Pre2} {p : Pre2} (h : w.ownsRow B 55 2 v (ts.length + 1) (flatP ts ++ [.string p.1, .string p.2])) : OwnP B w v (ts ++ [p]) := by
  unfold OwnP; rw [flatP_snoc, List.length_append]; exact h
theorem two_cellP {w : World} {u v : Value} {e g : Nat} (hg : g = w.heap.size) : ∀ (j : Nat) (x : Value), [u, v][j]? = some x → (w.alloc (.cells #[u, v] e)).cell? ((⟨g, 0, none⟩ : Addr).add j) = some x := by
  subst hg
  intro j x hj
  have hc := Box2.cells (Box2.new w u v e)
  match j, hj with
  | 0, hj => simp at hj; subst hj; exact hc.1
  | 1, hj => simp at hj; subst hj; exact hc.2
theorem two_one (y z : ByteArray) : ∀ u ∈ [Value.string y, Value.string z], u.oneCell' = true := by
  intro u hu
  simp only [List.mem_cons, List.not_mem_nil, or_false] at hu
  rcases hu with rfl | rfl <;> rfl
set_option maxRecDepth 100000 in
set_option maxHeartbeats 1600000 in
theorem implProjectedTo (b m : Nat) (names : List Txt) (a : Option Addr) (len cap : Nat) (ts : RowV) (w : World) (hS : OwnSetS w b m names) (h : IsPres w a len cap ts) (hl : len ≤ 1048576) :
    Calls Tryz.prog 86 #[.map (some b), .slice a len cap] w fun e w' => ∃ v, e = .returned v ∧ OwnP w.heap.size w' v (keepL names ts) ∧ Below w.heap.size w w' := by
  obtain ⟨i0, hi, hz0, hz1, hz2⟩ := info_parts infoPair
  have hlen : len ≤ 9223372036854775807 := by omega
  have HI := Lib.hid h
  have HT := Lib.hid h.len
  have HS := Lib.hid hS
  have HZ : Hid (∀ w : World, (zeroValue 4).run Tryz.prog w = .ok (.bool false) w) := Lib.hid (fun w => by kernel_rfl)
  clear h hS
  go_enter Tryz.func86, Tryz.ntmps86
  go_wp2_with fail
  go_loopw [5, 10] (fun v' i wr => ∃ (k : Nat) (v : Value), k ≤ len ∧ i = .int .i64 k ∧ v = v' ∧ Hid (OwnP w.heap.size wr v (keepL names (ts.take k))) ∧ Below w.heap.size w wr) (fun _ i _ => len - (intOf i).toNat)
  case atStart => exact ⟨0, _, Nat.zero_le _, rfl, rfl, Lib.hid (World.ownsRow_nil ..), Below.refl _ _⟩
  case round =>
    obtain ⟨k, v, hk, rfl, rfl, hown, hnx⟩ := hrel
    by_cases hlt : k < len
    · obtain ⟨x, off, rfl, hx, _, _, hts, hc⟩ := (HI.out.next hnx).cells (by omega)
      have ht : ts[k]? = some ts[k] := List.getElem?_eq_getElem (by omega)
      have HK : Hid (ts.take (k + 1) = ts.take k ++ [ts[k]]) := Lib.hid (List.take_succ_eq_append_getElem (by omega))
      obtain ⟨c0, c1, m0, m1⟩ := hc k _ ht
      have hkl : (keepL names (ts.take k)).length ≤ k := by have := keepL_len names (ts.take k); rw [List.length_take] at this; omega
      generalize ts[k] = t at c0 c1 HK m0 m1
      obtain ⟨y, z⟩ := t
      dsimp only at c0 c1 m0
      have HN : Hid (keepL names (ts.take (k + 1)) = if y.data.toList ∈ names then keepL names (ts.take k) ++ [(y, z)] else keepL names (ts.take k)) := Lib.hid (by rw [HK.out, keepL_snoc])
      have HYM := Lib.hid m0
      obtain ⟨e0, e1⟩ := (Box2.new wr (.string y) (.string z) 55).cells
      have HO := Lib.hid (World.ownsRow.alloc hown.out (.cells #[.string y, .string z] 55))
      have HB := Lib.hid (hnx.alloc hnx.size (.cells #[.string y, .string z] 55))
      have HSS := Lib.hid ((HS.out.next hnx).alloc (.cells #[.string y, .string z] 55))
      have hzw := hnx.size
      clear HK ht hts hc m0 m1 hown
      generalize keepL names (ts.take k) = ks at HN hkl HO
      by_cases hin : y.data.toList ∈ names
      · have HM : Hid (keepL names (ts.take (k + 1)) = ks ++ [(y, z)]) := Lib.hid (by rw [HN.out, if_pos hin])
        have hd := Lib.hid (decide_eq_true hin)
        clear HN hin hnx
        have HA := Lib.hid (World.ownsRow.alloc HO.out (.cells #[.string y, .string z] 55))
        have HC := Lib.hid (HB.out.alloc HB.out.size (.cells #[.string y, .string z] 55))
        have hzx := HB.out.size
        go_wp2_with (first | (at_lookup; refine wpList_lookS _ rfl _ _ rfl b m names rfl HSS.out y HYM.out rfl (HZ.out _) ?_; rw [hd.out]) | at_builtin; refine wpList_append_own_at _ rfl _ _ 50 rfl w.heap.size 55 i0 (.agg #[.string ⟨#[]⟩, .string ⟨#[]⟩]) 2 32 Tryz.underlying50 hi hz0 hz1 hz2 rfl (by decide) _ _ _ rfl HA.out ⟨_, 0, none⟩ 1 1 [.string y, .string z] rfl rfl ?d1 ?d2 ?d3 ?d4 ?d5 ?_)
        case d1 => exact two_cellP (by simp only [World.alloc, Array.size_push])
        case d2 => exact two_one _ _
        case d3 => unfold maxLen; omega
        case d4 => omega
        case d5 => exact HC.out.size
        intro v' w2 hown2 hg2 _ _
        have O2 : Hid (OwnP w.heap.size w2 v' (keepL names (ts.take (k + 1)))) := Lib.hid (by rw [HM.out]; exact own_snocP hown2)
        have B2 := HC.out.grown hg2 HC.out.size (fun j hj => (World.ownsRow.lt HO.out j hj).1)
        clear hown2 hg2 HA HC HO HB HSS e0 e1 c0 c1
        go_wp2_with fail
        go_roundw
        case rel => exact ⟨k + 1, _, by omega, by go_num, rfl, O2, B2⟩
        case measure => simp [intOf]; omega
      · have HM : Hid (keepL names (ts.take (k + 1)) = ks) := Lib.hid (by rw [HN.out, if_neg hin])
        have hd := Lib.hid (decide_eq_false hin)
        clear HN hin hnx
        go_wp2_with (at_lookup; refine wpList_lookS _ rfl _ _ rfl b m names rfl HSS.out y HYM.out rfl (HZ.out _) ?_; rw [hd.out])
        have O2 : Hid (OwnP w.heap.size (wr.alloc (.cells #[.string y, .string z] 55)) v (keepL names (ts.take (k + 1)))) := Lib.hid (by rw [HM.out]; exact HO.out)
        have B2 := HB.out
        clear HO HB HSS e0 e1 c0 c1 hd
        go_wp2_with fail
        go_roundw
        case rel => exact ⟨k + 1, _, by omega, by go_num, rfl, O2, B2⟩
        case measure => simp [intOf]; omega
    · have HF : Hid (OwnP w.heap.size wr v (keepL names ts)) := Lib.hid (by
        have h1 := hown.out
        rw [List.take_of_length_le (by rw [HT.out]; omega)] at h1
        exact h1)
      clear hown
      go_wp2_with fail
      go_ret
      exact ⟨_, rfl, HF.out, hnx⟩
end Go.Proofs.YtiajdnhmjdfeeaaGreat
namespace Go.Proofs.YtiajdnhmjdfeeaaGreat
open Go.Maps Go.RowKit
/-- Rows in order, with one more. -/
def addR (rs : List RowV) (r : RowV) : List RowV :=
  if (rs.map rowTextL)[atS (rowTextL r) (rs.map rowTextL)]? = some (rowTextL r) then rs
  else (rs.take (atS (rowTextL r) (rs.map rowTextL)) ++ [r]) ++ rs.drop (atS (rowTextL r) (rs.map rowTextL))
def addAllR (rs : List RowV) (l : List RowV) : List RowV := l.foldl addR rs
theorem addR_same {rs : List RowV} {r : RowV} {k : Nat} (h : atS (rowTextL r) (rs.map rowTextL) = k) (hk : (rs.map rowTextL)[k]? = some (rowTextL r)) : addR rs r = rs := by unfold addR; rw [if_pos (by rw [h]; exact hk)]
theorem addR_more {rs : List RowV} {r : RowV} {k : Nat} (h : atS (rowTextL r) (rs.map rowTextL) = k) (hk : (rs.map rowTextL)[k]? ≠ some (rowTextL r)) : addR rs r = (rs.take k ++ [r]) ++ rs.drop k := by unfold addR; rw [if_neg (by rw [h]; exact hk), h]
theorem addR_keys (rs : List RowV) (r : RowV) : (addR rs r).map rowTextL = putS (rs.map rowTextL) (rowTextL r) := by
  unfold addR putS
  split
  · rfl
  · simp
theorem addR_mem {rs : List RowV} {r s : RowV} (h : s ∈ addR rs r) : s ∈ rs ∨ s = r := by
  unfold addR at h
  split at h
  · exact .inl h
  · simp only [List.mem_append, List.mem_singleton] at h
    rcases h with (h | h) | h
    · exact .inl (List.mem_of_mem_take h)
    · exact .inr h
    · exact .inl (List.mem_of_mem_drop h)
theorem addAllR_snoc (rs l : List RowV) (r : RowV) : addAllR rs (l ++ [r]) = addR (addAllR rs l) r := by unfold addAllR; rw [List.foldl_append]; rfl
theorem addAllR_keys : ∀ (l rs : List RowV), (addAllR rs l).map rowTextL = putAllS (rs.map rowTextL) (l.map rowTextL)
  | [], _ => rfl
  | r :: l, rs => by
    show (addAllR (addR rs r) l).map rowTextL = putAllS (putS (rs.map rowTextL) (rowTextL r)) (l.map rowTextL)
    rw [addAllR_keys l, addR_keys]
theorem addAllR_mem {s : RowV} : ∀ {l rs : List RowV}, s ∈ addAllR rs l → s ∈ rs ∨ s ∈ l
  | [], _, h => .inl h
  | r :: l, rs, h => by
    rcases addAllR_mem (l := l) (rs := addR rs r) h with h | h
    · rcases addR_mem h with h | rfl
      · exact .inl h
      · exact .inr (List.mem_cons_self ..)
    · exact .inr (List.mem_cons_of_mem _ h)
theorem addR_len (rs : List RowV) (r : RowV) : (addR rs r).length ≤ rs.length + 1 := by
  have h := congrArg List.length (addR_keys rs r)
  rw [List.length_map] at h
  have := putS_len (rs.map rowTextL) (rowTextL r)
  rw [List.length_map] at this
  omega
theorem addAllR_len : ∀ (l rs : List RowV), (addAllR rs l).length ≤ rs.length + l.length
  | [], _ => Nat.le_refl _
  | r :: l, rs => by
    have h1 := addAllR_len l (addR rs r)
    have h2 := addR_len rs r
    show (addAllR (addR rs r) l).length ≤ _
    rw [List.length_cons]; omega
/-- Rows without a byte 0 are told by their texts. -/
theorem rows_of_keys : ∀ {r s : List RowV}, (∀ x ∈ r, ∀ t ∈ x, NoZ t) → (∀ x ∈ s, ∀ t ∈ x, NoZ t) → r.map rowTextL = s.map rowTextL → r = s
  | [], [], _, _, _ => rfl
  | [], _ :: _, _, _, h => by simp at h
  | _ :: _, [], _, _, h => by simp at h
  | x :: r, y :: s, hr, hs, h => by
    simp only [List.map_cons, List.cons.injEq] at h
    rw [rowTextL_inj x y (hr x (List.mem_cons_self ..)) (hs y (List.mem_cons_self ..)) h.1,
      rows_of_keys (fun z hz => hr z (List.mem_cons_of_mem _ hz)) (fun z hz => hs z (List.mem_cons_of_mem _ hz)) h.2]
/-- What was put by its text: the texts, each once, and behind each a row of that text. -/
theorem putV_keys : ∀ (rs : List RowV) (us : List Value) (kvs : List (Txt × Value)), us.length = rs.length → (putV kvs rs us).map Prod.fst = addAllS (kvs.map Prod.fst) (rs.map rowTextL)
  | [], [], _, _ => rfl
  | [], _ :: _, _, h => by simp at h
  | _ :: _, [], _, h => by simp at h
  | r :: rs, u :: us, kvs, h => by
    show (putV (addV kvs (rowTextL r) u) rs us).map Prod.fst = addAllS (addS (kvs.map Prod.fst) (rowTextL r)) (rs.map rowTextL)
    rw [putV_keys rs us _ (by simpa using h), addV_keys]
theorem putV_from : ∀ (rs : List RowV) (us : List Value) (kvs : List (Txt × Value)) (p : Txt × Value), us.length = rs.length → p ∈ putV kvs rs us → p ∈ kvs ∨ ∃ (i : Nat) (r : RowV), us[i]? = some p.2 ∧ rs[i]? = some r ∧ rowTextL r = p.1
  | [], [], _, _, _, h => .inl h
  | [], _ :: _, _, _, h, _ => by simp at h
  | _ :: _, [], _, _, h, _ => by simp at h
  | r :: rs, u :: us, kvs, p, h, hp => by
    rcases putV_from rs us (addV kvs (rowTextL r) u) p (by simpa using h) hp with hp | ⟨i, s, h1, h2, h3⟩
    · rcases addV_mem hp with rfl | ⟨_, hp⟩
      · exact .inr ⟨0, r, rfl, rfl, rfl⟩
      · exact .inl hp
    · exact .inr ⟨i + 1, s, by simpa using h1, by simpa using h2, h3⟩
end Go.Proofs.YtiajdnhmjdfeeaaGreat
