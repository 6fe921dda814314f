/- Pairs in a slice, cell by cell; a copy of them.; The rows of a map in the order of their texts, each copied: the program's own.; Rows projected: the program's own. -/
import Derived.Test.YtiajdnhmjdfeeaaGreatK16
import Derived.Test.YtiajdnhmjdfeeaaGreatK03
import Derived.Test.YtiajdnhmjdfeeaaGreatK00
import Derived.Test.YtiajdnhmjdfeeaaGreatK29
import Derived.Test.YtiajdnhmjdfeeaaGreatK18
namespace Go.Proofs.YtiajdnhmjdfeeaaGreat
open Go.RowKit Go.WideShapes
theorem flatP_append (a b : List Pre2) : flatP (a ++ b) = flatP a ++ flatP b := by simp [flatP]
theorem flatP_one (a : List Pre2) : ∀ u ∈ flatP a, u.oneCell' = true := by
  intro u hu
  unfold flatP at hu
  obtain ⟨t, _, hu⟩ := List.mem_flatMap.1 hu
  simp only [List.mem_cons, List.not_mem_nil, or_false] at hu
  rcases hu with rfl | rfl <;> rfl
theorem flatP_split (ts : List Pre2) (k : Nat) : flatP ts = flatP (ts.take k) ++ flatP (ts.drop k) := by rw [← flatP_append, List.take_append_drop]
/-- A slice's cells, one by one. -/
theorem IsPres.flatAt {w : World} {b off len cap : Nat} {ts : List Pre2} (h : IsPres w (some ⟨b, off, none⟩) len cap ts) (j : Nat) (u : Value) (hj : (flatP ts)[j]? = some u) : w.cell? ⟨b, off + j, none⟩ = some u := by
  have hl := h.len
  have hjl : j < ts.length * 2 := by rw [← flatP_len]; exact (List.getElem?_eq_some_iff.1 hj).1
  rcases h with ⟨h, _⟩ | ⟨x, hx, h1, h2, h3, h4⟩
  · cases h
  · cases hx
    obtain ⟨q, r, hr, rfl⟩ : ∃ q r, r < 2 ∧ j = q * 2 + r := ⟨j / 2, j % 2, by omega, by omega⟩
    have hq : q < ts.length := by omega
    have e := List.getElem?_eq_getElem hq
    obtain ⟨c0, c1, _⟩ := h4 q _ e
    rw [add_plain] at c0 c1
    obtain ⟨f0, f1⟩ := flatP_at ts q _ e
    have hm : r = 0 ∨ r = 1 := by omega
    rcases hm with rfl | rfl
    · rw [Nat.add_zero, f0] at hj; rw [← hj, ← c0, Nat.mul_comm 2 q]; rfl
    · rw [f1] at hj; rw [← hj, ← c1, Nat.mul_comm 2 q]
theorem IsPres.front {w : World} {b off len cap : Nat} {ts : List Pre2} (h : IsPres w (some ⟨b, off, none⟩) len cap ts) (k : Nat) : ∀ (j : Nat) (u : Value), (flatP (ts.take k))[j]? = some u → w.cell? ((⟨b, off, none⟩ : Addr).add j) = some u := by
  intro j u hj
  rw [add_plain]
  refine h.flatAt j u ?_
  rw [flatP_split ts k, List.getElem?_append_left (List.getElem?_eq_some_iff.1 hj).1]
  exact hj
theorem IsPres.back {w : World} {b off len cap : Nat} {ts : List Pre2} (h : IsPres w (some ⟨b, off, none⟩) len cap ts) (k : Nat) (hk : k ≤ ts.length) : ∀ (j : Nat) (u : Value), (flatP (ts.drop k))[j]? = some u → w.cell? ((⟨b, off + k * 2, none⟩ : Addr).add j) = some u := by
  intro j u hj
  rw [add_plain, Nat.add_assoc]
  refine h.flatAt (k * 2 + j) u ?_
  have e : (flatP (ts.take k)).length = k * 2 := by rw [flatP_len, List.length_take, Nat.min_eq_left hk]
  rw [flatP_split ts k, List.getElem?_append_right (by omega), e, Nat.add_sub_cancel_left]
  exact hj
theorem pres_news {w : World} {x : Addr} {ts : List Pre2} (h4 : ∀ (i : Nat) (t : Pre2), ts[i]? = some t → PreAt w x i t) (j : Nat) (u : Value) (hj : (flatP ts)[j]? = some u) : w.cell? (x.add j) = some u := by
  have hjl : j < ts.length * 2 := by rw [← flatP_len]; exact (List.getElem?_eq_some_iff.1 hj).1
  obtain ⟨q, r, hr, rfl⟩ : ∃ q r, r < 2 ∧ j = q * 2 + r := ⟨j / 2, j % 2, by omega, by omega⟩
  have e := List.getElem?_eq_getElem (show q < ts.length by omega)
  obtain ⟨c0, c1, _⟩ := h4 q _ e
  obtain ⟨f0, f1⟩ := flatP_at ts q _ e
  have hm : r = 0 ∨ r = 1 := by omega
  rcases hm with rfl | rfl
  · rw [Nat.add_zero, f0] at hj; rw [← hj, ← c0, Nat.mul_comm 2 q]; rfl
  · rw [f1] at hj; rw [← hj, ← c1, Nat.mul_comm 2 q]
set_option maxRecDepth 100000 in
set_option maxHeartbeats 1600000 in
theorem clonePair (a : Option Addr) (len cap : Nat) (ts : List Pre2) (w : World) (h : IsPres w a len cap ts) (hl : len ≤ 1048576) :
    Calls Tryz.prog 79 #[.slice a len cap] w (CopyPostP ts w) := by
  have q28 : ∀ (w : World) (a : Option Addr) (n c n' c' : Nat), (binOp .eql 50 (.slice a n c) (.slice none n' c')).run Tryz.prog w = .ok (.bool a.isNone) w := fun w a n c n' c' => Lib.run_eql_slice_nil w _ _ a n c n' c' Tryz.underlying50
  obtain ⟨i0, hi, hz0, hz1, hz2⟩ := info_parts infoPair
  rcases h with ⟨rfl, rfl, rfl, rfl⟩ | ⟨x, rfl, h1, h2, h3, h4⟩
  · go_enter Tryz.func79, Tryz.ntmps79
    go_wp2_with fail
    go_ret
    exact ⟨_, rfl, ⟨rfl, .inl ⟨rfl, rfl⟩⟩, Below.refl _ _⟩
  · have A := Lib.hid (fun j u hj => pres_news h4 j u hj)
    have H3 := Lib.hid h3
    have HF := Lib.hid (flatP_one ts)
    clear h4 h3
    go_enter Tryz.func79, Tryz.ntmps79
    go_wp2_with (at_builtin; refine wpList_append_own _ rfl _ _ 50 rfl w.heap.size 55 i0 (.agg #[.string ⟨#[]⟩, .string ⟨#[]⟩]) 2 32 Tryz.underlying50 hi hz0 hz1 hz2 rfl (by decide) _ _ _ rfl (World.ownsRow_made w #[] 0 (Nat.le_refl _) (Nat.zero_le _) (by simp)) x len cap (flatP ts) rfl ?qc1 ?qc2 ?qc3 ?qc4 ?qc5 ?qc6 ?_)
    case qc1 => rw [flatP_len, H3.out]
    case qc2 => exact fun j u hj => Lib.cell?_alloc_some _ (A.out j u hj)
    case qc3 => exact HF.out
    case qc4 => unfold maxLen; omega
    case qc5 => omega
    case qc6 => simp
    intro v' w1 hown hgrow _
    go_wp2_with fail
    go_ret
    exact ⟨v', rfl, by unfold OwnP; rw [H3.out]; simpa using hown, ((Below.refl _ w).alloc (Nat.le_refl _) _).grown hgrow (by simp) (by intro k hk; simp [Value.ownBlock] at hk; omega)⟩
end Go.Proofs.YtiajdnhmjdfeeaaGreat
namespace Go.Proofs.YtiajdnhmjdfeeaaGreat
open Go.RowKit Go.WideShapes Go.Maps
theorem InnR.grow {B : Nat} {w w' : World} {rs : List RowV} {us : List Value} {row : Option Nat} (h : InnR B w rs us) (hg : w.grownBy w' row) (hne : ∀ u ∈ us, u.ownBlock = none ∨ u.ownBlock ≠ row) : InnR B w' rs us :=
  ⟨h.1, fun i u t hu ht => World.ownsRow.kept (h.2.1 i u t hu ht) hg (hne u (List.mem_of_getElem? hu)), h.2.2⟩
theorem RowIn.next {w w' : World} {u : Value} {r : RowV} (h : RowIn w u r) (hb : Below w.heap.size w w') : RowIn w' u r := by
  obtain ⟨a, n, c, e, h⟩ := h
  exact ⟨a, n, c, e, h.next hb⟩
theorem one_cellV {w : World} {u : Value} {e g : Nat} (hg : g = w.heap.size) : ∀ (j : Nat) (x : Value), [u][j]? = some x → (w.alloc (.cells #[u] e)).cell? ((⟨g, 0, none⟩ : Addr).add j) = some x := by
  subst hg
  intro j x hj
  match j, hj with
  | 0, hj =>
    simp only [List.getElem?_cons_zero, Option.some.injEq] at hj
    subst hj
    have key : ∀ W : World, W.heap[w.heap.size]? = some (.cells #[u] e (0, 0)) → W.cell? ((⟨w.heap.size, 0, none⟩ : Addr).add 0) = some u := by
      intro W h
      simp [World.cell?, Addr.add, h]
    exact key _ (heap_alloc_new w _)
theorem one_slice (a : Option Addr) (n c : Nat) : ∀ u ∈ [Value.slice a n c], u.oneCell' = true := by
  intro u hu
  simp only [List.mem_cons, List.not_mem_nil, or_false] at hu
  subst hu; rfl
/-- The outer slice, its rows, no two in one block. -/
def OutR (B : Nat) (w : World) (v : Value) (rs : List RowV) (us : List Value) : Prop := w.ownsRow B 50 1 v rs.length us ∧ InnR B w rs us ∧ ∀ u ∈ us, ∀ j, u.ownBlock = some j → v.ownBlock ≠ some j
theorem OutR.own {B : Nat} {w : World} {v : Value} {rs : List RowV} {us : List Value} (h : OutR B w v rs us) : OwnRs B w v rs := ⟨us, h.1, h.2.1, h.2.2⟩
/-- One more row, copied into a block of its own, and put behind. -/
theorem OutR.more {B : Nat} {w w1 w2 : World} {v v' u : Value} {rs : List RowV} {us : List Value} {r : RowV} {T : TypeId} (h : OutR B w v rs us) (hB : B ≤ w.heap.size) (hb : Below w.heap.size w w1) (hu : OwnP w.heap.size w1 u r)
    (ho : w2.ownsRow B 50 1 v' (rs.length + 1) (us ++ [u])) (hg : (w1.alloc (.cells #[u] T)).grownBy w2 v.ownBlock) (hat : v'.ownBlock = v.ownBlock ∨ v'.ownBlock = some (w1.heap.size + 1)) : OutR B w2 v' (rs ++ [r]) (us ++ [u]) := by
  obtain ⟨h1, h2, h3⟩ := h
  have I1 : InnR B w1 (rs ++ [r]) (us ++ [u]) := InnR.snoc (h2.next hb) (fun x hx j hj => (h2.lt x hx j hj).2) hB hu
  have I2 := I1.next ((Below.refl w1.heap.size w1).alloc (Nat.le_refl _) (.cells #[u] T))
  have hfar : ∀ x ∈ us ++ [u], ∀ j, x.ownBlock = some j → v.ownBlock ≠ some j := by
    intro x hx j hj e
    rcases List.mem_append.1 hx with hx | hx
    · exact h3 x hx j hj e
    · obtain rfl : x = u := by simpa using hx
      have := (World.ownsRow.lt hu j hj).1
      have := (World.ownsRow.lt h1 j e).2
      omega
  refine ⟨by rw [List.length_append]; exact ho, I2.grow hg (fun x hx => ?_), fun x hx j hj e => ?_⟩
  · rcases hx' : x.ownBlock with _ | j
    · exact .inl rfl
    · exact .inr (fun e => hfar x hx j hx' e.symm)
  · rcases hat with hat | hat
    · exact hfar x hx j hj (hat ▸ e)
    · have := (I1.lt x hx j hj).2
      rw [hat] at e
      simp only [Option.some.injEq] at e
      omega
set_option maxRecDepth 100000 in
set_option maxHeartbeats 1600000 in
theorem implInOrderR (b m : Nat) (kvs : List (Txt × Value)) (row : Txt → RowV) (w : World) (hM : OwnMapV w b m kvs) (hn : kvs.length ≤ 1000000) (hR : ∀ p ∈ kvs, RowIn w p.2 (row p.1)) (hl : ∀ p ∈ kvs, (row p.1).length ≤ 1048576 ∧ p.1.length ≤ maxLen) :
    Calls Tryz.prog 77 #[.map (some b)] w fun e w' => ∃ v, e = .returned v ∧ OwnRs w.heap.size w' v (((kvs.map Prod.fst).mergeSort leB).map row) ∧ Below w.heap.size w w' := by
  obtain ⟨i0, hi, hz0, hz1, hz2⟩ := info_parts infoRow
  have hmap := hM
  obtain ⟨D, hown, hD⟩ := hmap
  have hlen := hown.len Tryz.underlying107
  rw [hD.size] at hlen
  obtain ⟨n, hkn⟩ : ∃ n, kvs.length = n := ⟨_, rfl⟩
  rw [hkn] at hlen hn
  clear hown hD
  obtain ⟨ks, hks⟩ : ∃ ks, (kvs.map Prod.fst).mergeSort leB = ks := ⟨_, rfl⟩
  rw [hks]
  go_enter Tryz.func77, Tryz.ntmps77
  go_wp2_with (at_make; refine wpList_make_own _ rfl _ _ 28 rfl w.heap.size 50 i0 _ 1 Tryz.underlying28 hi hz0 hz1 .i64 .i64 _ n rfl rfl rfl ?c1 ?c2 (Nat.le_refl _) ?_)
  case c1 => rw [hz2]; omega
  case c2 => unfold maxLen; omega
  intro w0 hown0 hg0
  have hb0 : Below w.heap.size w w0 := (Below.refl _ _).grown hg0 (Nat.le_refl _) (by simp)
  have M0 := hM.kept hg0 (by simp)
  clear hg0 hlen
  have K1 := Lib.hid (keysRow b w0)
  have K2 := Lib.hid (sortedRow b m kvs _ w0 M0 rfl (by rw [List.length_map, hkn]; omega))
  clear M0
  go_wp2_with fail
  refine K1.out.mono ?_
  rintro e w1 ⟨rfl, rfl⟩
  go_wp2_with fail
  refine K2.out.mono ?_
  rintro e w2 ⟨sv, rfl, os, hb2⟩
  have hkl : ((kvs.map Prod.fst).mergeSort leB).length = n := by rw [(List.mergeSort_perm _ leB).length_eq, List.length_map, hkn]
  have hkm : ∀ t ∈ (kvs.map Prod.fst).mergeSort leB, ∃ u, (t, u) ∈ kvs := by
    intro t ht
    obtain ⟨p, hp, rfl⟩ := List.mem_map.1 ((List.mergeSort_perm _ leB).mem_iff.1 ht)
    exact ⟨p.2, hp⟩
  rw [hks] at os hkl hkm
  have HS := Lib.hid os
  obtain ⟨sa, sc, rfl, _⟩ := os.is
  have hsl : (ks.map bs).length = n := by rw [List.length_map, hkl]
  rw [hsl] at HS ⊢
  have HKL := Lib.hid hkl
  have HKM := Lib.hid hkm
  have HM := Lib.hid hM
  have HR := Lib.hid hR
  have HLL := Lib.hid hl
  have hz0s : w.heap.size < w0.heap.size := (World.ownsRow.lt hown0 w.heap.size (by simp [Value.ownBlock])).2
  have O0 : OutR w.heap.size w2 (.slice (some ⟨w.heap.size, 0, none⟩) 0 n) [] [] := ⟨hown0.kept (grown_of_below hb2) (.inr (by simp [Value.ownBlock])), InnR.nil _ _, by simp⟩
  have B0 : Below w.heap.size w w2 := hb0.trans (hb2.mono (by omega))
  have hfar0 : ∀ j, (Value.slice (some ⟨w.heap.size, 0, none⟩) 0 n).ownBlock = some j → (Value.slice sa n sc).ownBlock ≠ some j := by
    intro j hj e
    simp [Value.ownBlock] at hj
    have := (World.ownsRow.lt HS.out j e).1
    omega
  have HF0 := Lib.hid hfar0
  clear os hown0 hb2 hb0 hkl hkm hM hR hl hsl hfar0 K1 K2
  go_wp2_with fail
  go_loopw [3, 13] (fun v' i wr => ∃ (k : Nat) (v : Value), k ≤ n ∧ i = .int .i64 k ∧ v = v' ∧ (∃ us, Hid (OutR w.heap.size wr v ((ks.take k).map row) us)) ∧ Hid (OwnS w0.heap.size wr (.slice sa n sc) (ks.map bs)) ∧ Hid (∀ j, v.ownBlock = some j → (Value.slice sa n sc).ownBlock ≠ some j) ∧ Below w.heap.size w wr) (fun _ i _ => n - (intOf i).toNat)
  case atStart => exact ⟨0, _, Nat.zero_le _, rfl, rfl, ⟨[], Lib.hid O0⟩, HS, HF0, B0⟩
  case round =>
    clear O0 B0 HS HF0
    obtain ⟨k, v, hk, rfl, rfl, ⟨us, HO⟩, HS, HF, hnx⟩ := hrel
    by_cases hlt : k < n
    · obtain ⟨sa', sc', hse, hss⟩ := HS.out.is
      rw [List.length_map, HKL.out] at hse hss
      cases hse
      obtain ⟨g, off, rfl, hgb, _, _, hts, hc⟩ := hss.cells (by omega)
      have ht : ks[k]? = some (ks[k]'(by have := HKL.out; omega)) := List.getElem?_eq_getElem _
      have HK : Hid (ks.take (k + 1) = ks.take k ++ [ks[k]'(by have := HKL.out; omega)]) := Lib.hid (List.take_succ_eq_append_getElem _)
      have c0 := hc k (bs (ks[k]'(by have := HKL.out; omega))) (by rw [List.getElem?_map, ht]; rfl)
      obtain ⟨u, hu⟩ := HKM.out _ (List.getElem_mem (by have := HKL.out; omega : k < ks.length))
      generalize ks[k]'(by have := HKL.out; omega) = t at HK c0 hu ht
      obtain ⟨a1, n1, c1, he1, hz⟩ := (HR.out _ hu).next hnx
      dsimp only at he1 hz
      subst he1
      have hll := HLL.out _ hu
      dsimp only at hll
      have hzl := hz.len
      have hzs := Lib.hid hz.small
      have E := Lib.hid (fun W (h : Below wr.heap.size wr W) => clonePair a1 n1 c1 (row t) W (hz.next h) (by omega))
      have MM := Lib.hid (HM.out.next hnx)
      have HU := Lib.hid hu
      have htm : (bs t).size ≤ maxLen := by rw [bs_size]; exact hll.2
      have htb : (bs t).data.toList = t := bs_toList t
      rw [← htb] at HU
      have HW := Lib.hid htb
      generalize bs t = x at c0 htm HU HW
      have hkn' : (ks.take k).length = k := by rw [List.length_take, HKL.out]; omega
      have HROW : Hid ((ks.take (k + 1)).map row = (ks.take k).map row ++ [row t]) := Lib.hid (by rw [HK.out]; simp)
      have HRL : Hid (((ks.take k).map row).length = k) := Lib.hid (by rw [List.length_map]; exact hkn')
      generalize (ks.take k).map row = rk at HO HROW HRL
      clear hts hc ht HK hu hll hz hkn' htb hss
      have ZZ : Hid (∀ w : World, (zeroValue 50).run Tryz.prog w = .ok (.slice none 0 0) w) := Lib.hid (fun w => by kernel_rfl)
      go_wp2_with (at_lookup; refine wpList_lookV _ rfl _ _ rfl b m kvs rfl MM.out x htm _ HU.out rfl (ZZ.out _) ?_)
      refine (E.out _ (by first | exact Below.refl _ _ | exact Below.drew (Below.refl _ _))).mono ?_
      rintro e wn ⟨u', rfl, ou, hbn⟩
      obtain ⟨ua, uc, hue, _⟩ := ou.is hzs.out
      rw [hzl] at hue
      subst hue
      have HBN := Lib.hid hbn
      have BN := hnx.trans (hbn.mono hnx.size)
      have hvk : v.ownBlock = none ∨ v.ownBlock ≠ (none : Option Nat) := by
        rcases hv : v.ownBlock with _ | j
        · exact .inl rfl
        · exact .inr (by simp)
      have OA := Lib.hid (World.ownsRow.alloc (HO.out.1.kept (grown_of_below hbn) hvk) (.cells #[.slice ua n1 uc] 50))
      have BA := Lib.hid (BN.alloc BN.size (.cells #[.slice ua n1 uc] 50))
      have hrl := HRL.out
      have HOU := Lib.hid ou
      have HNX := Lib.hid hnx
      clear hbn ou E hnx c0 hvk
      go_wp2_with (at_builtin; refine wpList_append_own_at _ rfl _ _ 28 rfl w.heap.size 50 i0 (.slice none 0 0) 1 24 Tryz.underlying28 hi hz0 hz1 hz2 rfl (by decide) _ _ _ rfl OA.out ⟨_, 0, none⟩ 1 1 [.slice ua n1 uc] rfl rfl ?d1 ?d2 ?d3 ?d4 ?d5 ?_)
      case d1 => exact one_cellV rfl
      case d2 => exact one_slice _ _ _
      case d3 => unfold maxLen; omega
      case d4 => omega
      case d5 => exact BA.out.size
      intro v2 w3 hown3 hg3 _ hat
      have HO3 := HO.out.more HNX.out.size HBN.out HOU.out (by rw [HRL.out]; exact hown3) hg3 hat
      rw [← HROW.out] at HO3
      have HO4 := Lib.hid HO3
      have B3 := BA.out.grown hg3 BA.out.size (fun j hj => (World.ownsRow.lt HO.out.1 j hj).1)
      have S1 := (HS.out.kept HBN.out).kept ((Below.refl wn.heap.size wn).alloc (Nat.le_refl _) (.cells #[.slice ua n1 uc] 50))
      have S3 : Hid (OwnS w0.heap.size w3 (.slice (some ⟨g, off, none⟩) n sc) (ks.map bs)) := Lib.hid (World.ownsRow.kept S1 hg3 (.inr (fun e => HF.out _ e.symm rfl)))
      have F3 : Hid (∀ j, v2.ownBlock = some j → (Value.slice (some ⟨g, off, none⟩) n sc).ownBlock ≠ some j) := Lib.hid (fun j hj e => by
        rcases hat with h | h
        · exact HF.out j (h ▸ hj) e
        · rw [h] at hj
          simp only [Option.some.injEq] at hj
          have h9 := (World.ownsRow.lt (HS.out.kept HBN.out) j e).2
          omega)
      clear hown3 hg3 hat HO3 HO S1 HS HF OA BA HBN HOU
      go_wp2_with fail
      go_roundw
      case rel => exact ⟨k + 1, _, by omega, by go_num, rfl, ⟨_, HO4⟩, S3, F3, B3⟩
      case measure => simp [intOf]; omega
    · have HE : Hid (OwnRs w.heap.size wr v (ks.map row)) := Lib.hid (by
        have h1 := HO.out.own
        rw [List.take_of_length_le (by rw [HKL.out]; omega)] at h1
        exact h1)
      clear HO HS HF
      go_wp2_with fail
      go_ret
      exact ⟨_, rfl, HE.out, hnx⟩
end Go.Proofs.YtiajdnhmjdfeeaaGreat
namespace Go.Proofs.YtiajdnhmjdfeeaaGreat
open Go.RowKit Go.WideShapes Go.Maps
def varsOkL (l : List ByteArray) : Bool := (txts l).all isVarK
def projOk (rs : List RowV) (vs : List ByteArray) : Bool := rowsOkL rs && varsOkL vs
def projL (rs : List RowV) (vs : List ByteArray) : List RowV := addAllR [] (rs.map (keepL (txts vs)))
/-- What projecting answers. -/
def projR (rs : List RowV) (vs : List ByteArray) : List RowV := if projOk rs vs = true then projL rs vs else []
theorem projR_no {rs : List RowV} {vs : List ByteArray} (h : projOk rs vs = false) : projR rs vs = [] := by unfold projR; rw [h]; rfl
theorem projR_yes {rs : List RowV} {vs : List ByteArray} (h : projOk rs vs = true) : projR rs vs = projL rs vs := by unfold projR; rw [if_pos h]
theorem varsOk_step {vs : List ByteArray} {k : Nat} {x : ByteArray} (ha : (txts (vs.take k)).all isVarK = true) (hx : vs.take (k + 1) = vs.take k ++ [x]) (hb : isVarK x.data.toList = true) : (txts (vs.take (k + 1))).all isVarK = true := by
  rw [hx, txts_snoc, List.all_append, ha]
  simp [hb]
theorem varsOk_not {vs : List ByteArray} {x : ByteArray} (h : x ∈ vs) (hb : isVarK x.data.toList = false) : varsOkL vs = false := by
  unfold varsOkL
  rw [List.all_eq_false]
  exact ⟨_, List.mem_map_of_mem (f := fun s : ByteArray => s.data.toList) h, by simp [hb]⟩
theorem keepL_same (names : List Txt) (r : RowV) : keepL (addAllS [] names) r = keepL names r := by
  unfold keepL
  apply List.filter_congr
  intro t _
  exact decide_eq_decide.2 (by rw [addAllS_mem]; simp)
theorem rowText_len : ∀ {r : RowV}, SmP r → (rowTextL r).length ≤ r.length * 4194304
  | [], _ => by simp [rowTextL]
  | t :: r, h => by
    have e : rowTextL (t :: r) = (wordZ t.1 ++ wordZ t.2) ++ rowTextL r := rfl
    have h1 := rowText_len (r := r) (fun u hu => h u (List.mem_cons_of_mem _ hu))
    have h2 := h t (List.mem_cons_self ..)
    rw [e, List.length_append, List.length_append, wordZ_len, wordZ_len, List.length_cons]
    omega
theorem rowOk_most {ts : List Pre2} (h : rowOk ts = true) : ts.length ≤ 12 := by
  unfold rowOk at h; simp only [Bool.and_eq_true, decide_eq_true_eq] at h; exact h.1
theorem rowsOk_row {rs : List RowV} (h : rowsOkL rs = true) {r : RowV} (hr : r ∈ rs) : r.length ≤ 12 := by
  unfold rowsOkL at h
  simp only [Bool.and_eq_true, List.all_eq_true] at h
  exact rowOk_most (h.2 r hr)
theorem rowsOk_most {rs : List RowV} (h : rowsOkL rs = true) : rs.length ≤ 300 := by
  unfold rowsOkL at h
  simp only [Bool.and_eq_true, decide_eq_true_eq] at h
  exact h.1
/-- A row for each text. -/
theorem picked (ks : List RowV) (hz : ∀ r ∈ ks, ∀ t ∈ r, NoZ t) : ∃ row : Txt → RowV, (∀ r ∈ ks, row (rowTextL r) = r) ∧ ((addAllS [] (ks.map rowTextL)).mergeSort leB).map row = addAllR [] ks := by
  have h1 : ∀ r ∈ ks, (ks.find? fun s => decide (rowTextL s = rowTextL r)).getD [] = r := by
    intro r hr
    cases hf : ks.find? fun s => decide (rowTextL s = rowTextL r) with
    | none =>
      have := List.find?_eq_none.1 hf r hr
      simp at this
    | some s =>
      have h2 := List.find?_some hf
      have h3 := List.mem_of_find?_eq_some hf
      simp only [decide_eq_true_eq] at h2
      exact rowTextL_inj s r (hz s h3) (hz r hr) h2
  refine ⟨fun t => (ks.find? fun r => decide (rowTextL r = t)).getD [], h1, ?_⟩
  rw [sorted_words]
  have h4 : ∀ t ∈ putAllS [] (ks.map rowTextL), ∃ r, r ∈ ks ∧ rowTextL r = t := by
    intro t ht
    rcases putAllS_mem.1 ht with h | h
    · simp at h
    · exact List.mem_map.1 h
  refine rows_of_keys (fun x hx => ?_) (fun x hx => ?_) ?_
  · obtain ⟨t, ht, rfl⟩ := List.mem_map.1 hx
    obtain ⟨r, hr, rfl⟩ := h4 t ht
    rw [h1 r hr]
    exact hz r hr
  · rcases addAllR_mem hx with h | h
    · simp at h
    · exact hz x h
  · rw [addAllR_keys, List.map_map]
    show _ = putAllS [] (ks.map rowTextL)
    conv => rhs; rw [← List.map_id (putAllS [] (ks.map rowTextL))]
    refine List.map_congr_left fun t ht => ?_
    obtain ⟨r, hr, rfl⟩ := h4 t ht
    show rowTextL ((ks.find? fun s => decide (rowTextL s = rowTextL r)).getD []) = _
    rw [h1 r hr]
    rfl
/-- What was put, told in order. -/
theorem implOrdered (b m : Nat) (ks : List RowV) (us : List Value) (w : World) (hl : us.length = ks.length) (hr : ∀ (i : Nat) (u : Value) (r : RowV), us[i]? = some u → ks[i]? = some r → RowIn w u r) (hM : OwnMapV w b m (putV [] ks us))
    (hz : ∀ r ∈ ks, ∀ t ∈ r, NoZ t) (hn : ks.length ≤ 1000000) (hs : ∀ r ∈ ks, r.length ≤ 1048576 ∧ (rowTextL r).length ≤ maxLen) :
    Calls Tryz.prog 77 #[.map (some b)] w fun e w' => ∃ v, e = .returned v ∧ OwnRs w.heap.size w' v (addAllR [] ks) ∧ Below w.heap.size w w' := by
  obtain ⟨row, h1, h2⟩ := picked ks hz
  have hk := putV_keys ks us [] hl
  have hkl : (putV [] ks us).length ≤ 1000000 := by
    have e := congrArg List.length hk
    have := addAllS_len (ks.map rowTextL) []
    rw [List.length_map] at e
    simp only [List.map_nil, List.length_nil, List.length_map] at e this
    omega
  have hp : ∀ p ∈ putV [] ks us, RowIn w p.2 (row p.1) ∧ ((row p.1).length ≤ 1048576 ∧ p.1.length ≤ maxLen) := by
    intro p hp
    rcases putV_from ks us [] p hl hp with hp | ⟨i, r, q1, q2, q3⟩
    · simp at hp
    · have hm := List.mem_of_getElem? q2
      rw [← q3, h1 r hm]
      exact ⟨hr i p.2 r q1 q2, hs r hm⟩
  refine (implInOrderR b m _ row w hM hkl (fun p q => (hp p q).1) (fun p q => (hp p q).2)).mono ?_
  rintro e w' ⟨v, he, ho, hb⟩
  rw [hk] at ho
  refine ⟨v, he, ?_, hb⟩
  have h3 : ((addAllS (([] : List (Txt × Value)).map Prod.fst) (ks.map rowTextL)).mergeSort leB).map row = addAllR [] ks := h2
  rw [h3] at ho
  exact ho
theorem OwnRs.none (B : Nat) (w : World) : OwnRs B w (.slice none 0 0) [] := ⟨[], World.ownsRow_nil .., InnR.nil _ _, by simp⟩
theorem OwnRs.base {B C : Nat} {w : World} {v : Value} {rs : List RowV} (h : OwnRs B w v rs) (hc : C ≤ B) : OwnRs C w v rs := by
  obtain ⟨us, ⟨h1, h2⟩, ⟨i1, i2, i3⟩, h4⟩ := h
  refine ⟨us, ⟨h1, ?_⟩, ⟨i1, fun i u r hu hr => ownP_base (i2 i u r hu hr) hc, i3⟩, h4⟩
  rcases h2 with h2 | ⟨g, cap, cur, e, hB, r⟩
  · exact .inl h2
  · exact .inr ⟨g, cap, cur, e, Nat.le_trans hc hB, r⟩
end Go.Proofs.YtiajdnhmjdfeeaaGreat
