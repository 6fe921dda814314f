/- The texts of a map of rows, sorted: a slice of the call's own. -/
import Derived.Test.YtmiiaebelncdhaaGreatG20
import Derived.Test.YtmiiaebelncdhaaGreatG21
import Derived.Sort.EveryDepth
import Derived.StillTailTactics
import Derived.Test.YtmiiaebelncdhaaGreatG05
import Derived.Test.YtmiiaebelncdhaaGreatG16
import Derived.Test.YtmiiaebelncdhaaGreatG03
import Derived.Test.YtmiiaebelncdhaaGreatG01
namespace Go.Proofs.YtmiiaebelncdhaaGreat
open Go.RowKit Go.Maps Go.Sort Go.Shelf
theorem keysRow (b : Nat) (W : World) : Calls Tryz.prog 95 #[.map (some b)] W fun e w' =>
    e = .returned (.func (.func 129) #[] #[.pointer (some ⟨W.heap.size, 0, none⟩)]) ∧ w' = W.alloc (.cells #[.map (some b)] 74) :=
  (callsIn_wide (n := 5)).1 (AnyZ.keys_in Tryz.keysR Fence.wide 5 trivial rfl (some b) W)
theorem map_keys {w : World} {b n : Nat} {D : DataW Value} {R : Value → Option (DataW Value × List MemPlace)} {kvs : List (Txt × Value)} {ts : List Txt} (hown : w.ownsMap Tryz.prog 9 R b n D) (hD : MapOfV D kvs) (hts : kvs.map Prod.fst = ts) : ts.Perm (strKeys D) := by
  subst hts
  exact Collected.perm (left := fun _ => false) ⟨hD.nodup, fun x => by have := hD.mem x; unfold litS at this; rw [this]; simp⟩ hown lawTxt Tryz.underlying9 (fun _ => rfl)
set_option maxHeartbeats 1000000 in
theorem sortedRow (b n : Nat) (kvs : List (Txt × Value)) (ts : List Txt) (w : World) (h : OwnMapV w b n kvs) (hts : kvs.map Prod.fst = ts) (ht : ts.length ≤ 1000000) :
    Calls Tryz.prog 55 #[.func (.func 129) #[] #[.pointer (some ⟨w.heap.size, 0, none⟩)]] (w.alloc (.cells #[.map (some b)] 74)) fun e w' =>
      ∃ v, e = .returned v ∧ OwnS w.heap.size w' v ((ts.mergeSort leB).map bs) ∧ Below w.heap.size w w' := by
  obtain ⟨D, hown, hD⟩ := h
  have hbl := hown.lt
  have hsz : Maps.size D = ts.length := by rw [hD.size, ← hts, List.length_map]
  have hseq : SeqGives Fence.wide 2 Tryz.prog 129 #[.pointer (some ⟨w.heap.size, 0, none⟩)] encStr (fun ss => ss.Perm (strKeys D)) (Maps.size D) (w.alloc (.cells #[.map (some b)] 74)) :=
    AnyZ.keys_gives (ρ := Tryz.keysR_ren) { Tryz.keysR with } Fence.wide _ trivial rfl (by omega) w.heap.size b n D _ (by simp) (by simp) (hown.alloc _)
  have hc := (callsIn_wide (n := 5)).1 (AnyZ.sorted_in Tryz.sortedS Fence.wide 5 trivial trivial trivial trivial rfl (by omega) (sortsTxt _) (enters_of Tryz.func100 (by kernel_rfl) rfl) 129 #[.pointer (some ⟨w.heap.size, 0, none⟩)] trivial (enters_of Tryz.func129 (by kernel_rfl) rfl) _ _ (by unfold maxLen; omega) (by omega) _ hseq)
  refine hc.mono ?_
  rintro e w' ⟨v, ss, rfl, hS, hrow, _, hb⟩
  have hp : ss.mergeSort leB = ts.mergeSort leB := mergeSort_of_perm (hS.trans (map_keys hown hD hts).symm)
  have hl : ss.length = ((ts.mergeSort leB).map bs).length := by rw [List.length_map, ← hp, (List.mergeSort_perm ss leB).length_eq]
  refine ⟨v, rfl, ?_, ((Below.refl _ w).alloc (Nat.le_refl _) _).trans (hb.mono (by simp))⟩
  refine ownS_base (B := (w.alloc (.cells #[.map (some b)] 74)).heap.size) ?_ (by simp)
  have hv : ((ts.mergeSort leB).map bs).map strV = (ss.mergeSort leB).map encStr := by rw [hp, List.map_map]; rfl
  unfold OwnS
  rw [hv, ← hl]
  exact hrow
end Go.Proofs.YtmiiaebelncdhaaGreat
/- No right word has a byte 0: rows that are right are told by their texts. -/
namespace Go.Proofs.YtmiiaebelncdhaaGreat
theorem made_each {l : List UInt8} {m : Nat} {p : UInt8 → Bool} (h : made l m p = true) : ∀ c ∈ l, p c = true := by
  unfold made at h
  simp only [Bool.and_eq_true, List.all_eq_true] at h
  exact h.2
theorem unesc_zero : ∀ (l m : List UInt8), unesc l = some m → (0 : UInt8) ∈ l → (0 : UInt8) ∈ m
  | [], _, _, hc => by simp at hc
  | c :: r, m, h, hc => by
    unfold unesc at h
    split at h
    · simp at h
    split at h
    · simp at h
    split at h
    · cases hu : unesc r with
      | none => rw [hu] at h; simp at h
      | some m' =>
        rw [hu] at h
        simp only [Option.map_some, Option.some.injEq] at h
        subst h
        rcases List.mem_cons.1 hc with rfl | hc
        · exact List.mem_cons_self ..
        · exact List.mem_cons_of_mem _ (unesc_zero r m' hu hc)
    · rename_i h92
      have h0 : (0 : UInt8) ∈ r := by
        rcases List.mem_cons.1 hc with rfl | hc
        · exact absurd (by decide) h92
        · exact hc
      match r, h, h0 with
      | d :: r', h, h0 =>
        have tail : ∀ (x : UInt8) (m : List UInt8), (d = 0 → False) → (unesc r').map (x :: ·) = some m → (0 : UInt8) ∈ m := by
          intro x m hd hm
          cases hu : unesc r' with
          | none => rw [hu] at hm; simp at hm
          | some m' =>
            rw [hu] at hm
            simp only [Option.map_some, Option.some.injEq] at hm
            subst hm
            rcases List.mem_cons.1 h0 with e | h0
            · exact absurd e.symm hd
            · exact List.mem_cons_of_mem _ (unesc_zero r' m' hu h0)
        simp only at h
        split at h
        · rename_i hd
          exact tail _ _ (by rintro rfl; exact absurd hd (by decide)) h
        split at h
        · rename_i hd
          exact tail _ _ (by rintro rfl; exact absurd hd (by decide)) h
        split at h
        · rename_i hd
          exact tail _ _ (by rintro rfl; exact absurd hd (by decide)) h
        · simp at h
theorem no_zero {l : List UInt8} (h : kindL l ≠ 0) : (0 : UInt8) ∉ l := by
  cases l with
  | nil => simp
  | cons x r =>
    rw [kindL_cons] at h
    by_cases h1 : x = 60
    · rw [if_pos h1] at h
      by_cases g : r.getLast? = some 62
      · rw [if_pos g] at h
        cases hm : made r.dropLast 12 nameB
        · rw [hm] at h; simp at h
        · obtain ⟨q, hq⟩ := List.getLast?_eq_some_iff.1 g
          rw [hq, List.dropLast_concat] at hm
          rw [h1, hq]
          intro hc
          simp only [List.mem_cons, List.mem_append, List.not_mem_nil, or_false] at hc
          rcases hc with hc | hc | hc
          · exact absurd hc (by decide)
          · exact absurd (made_each hm _ hc) (by decide)
          · exact absurd hc (by decide)
      · rw [if_neg g] at h; simp at h
    rw [if_neg h1] at h
    by_cases h2 : x = 34
    · rw [if_pos h2] at h
      by_cases g : r.getLast? = some 34
      · rw [if_pos g] at h
        cases hm : textOk r.dropLast
        · rw [hm] at h; simp at h
        · obtain ⟨q, hq⟩ := List.getLast?_eq_some_iff.1 g
          rw [hq, List.dropLast_concat] at hm
          rw [h2, hq]
          unfold textOk at hm
          cases hu : unesc q with
          | none => rw [hu] at hm; simp at hm
          | some m =>
            have hz := unesc_zero q m hu
            rw [hu] at hm
            intro hc
            simp only [List.mem_cons, List.mem_append, List.not_mem_nil, or_false] at hc
            rcases hc with hc | hc | hc
            · exact absurd hc (by decide)
            · have h0 := hz hc
              simp only [Bool.or_eq_true] at hm
              rcases hm with hm | hm
              · cases m with
                | nil => simp at h0
                | cons _ _ => simp at hm
              · exact absurd (made_each hm _ h0) (by decide)
            · exact absurd hc (by decide)
      · rw [if_neg g] at h; simp at h
    rw [if_neg h2] at h
    by_cases h3 : x = 95
    · rw [if_pos h3] at h
      by_cases g : r.head? = some 58
      · rw [if_pos g] at h
        cases hm : made (r.drop 1) 6 labB
        · rw [hm] at h; simp at h
        · cases r with
          | nil => simp at g
          | cons y q =>
            simp only [List.head?_cons, Option.some.injEq] at g
            rw [h3, g]
            intro hc
            simp only [List.mem_cons] at hc
            rcases hc with hc | hc | hc
            · exact absurd hc (by decide)
            · exact absurd hc (by decide)
            · exact absurd (made_each hm _ (by simpa using hc)) (by decide)
      · rw [if_neg g] at h; simp at h
    rw [if_neg h3] at h
    by_cases h4 : x = 63
    · rw [if_pos h4] at h
      cases hm : made r 6 labB
      · rw [hm] at h; simp at h
      · rw [h4]
        intro hc
        simp only [List.mem_cons] at hc
        rcases hc with hc | hc
        · exact absurd hc (by decide)
        · exact absurd (made_each hm _ hc) (by decide)
    · rw [if_neg h4] at h; simp at h
theorem pairT_noZ {t : Pre2} (h : pairT t = true) : NoZ t := by
  unfold pairT isVarK isValK at h
  simp only [Bool.and_eq_true, Bool.or_eq_true, decide_eq_true_eq] at h
  exact ⟨no_zero (by omega), no_zero (by omega)⟩
theorem rowOk_noZ {r : RowV} (h : rowOk r = true) : ∀ t ∈ r, NoZ t := by
  unfold rowOk at h
  simp only [Bool.and_eq_true, decide_eq_true_eq] at h
  intro t ht
  exact pairT_noZ (gUpto_mem h.2 t ht)
theorem rowsOk_noZ {rs : List RowV} (h : rowsOkL rs = true) : ∀ r ∈ rs, ∀ t ∈ r, NoZ t := by
  unfold rowsOkL at h
  simp only [Bool.and_eq_true, List.all_eq_true] at h
  exact fun r hr => rowOk_noZ (h.2 r hr)
theorem keepL_noZ {names : List Txt} {r : RowV} (h : ∀ t ∈ r, NoZ t) : ∀ t ∈ keepL names r, NoZ t := fun t ht => h t (List.mem_filter.1 ht).1
end Go.Proofs.YtmiiaebelncdhaaGreat
/- Pairs in a slice, cell by cell; a copy of them. -/
namespace Go.Proofs.YtmiiaebelncdhaaGreat
open Go.RowKit Go.WideShapes
theorem flatP_append (a b : List Pre2) : flatP (a ++ b) = flatP a ++ flatP b := by simp [flatP]
theorem flatP_one (a : List Pre2) : ∀ u ∈ flatP a, u.oneCell' = true := by
  intro u hu
  unfold flatP at hu
  obtain ⟨t, _, hu⟩ := List.mem_flatMap.1 hu
  simp only [List.mem_cons, List.not_mem_nil, or_false] at hu
  rcases hu with rfl | rfl <;> rfl
theorem flatP_split (ts : List Pre2) (k : Nat) : flatP ts = flatP (ts.take k) ++ flatP (ts.drop k) := by rw [← flatP_append, List.take_append_drop]
/-- A slice's cells, one by one. -/
theorem IsPres.flatAt {w : World} {b off len cap : Nat} {ts : List Pre2} (h : IsPres w (some ⟨b, off, none⟩) len cap ts) (j : Nat) (u : Value) (hj : (flatP ts)[j]? = some u) : w.cell? ⟨b, off + j, none⟩ = some u := by
  have hl := h.len
  have hjl : j < ts.length * 2 := by rw [← flatP_len]; exact (List.getElem?_eq_some_iff.1 hj).1
  rcases h with ⟨h, _⟩ | ⟨x, hx, h1, h2, h3, h4⟩
  · cases h
  · cases hx
    obtain ⟨q, r, hr, rfl⟩ : ∃ q r, r < 2 ∧ j = q * 2 + r := ⟨j / 2, j % 2, by omega, by omega⟩
    have hq : q < ts.length := by omega
    have e := List.getElem?_eq_getElem hq
    obtain ⟨c0, c1, _⟩ := h4 q _ e
    rw [add_plain] at c0 c1
    obtain ⟨f0, f1⟩ := flatP_at ts q _ e
    have hm : r = 0 ∨ r = 1 := by omega
    rcases hm with rfl | rfl
    · rw [Nat.add_zero, f0] at hj; rw [← hj, ← c0, Nat.mul_comm 2 q]; rfl
    · rw [f1] at hj; rw [← hj, ← c1, Nat.mul_comm 2 q]
theorem IsPres.front {w : World} {b off len cap : Nat} {ts : List Pre2} (h : IsPres w (some ⟨b, off, none⟩) len cap ts) (k : Nat) : ∀ (j : Nat) (u : Value), (flatP (ts.take k))[j]? = some u → w.cell? ((⟨b, off, none⟩ : Addr).add j) = some u := by
  intro j u hj
  rw [add_plain]
  refine h.flatAt j u ?_
  rw [flatP_split ts k, List.getElem?_append_left (List.getElem?_eq_some_iff.1 hj).1]
  exact hj
theorem IsPres.back {w : World} {b off len cap : Nat} {ts : List Pre2} (h : IsPres w (some ⟨b, off, none⟩) len cap ts) (k : Nat) (hk : k ≤ ts.length) : ∀ (j : Nat) (u : Value), (flatP (ts.drop k))[j]? = some u → w.cell? ((⟨b, off + k * 2, none⟩ : Addr).add j) = some u := by
  intro j u hj
  rw [add_plain, Nat.add_assoc]
  refine h.flatAt (k * 2 + j) u ?_
  have e : (flatP (ts.take k)).length = k * 2 := by rw [flatP_len, List.length_take, Nat.min_eq_left hk]
  rw [flatP_split ts k, List.getElem?_append_right (by omega), e, Nat.add_sub_cancel_left]
  exact hj
theorem pres_news {w : World} {x : Addr} {ts : List Pre2} (h4 : ∀ (i : Nat) (t : Pre2), ts[i]? = some t → PreAt w x i t) (j : Nat) (u : Value) (hj : (flatP ts)[j]? = some u) : w.cell? (x.add j) = some u := by
  have hjl : j < ts.length * 2 := by rw [← flatP_len]; exact (List.getElem?_eq_some_iff.1 hj).1
  obtain ⟨q, r, hr, rfl⟩ : ∃ q r, r < 2 ∧ j = q * 2 + r := ⟨j / 2, j % 2, by omega, by omega⟩
  have e := List.getElem?_eq_getElem (show q < ts.length by omega)
  obtain ⟨c0, c1, _⟩ := h4 q _ e
  obtain ⟨f0, f1⟩ := flatP_at ts q _ e
  have hm : r = 0 ∨ r = 1 := by omega
  rcases hm with rfl | rfl
  · rw [Nat.add_zero, f0] at hj; rw [← hj, ← c0, Nat.mul_comm 2 q]; rfl
  · rw [f1] at hj; rw [← hj, ← c1, Nat.mul_comm 2 q]
set_option maxRecDepth 100000 in
set_option maxHeartbeats 1600000 in
theorem clonePair (a : Option Addr) (len cap : Nat) (ts : List Pre2) (w : World) (h : IsPres w a len cap ts) (hl : len ≤ 1048576) :
    Calls Tryz.prog 64 #[.slice a len cap] w (CopyPostP ts w) := by
  have q28 : ∀ (w : World) (a : Option Addr) (n c n' c' : Nat), (binOp .eql 36 (.slice a n c) (.slice none n' c')).run Tryz.prog w = .ok (.bool a.isNone) w := fun w a n c n' c' => Lib.run_eql_slice_nil w _ _ a n c n' c' Tryz.underlying36
  obtain ⟨i0, hi, hz0, hz1, hz2⟩ := info_parts infoPair
  rcases h with ⟨rfl, rfl, rfl, rfl⟩ | ⟨x, rfl, h1, h2, h3, h4⟩
  · go_enter Tryz.func64, Tryz.ntmps64
    go_wp2_with fail
    go_ret
    exact ⟨_, rfl, ⟨rfl, .inl ⟨rfl, rfl⟩⟩, Below.refl _ _⟩
  · have A := Lib.hid (fun j u hj => pres_news h4 j u hj)
    have H3 := Lib.hid h3
    have HF := Lib.hid (flatP_one ts)
    clear h4 h3
    go_enter Tryz.func64, Tryz.ntmps64
    go_wp2_with (at_builtin; refine wpList_append_own _ rfl _ _ 36 rfl w.heap.size 39 i0 (.agg #[.string ⟨#[]⟩, .string ⟨#[]⟩]) 2 32 Tryz.underlying36 hi hz0 hz1 hz2 rfl (by decide) _ _ _ rfl (World.ownsRow_made w #[] 0 (Nat.le_refl _) (Nat.zero_le _) (by simp)) x len cap (flatP ts) rfl ?qc1 ?qc2 ?qc3 ?qc4 ?qc5 ?qc6 ?_)
    case qc1 => rw [flatP_len, H3.out]
    case qc2 => exact fun j u hj => Lib.cell?_alloc_some _ (A.out j u hj)
    case qc3 => exact HF.out
    case qc4 => unfold maxLen; omega
    case qc5 => omega
    case qc6 => simp
    intro v' w1 hown hgrow _
    go_wp2_with fail
    go_ret
    exact ⟨v', rfl, by unfold OwnP; rw [H3.out]; simpa using hown, ((Below.refl _ w).alloc (Nat.le_refl _) _).grown hgrow (by simp) (by intro k hk; simp [Value.ownBlock] at hk; omega)⟩
end Go.Proofs.YtmiiaebelncdhaaGreat
