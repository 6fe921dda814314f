/- DERIVED: THE SHELF's CONTRACTS AT THIS DUMP, IN PLAIN WORDS (tools/lay-plain.mjs out of 'ItxShelf.lean', which tools/lay-shelf.mjs wrote): THE SAME DECLARATIONS UNDER THE SAME NAMES: 'import', 'namespace', 'open', 'def', 'theorem' AND NOTHING ELSE: no command of the shelf's: FOR A HAND-IN. Each laying: the table of numbers ('.._ren') and one theorem, a field a fact of the dump's own or the kernel's comparison; each contract: ONE APPLICATION.; The texts of a map of rows, sorted: a slice of the call's own.; No right word has a byte 0: rows that are right are told by their texts. -/
import Derived.Shelf.SlIter.Nil
import Derived.Shelf.SortM.Plain
import Derived.Shelf.SortM.SortNone
import Derived.Shelf.SlGeneric
import Derived.Ground.GgzProg
import Derived.Ground.SlgmProg
import Derived.Test.YtiajdnhmjdfeeaaGreatProg
import Derived.Test.YtiajdnhmjdfeeaaGreatK28
import Derived.Test.YtiajdnhmjdfeeaaGreatK11
import Derived.Sort.EveryDepth
import Derived.StillTailTactics
import Derived.Test.YtiajdnhmjdfeeaaGreatK06
namespace Go.Proofs
open Go.Shelf
def Tryz.keysR_ren : Go.Shelf.Ren := ⟨fun | 7 => 120 | 10 => 162 | n => n, fun | 23 => 107 | 26 => 9 | 3 => 50 | 28 => 121 | 0 => 0 | 27 => 120 | 33 => 118 | 4 => 4 | n => n, fun | n => n⟩
theorem Tryz.keysR : Go.Proofs.SlLaysZ.n7 Tryz.prog Tryz.keysR_ren := {
  mixed := by kernel_rfl
  f7 := ⟨Tryz.f120.name, by decide, Tryz.func120.trans (congrArg some (by kernel_rfl))⟩
  f10 := ⟨Tryz.f162.name, by decide, Tryz.func162.trans (congrArg some (by kernel_rfl))⟩
  t0 := Tryz.underlying0
  a0 := Tryz.isAgg0
  z0 := Tryz.sizeOf0
  v0 := Tryz.zeroValue0
  t4 := Tryz.underlying4
  a4 := Tryz.isAgg4
  z4 := Tryz.sizeOf4
  v4 := Tryz.zeroValue4
  t23 := Tryz.underlying107
  a23 := Tryz.isAgg107
  z23 := Tryz.sizeOf107
  v23 := Tryz.zeroValue107
  t26 := Tryz.underlying9
  a26 := Tryz.isAgg9
  z26 := Tryz.sizeOf9
  v26 := Tryz.zeroValue9
  t27 := Tryz.underlying120
  a27 := Tryz.isAgg120
  z27 := Tryz.sizeOf120
  v27 := Tryz.zeroValue120
  t28 := Tryz.underlying121
  a28 := Tryz.isAgg121
  z28 := Tryz.sizeOf121
  v28 := Tryz.zeroValue121
  t33 := Tryz.underlying118
  a33 := Tryz.isAgg118
  z33 := Tryz.sizeOf118
  v33 := Tryz.zeroValue118 }
end Go.Proofs
namespace Go.Proofs.YtiajdnhmjdfeeaaGreat
open Go.RowKit Go.Maps Go.Sort Go.Shelf
theorem keysRow (b : Nat) (W : World) : Calls Tryz.prog 120 #[.map (some b)] W fun e w' =>
    e = .returned (.func (.func 162) #[] #[.pointer (some ⟨W.heap.size, 0, none⟩)]) ∧ w' = W.alloc (.cells #[.map (some b)] 107) :=
  (callsIn_wide (n := 5)).1 (AnyZ.keys_in Tryz.keysR Fence.wide 5 trivial rfl (some b) W)
theorem map_keys {w : World} {b n : Nat} {D : DataW Value} {R : Value → Option (DataW Value × List MemPlace)} {kvs : List (Txt × Value)} {ts : List Txt} (hown : w.ownsMap Tryz.prog 9 R b n D) (hD : MapOfV D kvs) (hts : kvs.map Prod.fst = ts) : ts.Perm (strKeys D) := by
  subst hts
  exact Collected.perm (left := fun _ => false) ⟨hD.nodup, fun x => by have := hD.mem x; unfold litS at this; rw [this]; simp⟩ hown lawTxt Tryz.underlying9 (fun _ => rfl)
set_option maxHeartbeats 1000000 in
theorem sortedRow (b n : Nat) (kvs : List (Txt × Value)) (ts : List Txt) (w : World) (h : OwnMapV w b n kvs) (hts : kvs.map Prod.fst = ts) (ht : ts.length ≤ 1000000) :
    Calls Tryz.prog 84 #[.func (.func 162) #[] #[.pointer (some ⟨w.heap.size, 0, none⟩)]] (w.alloc (.cells #[.map (some b)] 107)) fun e w' =>
      ∃ v, e = .returned v ∧ OwnS w.heap.size w' v ((ts.mergeSort leB).map bs) ∧ Below w.heap.size w w' := by
  obtain ⟨D, hown, hD⟩ := h
  have hbl := hown.lt
  have hsz : Maps.size D = ts.length := by rw [hD.size, ← hts, List.length_map]
  have hseq : SeqGives Fence.wide 2 Tryz.prog 162 #[.pointer (some ⟨w.heap.size, 0, none⟩)] encStr (fun ss => ss.Perm (strKeys D)) (Maps.size D) (w.alloc (.cells #[.map (some b)] 107)) :=
    AnyZ.keys_gives (ρ := Tryz.keysR_ren) { Tryz.keysR with } Fence.wide _ trivial rfl (by omega) w.heap.size b n D _ (by simp) (by simp) (hown.alloc _)
  have hc := (callsIn_wide (n := 5)).1 (AnyZ.sorted_in Tryz.sortedS Fence.wide 5 trivial trivial trivial trivial rfl (by omega) (sortsTxt _) (enters_of Tryz.func128 (by kernel_rfl) rfl) 162 #[.pointer (some ⟨w.heap.size, 0, none⟩)] trivial (enters_of Tryz.func162 (by kernel_rfl) rfl) _ _ (by unfold maxLen; omega) (by omega) _ hseq)
  refine hc.mono ?_
  rintro e w' ⟨v, ss, rfl, hS, hrow, _, hb⟩
  have hp : ss.mergeSort leB = ts.mergeSort leB := mergeSort_of_perm (hS.trans (map_keys hown hD hts).symm)
  have hl : ss.length = ((ts.mergeSort leB).map bs).length := by rw [List.length_map, ← hp, (List.mergeSort_perm ss leB).length_eq]
  refine ⟨v, rfl, ?_, ((Below.refl _ w).alloc (Nat.le_refl _) _).trans (hb.mono (by simp))⟩
  refine ownS_base (B := (w.alloc (.cells #[.map (some b)] 107)).heap.size) ?_ (by simp)
  have hv : ((ts.mergeSort leB).map bs).map strV = (ss.mergeSort leB).map encStr := by rw [hp, List.map_map]; rfl
  unfold OwnS
  rw [hv, ← hl]
  exact hrow
end Go.Proofs.YtiajdnhmjdfeeaaGreat
namespace Go.Proofs.YtiajdnhmjdfeeaaGreat
theorem made_each {l : List UInt8} {m : Nat} {p : UInt8 → Bool} (h : made l m p = true) : ∀ c ∈ l, p c = true := by
  unfold made at h
  simp only [Bool.and_eq_true, List.all_eq_true] at h
  exact h.2
theorem unesc_zero : ∀ (l m : List UInt8), unesc l = some m → (0 : UInt8) ∈ l → (0 : UInt8) ∈ m
  | [], _, _, hc => by simp at hc
  | c :: r, m, h, hc => by
    unfold unesc at h
    split at h
    · simp at h
    split at h
    · simp at h
    split at h
    · cases hu : unesc r with
      | none => rw [hu] at h; simp at h
      | some m' =>
        rw [hu] at h
        simp only [Option.map_some, Option.some.injEq] at h
        subst h
        rcases List.mem_cons.1 hc with rfl | hc
        · exact List.mem_cons_self ..
        · exact List.mem_cons_of_mem _ (unesc_zero r m' hu hc)
    · rename_i h92
      have h0 : (0 : UInt8) ∈ r := by
        rcases List.mem_cons.1 hc with rfl | hc
        · exact absurd (by decide) h92
        · exact hc
      match r, h, h0 with
      | d :: r', h, h0 =>
        have tail : ∀ (x : UInt8) (m : List UInt8), (d = 0 → False) → (unesc r').map (x :: ·) = some m → (0 : UInt8) ∈ m := by
          intro x m hd hm
          cases hu : unesc r' with
          | none => rw [hu] at hm; simp at hm
          | some m' =>
            rw [hu] at hm
            simp only [Option.map_some, Option.some.injEq] at hm
            subst hm
            rcases List.mem_cons.1 h0 with e | h0
            · exact absurd e.symm hd
            · exact List.mem_cons_of_mem _ (unesc_zero r' m' hu h0)
        simp only at h
        split at h
        · rename_i hd
          exact tail _ _ (by rintro rfl; exact absurd hd (by decide)) h
        split at h
        · rename_i hd
          exact tail _ _ (by rintro rfl; exact absurd hd (by decide)) h
        split at h
        · rename_i hd
          exact tail _ _ (by rintro rfl; exact absurd hd (by decide)) h
        · simp at h
theorem no_zero {l : List UInt8} (h : kindL l ≠ 0) : (0 : UInt8) ∉ l := by
  cases l with
  | nil => simp
  | cons x r =>
    rw [kindL_cons] at h
    by_cases h1 : x = 60
    · rw [if_pos h1] at h
      by_cases g : r.getLast? = some 62
      · rw [if_pos g] at h
        cases hm : made r.dropLast 12 nameB
        · rw [hm] at h; simp at h
        · obtain ⟨q, hq⟩ := List.getLast?_eq_some_iff.1 g
          rw [hq, List.dropLast_concat] at hm
          rw [h1, hq]
          intro hc
          simp only [List.mem_cons, List.mem_append, List.not_mem_nil, or_false] at hc
          rcases hc with hc | hc | hc
          · exact absurd hc (by decide)
          · exact absurd (made_each hm _ hc) (by decide)
          · exact absurd hc (by decide)
      · rw [if_neg g] at h; simp at h
    rw [if_neg h1] at h
    by_cases h2 : x = 34
    · rw [if_pos h2] at h
      by_cases g : r.getLast? = some 34
      · rw [if_pos g] at h
        cases hm : textOk r.dropLast
        · rw [hm] at h; simp at h
        · obtain ⟨q, hq⟩ := List.getLast?_eq_some_iff.1 g
          rw [hq, List.dropLast_concat] at hm
          rw [h2, hq]
          unfold textOk at hm
          cases hu : unesc q with
          | none => rw [hu] at hm; simp at hm
          | some m =>
            have hz := unesc_zero q m hu
            rw [hu] at hm
            intro hc
            simp only [List.mem_cons, List.mem_append, List.not_mem_nil, or_false] at hc
            rcases hc with hc | hc | hc
            · exact absurd hc (by decide)
            · have h0 := hz hc
              simp only [Bool.or_eq_true] at hm
              rcases hm with hm | hm
              · cases m with
                | nil => simp at h0
                | cons _ _ => simp at hm
              · exact absurd (made_each hm _ h0) (by decide)
            · exact absurd hc (by decide)
      · rw [if_neg g] at h; simp at h
    rw [if_neg h2] at h
    by_cases h3 : x = 95
    · rw [if_pos h3] at h
      by_cases g : r.head? = some 58
      · rw [if_pos g] at h
        cases hm : made (r.drop 1) 6 labB
        · rw [hm] at h; simp at h
        · cases r with
          | nil => simp at g
          | cons y q =>
            simp only [List.head?_cons, Option.some.injEq] at g
            rw [h3, g]
            intro hc
            simp only [List.mem_cons] at hc
            rcases hc with hc | hc | hc
            · exact absurd hc (by decide)
            · exact absurd hc (by decide)
            · exact absurd (made_each hm _ (by simpa using hc)) (by decide)
      · rw [if_neg g] at h; simp at h
    rw [if_neg h3] at h
    by_cases h4 : x = 63
    · rw [if_pos h4] at h
      cases hm : made r 6 labB
      · rw [hm] at h; simp at h
      · rw [h4]
        intro hc
        simp only [List.mem_cons] at hc
        rcases hc with hc | hc
        · exact absurd hc (by decide)
        · exact absurd (made_each hm _ hc) (by decide)
    · rw [if_neg h4] at h; simp at h
theorem pairT_noZ {t : Pre2} (h : pairT t = true) : NoZ t := by
  unfold pairT isVarK isValK at h
  simp only [Bool.and_eq_true, Bool.or_eq_true, decide_eq_true_eq] at h
  exact ⟨no_zero (by omega), no_zero (by omega)⟩
theorem rowOk_noZ {r : RowV} (h : rowOk r = true) : ∀ t ∈ r, NoZ t := by
  unfold rowOk at h
  simp only [Bool.and_eq_true, decide_eq_true_eq] at h
  intro t ht
  exact pairT_noZ (gUpto_mem h.2 t ht)
theorem rowsOk_noZ {rs : List RowV} (h : rowsOkL rs = true) : ∀ r ∈ rs, ∀ t ∈ r, NoZ t := by
  unfold rowsOkL at h
  simp only [Bool.and_eq_true, List.all_eq_true] at h
  exact fun r hr => rowOk_noZ (h.2 r hr)
theorem keepL_noZ {names : List Txt} {r : RowV} (h : ∀ t ∈ r, NoZ t) : ∀ t ∈ keepL names r, NoZ t := fun t ht => h t (List.mem_filter.1 ht).1
end Go.Proofs.YtiajdnhmjdfeeaaGreat
