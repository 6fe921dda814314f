/- Rows that rise by their texts, with one more: plain facts. -/
import Derived.Test.YtiajdnhmjdfeeaaGreatG21
import Derived.Shelf.SlIter.Nil
import Derived.Shelf.SortM.Plain
import Derived.Shelf.SortM.SortNone
import Derived.Shelf.SlGeneric
import Derived.Ground.GgzProg
import Derived.Ground.SlgmProg
import Derived.Test.YtiajdnhmjdfeeaaGreatProg
import Derived.Test.YtiajdnhmjdfeeaaGreatG15
import Derived.Sort.EveryDepth
import Derived.StillTailTactics
namespace Go.Proofs.YtiajdnhmjdfeeaaGreat
open Go.Maps Go.RowKit
/-- Rows in order, with one more. -/
def addR (rs : List RowV) (r : RowV) : List RowV :=
  if (rs.map rowTextL)[atS (rowTextL r) (rs.map rowTextL)]? = some (rowTextL r) then rs
  else (rs.take (atS (rowTextL r) (rs.map rowTextL)) ++ [r]) ++ rs.drop (atS (rowTextL r) (rs.map rowTextL))
def addAllR (rs : List RowV) (l : List RowV) : List RowV := l.foldl addR rs
theorem addR_same {rs : List RowV} {r : RowV} {k : Nat} (h : atS (rowTextL r) (rs.map rowTextL) = k) (hk : (rs.map rowTextL)[k]? = some (rowTextL r)) : addR rs r = rs := by unfold addR; rw [if_pos (by rw [h]; exact hk)]
theorem addR_more {rs : List RowV} {r : RowV} {k : Nat} (h : atS (rowTextL r) (rs.map rowTextL) = k) (hk : (rs.map rowTextL)[k]? ≠ some (rowTextL r)) : addR rs r = (rs.take k ++ [r]) ++ rs.drop k := by unfold addR; rw [if_neg (by rw [h]; exact hk), h]
theorem addR_keys (rs : List RowV) (r : RowV) : (addR rs r).map rowTextL = putS (rs.map rowTextL) (rowTextL r) := by
  unfold addR putS
  split
  · rfl
  · simp
theorem addR_mem {rs : List RowV} {r s : RowV} (h : s ∈ addR rs r) : s ∈ rs ∨ s = r := by
  unfold addR at h
  split at h
  · exact .inl h
  · simp only [List.mem_append, List.mem_singleton] at h
    rcases h with (h | h) | h
    · exact .inl (List.mem_of_mem_take h)
    · exact .inr h
    · exact .inl (List.mem_of_mem_drop h)
theorem addAllR_snoc (rs l : List RowV) (r : RowV) : addAllR rs (l ++ [r]) = addR (addAllR rs l) r := by unfold addAllR; rw [List.foldl_append]; rfl
theorem addAllR_keys : ∀ (l rs : List RowV), (addAllR rs l).map rowTextL = putAllS (rs.map rowTextL) (l.map rowTextL)
  | [], _ => rfl
  | r :: l, rs => by
    show (addAllR (addR rs r) l).map rowTextL = putAllS (putS (rs.map rowTextL) (rowTextL r)) (l.map rowTextL)
    rw [addAllR_keys l, addR_keys]
theorem addAllR_mem {s : RowV} : ∀ {l rs : List RowV}, s ∈ addAllR rs l → s ∈ rs ∨ s ∈ l
  | [], _, h => .inl h
  | r :: l, rs, h => by
    rcases addAllR_mem (l := l) (rs := addR rs r) h with h | h
    · rcases addR_mem h with h | rfl
      · exact .inl h
      · exact .inr (List.mem_cons_self ..)
    · exact .inr (List.mem_cons_of_mem _ h)
theorem addR_len (rs : List RowV) (r : RowV) : (addR rs r).length ≤ rs.length + 1 := by
  have h := congrArg List.length (addR_keys rs r)
  rw [List.length_map] at h
  have := putS_len (rs.map rowTextL) (rowTextL r)
  rw [List.length_map] at this
  omega
theorem addAllR_len : ∀ (l rs : List RowV), (addAllR rs l).length ≤ rs.length + l.length
  | [], _ => Nat.le_refl _
  | r :: l, rs => by
    have h1 := addAllR_len l (addR rs r)
    have h2 := addR_len rs r
    show (addAllR (addR rs r) l).length ≤ _
    rw [List.length_cons]; omega
/-- Rows without a byte 0 are told by their texts. -/
theorem rows_of_keys : ∀ {r s : List RowV}, (∀ x ∈ r, ∀ t ∈ x, NoZ t) → (∀ x ∈ s, ∀ t ∈ x, NoZ t) → r.map rowTextL = s.map rowTextL → r = s
  | [], [], _, _, _ => rfl
  | [], _ :: _, _, _, h => by simp at h
  | _ :: _, [], _, _, h => by simp at h
  | x :: r, y :: s, hr, hs, h => by
    simp only [List.map_cons, List.cons.injEq] at h
    rw [rowTextL_inj x y (hr x (List.mem_cons_self ..)) (hs y (List.mem_cons_self ..)) h.1,
      rows_of_keys (fun z hz => hr z (List.mem_cons_of_mem _ hz)) (fun z hz => hs z (List.mem_cons_of_mem _ hz)) h.2]
/-- What was put by its text: the texts, each once, and behind each a row of that text. -/
theorem putV_keys : ∀ (rs : List RowV) (us : List Value) (kvs : List (Txt × Value)), us.length = rs.length → (putV kvs rs us).map Prod.fst = addAllS (kvs.map Prod.fst) (rs.map rowTextL)
  | [], [], _, _ => rfl
  | [], _ :: _, _, h => by simp at h
  | _ :: _, [], _, h => by simp at h
  | r :: rs, u :: us, kvs, h => by
    show (putV (addV kvs (rowTextL r) u) rs us).map Prod.fst = addAllS (addS (kvs.map Prod.fst) (rowTextL r)) (rs.map rowTextL)
    rw [putV_keys rs us _ (by simpa using h), addV_keys]
theorem putV_from : ∀ (rs : List RowV) (us : List Value) (kvs : List (Txt × Value)) (p : Txt × Value), us.length = rs.length → p ∈ putV kvs rs us → p ∈ kvs ∨ ∃ (i : Nat) (r : RowV), us[i]? = some p.2 ∧ rs[i]? = some r ∧ rowTextL r = p.1
  | [], [], _, _, _, h => .inl h
  | [], _ :: _, _, _, h, _ => by simp at h
  | _ :: _, [], _, _, h, _ => by simp at h
  | r :: rs, u :: us, kvs, p, h, hp => by
    rcases putV_from rs us (addV kvs (rowTextL r) u) p (by simpa using h) hp with hp | ⟨i, s, h1, h2, h3⟩
    · rcases addV_mem hp with rfl | ⟨_, hp⟩
      · exact .inr ⟨0, r, rfl, rfl, rfl⟩
      · exact .inl hp
    · exact .inr ⟨i + 1, s, by simpa using h1, by simpa using h2, h3⟩
end Go.Proofs.YtiajdnhmjdfeeaaGreat
/-
  DERIVED: THE SHELF's CONTRACTS AT THIS DUMP, IN PLAIN WORDS (tools/lay-plain.mjs out of 'ItxShelf.lean', which tools/lay-shelf.mjs wrote): THE SAME DECLARATIONS UNDER THE SAME NAMES: 'import', 'namespace', 'open', 'def', 'theorem' AND NOTHING ELSE: no command of the shelf's: FOR A HAND-IN. Each laying: the table of numbers ('.._ren') and one theorem, a field a fact of the dump's own or the kernel's comparison; each contract: ONE APPLICATION.
-/
namespace Go.Proofs
open Go.Shelf
def Tryz.keysR_ren : Go.Shelf.Ren := ⟨fun | 7 => 120 | 10 => 162 | n => n, fun | 23 => 107 | 26 => 9 | 3 => 50 | 28 => 121 | 0 => 0 | 27 => 120 | 33 => 118 | 4 => 4 | n => n, fun | n => n⟩
theorem Tryz.keysR : Go.Proofs.SlLaysZ.n7 Tryz.prog Tryz.keysR_ren := {
  mixed := by kernel_rfl
  f7 := ⟨Tryz.f120.name, by decide, Tryz.func120.trans (congrArg some (by kernel_rfl))⟩
  f10 := ⟨Tryz.f162.name, by decide, Tryz.func162.trans (congrArg some (by kernel_rfl))⟩
  t0 := Tryz.underlying0
  a0 := Tryz.isAgg0
  z0 := Tryz.sizeOf0
  v0 := Tryz.zeroValue0
  t4 := Tryz.underlying4
  a4 := Tryz.isAgg4
  z4 := Tryz.sizeOf4
  v4 := Tryz.zeroValue4
  t23 := Tryz.underlying107
  a23 := Tryz.isAgg107
  z23 := Tryz.sizeOf107
  v23 := Tryz.zeroValue107
  t26 := Tryz.underlying9
  a26 := Tryz.isAgg9
  z26 := Tryz.sizeOf9
  v26 := Tryz.zeroValue9
  t27 := Tryz.underlying120
  a27 := Tryz.isAgg120
  z27 := Tryz.sizeOf120
  v27 := Tryz.zeroValue120
  t28 := Tryz.underlying121
  a28 := Tryz.isAgg121
  z28 := Tryz.sizeOf121
  v28 := Tryz.zeroValue121
  t33 := Tryz.underlying118
  a33 := Tryz.isAgg118
  z33 := Tryz.sizeOf118
  v33 := Tryz.zeroValue118 }
end Go.Proofs
/- The texts of a map of rows, sorted: a slice of the call's own. -/
namespace Go.Proofs.YtiajdnhmjdfeeaaGreat
open Go.RowKit Go.Maps Go.Sort Go.Shelf
theorem keysRow (b : Nat) (W : World) : Calls Tryz.prog 120 #[.map (some b)] W fun e w' =>
    e = .returned (.func (.func 162) #[] #[.pointer (some ⟨W.heap.size, 0, none⟩)]) ∧ w' = W.alloc (.cells #[.map (some b)] 107) :=
  (callsIn_wide (n := 5)).1 (AnyZ.keys_in Tryz.keysR Fence.wide 5 trivial rfl (some b) W)
theorem map_keys {w : World} {b n : Nat} {D : DataW Value} {R : Value → Option (DataW Value × List MemPlace)} {kvs : List (Txt × Value)} {ts : List Txt} (hown : w.ownsMap Tryz.prog 9 R b n D) (hD : MapOfV D kvs) (hts : kvs.map Prod.fst = ts) : ts.Perm (strKeys D) := by
  subst hts
  exact Collected.perm (left := fun _ => false) ⟨hD.nodup, fun x => by have := hD.mem x; unfold litS at this; rw [this]; simp⟩ hown lawTxt Tryz.underlying9 (fun _ => rfl)
set_option maxHeartbeats 1000000 in
theorem sortedRow (b n : Nat) (kvs : List (Txt × Value)) (ts : List Txt) (w : World) (h : OwnMapV w b n kvs) (hts : kvs.map Prod.fst = ts) (ht : ts.length ≤ 1000000) :
    Calls Tryz.prog 84 #[.func (.func 162) #[] #[.pointer (some ⟨w.heap.size, 0, none⟩)]] (w.alloc (.cells #[.map (some b)] 107)) fun e w' =>
      ∃ v, e = .returned v ∧ OwnS w.heap.size w' v ((ts.mergeSort leB).map bs) ∧ Below w.heap.size w w' := by
  obtain ⟨D, hown, hD⟩ := h
  have hbl := hown.lt
  have hsz : Maps.size D = ts.length := by rw [hD.size, ← hts, List.length_map]
  have hseq : SeqGives Fence.wide 2 Tryz.prog 162 #[.pointer (some ⟨w.heap.size, 0, none⟩)] encStr (fun ss => ss.Perm (strKeys D)) (Maps.size D) (w.alloc (.cells #[.map (some b)] 107)) :=
    AnyZ.keys_gives (ρ := Tryz.keysR_ren) { Tryz.keysR with } Fence.wide _ trivial rfl (by omega) w.heap.size b n D _ (by simp) (by simp) (hown.alloc _)
  have hc := (callsIn_wide (n := 5)).1 (AnyZ.sorted_in Tryz.sortedS Fence.wide 5 trivial trivial trivial trivial rfl (by omega) (sortsTxt _) (enters_of Tryz.func128 (by kernel_rfl) rfl) 162 #[.pointer (some ⟨w.heap.size, 0, none⟩)] trivial (enters_of Tryz.func162 (by kernel_rfl) rfl) _ _ (by unfold maxLen; omega) (by omega) _ hseq)
  refine hc.mono ?_
  rintro e w' ⟨v, ss, rfl, hS, hrow, _, hb⟩
  have hp : ss.mergeSort leB = ts.mergeSort leB := mergeSort_of_perm (hS.trans (map_keys hown hD hts).symm)
  have hl : ss.length = ((ts.mergeSort leB).map bs).length := by rw [List.length_map, ← hp, (List.mergeSort_perm ss leB).length_eq]
  refine ⟨v, rfl, ?_, ((Below.refl _ w).alloc (Nat.le_refl _) _).trans (hb.mono (by simp))⟩
  refine ownS_base (B := (w.alloc (.cells #[.map (some b)] 107)).heap.size) ?_ (by simp)
  have hv : ((ts.mergeSort leB).map bs).map strV = (ss.mergeSort leB).map encStr := by rw [hp, List.map_map]; rfl
  unfold OwnS
  rw [hv, ← hl]
  exact hrow
end Go.Proofs.YtiajdnhmjdfeeaaGreat
