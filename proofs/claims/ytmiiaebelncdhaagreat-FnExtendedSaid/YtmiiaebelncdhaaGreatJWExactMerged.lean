/- The walk of FnExactMerged. -/
import Derived.Test.YtmiiaebelncdhaaGreatG00
import Derived.Test.YtmiiaebelncdhaaGreatG39
import Derived.Test.YtmiiaebelncdhaaGreatG40
namespace Go.Proofs.YtmiiaebelncdhaaGreat
open Go.RowKit Go.WideShapes
namespace fnExactMerged
theorem res_ok (ts us : List Pre2) : ((mergedP ts us).getD []).length ≤ 12 ∧ ∀ u ∈ (mergedP ts us).getD [], u ∈ ts ∨ u ∈ us := by
  cases h : mergedP ts us with
  | none => simp
  | some g =>
    obtain ⟨_, _, hg, hp⟩ := merged_parts h
    exact ⟨row_len hg, fun u hu => putAllP_mem hp hu⟩
theorem resP {la lb : List Pre2} {w w' : World} {e : Ending} (h : MergePost la lb w e w') : ∃ v, e = .returned (.tuple #[v, .bool (mergedP la lb).isSome]) ∧ OwnP w.heap.size w' v ((mergedP la lb).getD []) ∧ Below w.heap.size w w' := by
  rcases h with ⟨v, g, rfl, hm, ho, hb⟩ | ⟨rfl, hm, hb⟩
  · exact ⟨v, by rw [hm]; rfl, by rw [hm]; exact ho, hb⟩
  · exact ⟨_, by rw [hm]; rfl, by rw [hm]; exact World.ownsRow_nil .., hb⟩
theorem implMergedR (a b : Option Addr) (la ca lb cb : Nat) (ls ms : List Pre2) (w : World) (ha : IsPres w a la ca ls) (hb : IsPres w b lb cb ms) (hsa : SmP ls) (hsb : SmP ms) :
    Calls Tryz.prog 24 #[.slice a la ca, .slice b lb cb] w (fun e w' => ∃ v, e = .returned (.tuple #[v, .bool (mergedP ls ms).isSome]) ∧ OwnP w.heap.size w' v ((mergedP ls ms).getD []) ∧ Below w.heap.size w w') :=
  (implMerged a b la ca lb cb ls ms w ha hb hsa hsb).mono fun _ _ h => resP h
theorem own_nextP {B : Nat} {w w' : World} {v : Value} {ts : List Pre2} (h : OwnP B w v ts) (hb : w.grownBy w' none) : OwnP B w' v ts := by
  refine World.ownsRow.kept h hb ?_
  cases v.ownBlock
  · exact .inl rfl
  · exact .inr (by simp)
theorem dig_len : ∀ n : Nat, (dig n).length ≤ n := by
  intro n
  induction n using Nat.strongRecOn with
  | _ n ih =>
    rcases Nat.eq_zero_or_pos n with rfl | h
    · rw [dig_zero]; simp
    · rw [dig_step h, List.length_append, List.length_singleton]
      have := ih (n / 10) (by omega)
      omega
theorem marks_small (n : Nat) (hn : n ≤ 12) : ∀ t ∈ marksP n, t.1.size ≤ maxLen ∧ t.2.size ≤ maxLen := by
  intro t ht
  unfold marksP at ht
  obtain ⟨i, hi, rfl⟩ := List.mem_map.1 ht
  have hi := List.mem_range.1 hi
  have a := dig_len (1 + 2 * i)
  have b := dig_len (1 + 2 * i + 1)
  unfold markP mark maxLen
  simp only [bs_size, List.length_cons]
  omega
end fnExactMerged
end Go.Proofs.YtmiiaebelncdhaaGreat
