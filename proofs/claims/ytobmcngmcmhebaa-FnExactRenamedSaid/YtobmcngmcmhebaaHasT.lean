/- Whether a text is in a list of texts: the specification's own. -/
import Derived.Test.YtobmcngmcmhebaaStrs
namespace Go.Proofs.Ytobmcngmcmhebaa
open Go.RowKit Go.WideShapes
def hasB (ts : List ByteArray) (x : ByteArray) : Bool := ts.any fun y => y.toList == x.toList
theorem hasB_yes {ts : List ByteArray} {x u : ByteArray} {k : Nat} (h : ts[k]? = some u) (he : (u.toList == x.toList) = true) : hasB ts x = true := List.any_eq_true.2 ⟨u, List.mem_of_getElem? h, he⟩
theorem hasB_no {ts : List ByteArray} {x : ByteArray} (h : ∀ (i : Nat) (u : ByteArray), i < ts.length → ts[i]? = some u → (u.toList == x.toList) = false) : hasB ts x = false := by
  unfold hasB
  rw [List.any_eq_false]
  intro u hu
  obtain ⟨i, hi⟩ := List.mem_iff_getElem?.1 hu
  rw [h i u (List.getElem?_eq_some_iff.1 hi).1 hi]; simp
end Go.Proofs.Ytobmcngmcmhebaa
