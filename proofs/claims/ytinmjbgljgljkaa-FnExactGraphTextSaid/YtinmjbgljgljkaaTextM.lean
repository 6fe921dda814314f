/- The text of a graph: plain functions. -/
import Derived.Test.YtinmjbgljgljkaaRise
import Derived.Test.YtinmjbgljgljkaaTri2
namespace Go.Proofs.Ytinmjbgljgljkaa
def lineT (t : Tri3) : List UInt8 := triText t.1.data.toList t.2.1.data.toList t.2.2.data.toList ++ [10]
def lines (ts : List Tri3) : List UInt8 := ts.flatMap lineT
def graphTextL (ts : List Tri3) : List UInt8 := if graphOk ts then lines ts else []
theorem lines_snoc (ts : List Tri3) (t : Tri3) : lines (ts ++ [t]) = lines ts ++ lineT t := by unfold lines; rw [List.flatMap_append]; simp
theorem triText_len (s p o : ByteArray) : (triText s.data.toList p.data.toList o.data.toList).length ≤ s.size + p.size + o.size + 4 := by
  unfold triText
  split
  · simp; omega
  · simp
theorem lines_len {ts : List Tri3} (h : Sm ts) : (lines ts).length ≤ ts.length * 7000000 := by
  induction ts with
  | nil => simp [lines]
  | cons t r ih =>
    have ih := ih fun u hu => h u (List.mem_cons_of_mem _ hu)
    have ht := h t (List.mem_cons_self ..)
    have hl := triText_len t.1 t.2.1 t.2.2
    have e : lines (t :: r) = lineT t ++ lines r := by simp [lines]
    have e2 : (lineT t).length = (triText t.1.data.toList t.2.1.data.toList t.2.2.data.toList).length + 1 := by simp [lineT]
    rw [e, List.length_append, List.length_cons, e2]
    omega
theorem graphOk_len {ts : List Tri3} (h : graphOk ts = true) : ts.length ≤ 80 := by
  unfold graphOk at h
  simp only [Bool.and_eq_true, decide_eq_true_eq] at h
  exact h.1
theorem lines_take {ts : List Tri3} (h : Sm ts) (hg : graphOk ts = true) (k : Nat) : (lines (ts.take k)).length ≤ 560000000 := by
  have a := lines_len (ts := ts.take k) fun t ht => h t (List.mem_of_mem_take ht)
  have b := graphOk_len hg
  have c : (ts.take k).length ≤ ts.length := by rw [List.length_take]; omega
  omega
end Go.Proofs.Ytinmjbgljgljkaa
