/- Lists of which each is right, and each ahead of the next: plain facts. -/
import Derived.Test.YtkcbgppplgkkbaaGreatExactS3
import Derived.Test.YtkcbgppplgkkbaaGreatPres
import Derived.Test.YtkcbgppplgkkbaaGreatTriA
namespace Go.Proofs.YtkcbgppplgkkbaaGreat
def gAt {α : Type} (ok : α → Bool) (ah : α → α → Bool) (ts : List α) (i : Nat) : Bool := match ts[i]? with
  | some t => ok t && (i == 0 || match ts[i - 1]? with | some u => ah u t | none => true)
  | none => true
def gUpto {α : Type} (ok : α → Bool) (ah : α → α → Bool) (ts : List α) (k : Nat) : Bool := (List.range k).all (gAt ok ah ts)
theorem gUpto_succ {α : Type} (ok : α → Bool) (ah : α → α → Bool) (ts : List α) (k : Nat) : gUpto ok ah ts (k + 1) = (gUpto ok ah ts k && gAt ok ah ts k) := by
  unfold gUpto; rw [List.range_succ, List.all_append]; simp
theorem gUpto_no {α : Type} {ok : α → Bool} {ah : α → α → Bool} {ts : List α} {k : Nat} (h : gAt ok ah ts k = false) (hk : k < ts.length) : gUpto ok ah ts ts.length = false := by
  unfold gUpto
  rw [List.all_eq_false]
  exact ⟨k, List.mem_range.2 hk, by rw [h]; simp⟩
theorem gAt_not {α : Type} {ok : α → Bool} {ah : α → α → Bool} {ts : List α} {k : Nat} {t : α} (h : ts[k]? = some t) (ho : ok t = false) : gAt ok ah ts k = false := by unfold gAt; rw [h]; simp [ho]
theorem gAt_zero {α : Type} {ok : α → Bool} {ah : α → α → Bool} {ts : List α} {t : α} (h : ts[0]? = some t) : gAt ok ah ts 0 = ok t := by unfold gAt; rw [h]; simp
theorem gAt_next {α : Type} {ok : α → Bool} {ah : α → α → Bool} {ts : List α} {k : Nat} {t u : α} (h0 : 0 < k) (h : ts[k]? = some t) (hu : ts[k - 1]? = some u) : gAt ok ah ts k = (ok t && ah u t) := by
  have e : (k == 0) = false := by rw [beq_eq_false_iff_ne]; omega
  unfold gAt; rw [h]; simp [hu, e]
theorem gUpto_mem {α : Type} {ok : α → Bool} {ah : α → α → Bool} {ts : List α} (h : gUpto ok ah ts ts.length = true) : ∀ t ∈ ts, ok t = true := by
  intro t ht
  obtain ⟨i, hi⟩ := List.mem_iff_getElem?.1 ht
  have hl := (List.getElem?_eq_some_iff.1 hi).1
  have := List.all_eq_true.1 h i (List.mem_range.2 hl)
  unfold gAt at this
  rw [hi] at this
  simp only [Bool.and_eq_true] at this
  exact this.1
def okT (t : Tri3) : Bool := triOk t.1.data.toList t.2.1.data.toList t.2.2.data.toList
def aheadT (t u : Tri3) : Bool := aheadL t.1.data.toList t.2.1.data.toList t.2.2.data.toList u.1.data.toList u.2.1.data.toList u.2.2.data.toList
def graphOk (ts : List Tri3) : Bool := decide (ts.length ≤ 80) && gUpto okT aheadT ts ts.length
def preT (t : Pre2) : Bool := made t.1.data.toList 4 labB && made t.2.data.toList 12 nameB
def lessP (t u : Pre2) : Bool := Op.bytesLess t.1.toList u.1.toList
def presOk (ts : List Pre2) : Bool := decide (ts.length ≤ 4) && gUpto preT lessP ts ts.length
def Sm (ts : List Tri3) : Prop := ∀ t ∈ ts, t.1.size ≤ 2097152 ∧ t.2.1.size ≤ 2097152 ∧ t.2.2.size ≤ 2097152
def SmP (ts : List Pre2) : Prop := ∀ t ∈ ts, t.1.size ≤ 1048576 ∧ t.2.size ≤ 1048576
end Go.Proofs.YtkcbgppplgkkbaaGreat
