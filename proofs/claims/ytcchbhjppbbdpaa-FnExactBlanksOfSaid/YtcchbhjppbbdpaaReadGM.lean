/- What is read of a graph's text: plain functions. -/
import Derived.Test.YtcchbhjppbbdpaaOwnG
import Derived.Test.YtcchbhjppbbdpaaRise
import Derived.Test.YtcchbhjppbbdpaaReadM
import Derived.Test.YtcchbhjppbbdpaaGraph
import Derived.Test.YtcchbhjppbbdpaaRead
import Derived.Test.YtcchbhjppbbdpaaBox
import Derived.Test.YtcchbhjppbbdpaaRead2
namespace Go.Proofs.Ytcchbhjppbbdpaa
def triOf (t : List UInt8 × List UInt8 × List UInt8) : Tri3 := (bs t.1, bs t.2.1, bs t.2.2)
/-- Line by line, as long as there is one; the first number is a bound on how many. -/
def readG : Nat → List UInt8 → Option (List Tri3)
  | 0, _ => some []
  | n + 1, l => if l = [] then some [] else match readT (cutL l 10).1 with
    | some t => if (cutL l 10).2.2 = true then (readG n (cutL l 10).2.1).map (triOf t :: ·) else none
    | none => none
theorem readG_succ (n : Nat) (l : List UInt8) : readG (n + 1) l = if l = [] then some [] else match readT (cutL l 10).1 with
    | some t => if (cutL l 10).2.2 = true then (readG n (cutL l 10).2.1).map (triOf t :: ·) else none
    | none => none := rfl
theorem cut_less {l : List UInt8} (h : (cutL l 10).2.2 = true) : (cutL l 10).2.1.length + (cutL l 10).1.length + 1 = l.length := by
  have := congrArg List.length (cutL_join 10 l h)
  simp only [List.length_append, List.length_cons] at this
  omega
theorem readG_enough : ∀ (n m : Nat) (l : List UInt8), l.length ≤ n → l.length ≤ m → readG n l = readG m l := by
  intro n
  induction n with
  | zero =>
    intro m l hn _
    obtain rfl : l = [] := List.length_eq_zero_iff.1 (by omega)
    cases m <;> simp [readG]
  | succ n ih =>
    intro m l hn hm
    cases m with
    | zero =>
      obtain rfl : l = [] := List.length_eq_zero_iff.1 (by omega)
      simp [readG]
    | succ m =>
      unfold readG
      by_cases he : l = []
      · simp [he]
      · rw [if_neg he, if_neg he]
        cases readT (cutL l 10).1 with
        | none => rfl
        | some t =>
          by_cases hc : (cutL l 10).2.2 = true
          · have := cut_less hc
            simp only [hc, if_true]
            rw [ih m _ (by omega) (by omega)]
          · simp only [if_neg hc]
def fin (l : List UInt8) : Option (List Tri3) := readG l.length l
theorem fin_nil : fin [] = some [] := rfl
theorem fin_bad {l : List UInt8} (h : l ≠ []) (hr : readT (cutL l 10).1 = none ∨ (cutL l 10).2.2 = false) : fin l = none := by
  unfold fin
  cases l with
  | nil => exact absurd rfl h
  | cons x r =>
    rw [List.length_cons]
    unfold readG
    rw [if_neg h]
    rcases hr with hr | hr
    · rw [hr]
    · cases readT (cutL (x :: r) 10).1 with
      | none => rfl
      | some t => simp [hr]
theorem fin_next {l : List UInt8} {t : List UInt8 × List UInt8 × List UInt8} (h : l ≠ []) (hr : readT (cutL l 10).1 = some t) (hc : (cutL l 10).2.2 = true) : fin l = (fin (cutL l 10).2.1).map (triOf t :: ·) := by
  have hl := cut_less hc
  unfold fin
  cases l with
  | nil => exact absurd rfl h
  | cons x r =>
    rw [List.length_cons] at hl ⊢
    rw [readG_succ, if_neg h, hr]
    simp only [hc, if_true]
    rw [readG_enough r.length _ _ (by omega) (Nat.le_refl _)]
/-- All of it read, where acc is read already and l is to come. -/
def Comes (all l : List UInt8) (acc : List Tri3) : Prop := fin all = (fin l).map (acc ++ ·)
theorem Comes.start (l : List UInt8) : Comes l l [] := by unfold Comes; cases fin l <;> rfl
theorem Comes.bad {all l : List UInt8} {acc : List Tri3} (h : Comes all l acc) (hn : l ≠ []) (hr : readT (cutL l 10).1 = none ∨ (cutL l 10).2.2 = false) : fin all = none := by
  unfold Comes at h; rw [h, fin_bad hn hr]; rfl
theorem Comes.next {all l : List UInt8} {acc : List Tri3} {t : List UInt8 × List UInt8 × List UInt8} (h : Comes all l acc) (hn : l ≠ []) (hr : readT (cutL l 10).1 = some t) (hc : (cutL l 10).2.2 = true) : Comes all (cutL l 10).2.1 (acc ++ [triOf t]) := by
  unfold Comes at *
  rw [h, fin_next hn hr hc]
  cases fin (cutL l 10).2.1 <;> simp
theorem Comes.done {all : List UInt8} {acc : List Tri3} (h : Comes all [] acc) : fin all = some acc := by
  unfold Comes at h; rw [h, fin_nil]; simp
theorem Comes.long {all l : List UInt8} {acc : List Tri3} (h : Comes all l acc) {ts : List Tri3} (hf : fin all = some ts) : acc.length ≤ ts.length := by
  unfold Comes at h
  rw [h] at hf
  cases hl : fin l with
  | none => rw [hl] at hf; simp at hf
  | some r =>
    rw [hl] at hf
    simp only [Option.map_some, Option.some.injEq] at hf
    rw [← hf, List.length_append]; omega
def resG (l : List UInt8) : Option (List Tri3) := match fin l with
  | some ts => if graphOk ts then some ts else none
  | none => none
theorem resG_none {l : List UInt8} (h : fin l = none) : resG l = none := by unfold resG; rw [h]
theorem resG_some {l : List UInt8} {ts : List Tri3} (h : fin l = some ts) : resG l = if graphOk ts then some ts else none := by unfold resG; rw [h]
def SmR (n : Nat) (ts : List Tri3) : Prop := ∀ t ∈ ts, t.1.size ≤ n ∧ t.2.1.size ≤ n ∧ t.2.2.size ≤ n
theorem SmR.snoc {n : Nat} {ts : List Tri3} {l : List UInt8} {t : List UInt8 × List UInt8 × List UInt8} (h : SmR n ts) (hr : readT l = some t) (hl : l.length ≤ n) : SmR n (ts ++ [triOf t]) := by
  intro u hu
  obtain ⟨x, y, z⟩ := t
  have := readT_len hr
  rcases List.mem_append.1 hu with hu | hu
  · exact h u hu
  · obtain rfl : u = triOf (x, y, z) := by simpa using hu
    unfold triOf
    simp only [bs_size]
    omega
open Go.RowKit Go.WideShapes
def strOf : Value → ByteArray
  | .string s => s
  | _ => ⟨#[]⟩
def ReadPost (l : List UInt8) (w : World) (e : Ending) (w' : World) : Prop :=
  (∃ v ts, resG l = some ts ∧ graphOk ts = true ∧ SmR 1048576 ts ∧ e = .returned (.tuple #[v, .bool true]) ∧ OwnT w.heap.size w' v ts ∧ Below w.heap.size w w') ∨
  (resG l = none ∧ e = .returned (.tuple #[.slice none 0 0, .bool false]) ∧ Below w.heap.size w w')
open Go.RowKit Go.WideShapes
theorem long_none {all l : List UInt8} {acc : List Tri3} (h : Comes all l acc) (hl : 80 < acc.length) : resG all = none := by
  cases hf : fin all with
  | none => exact resG_none hf
  | some ts =>
    have := h.long hf
    rw [resG_some hf]
    unfold graphOk
    rw [decide_eq_false (by omega)]
    rfl
end Go.Proofs.Ytcchbhjppbbdpaa
