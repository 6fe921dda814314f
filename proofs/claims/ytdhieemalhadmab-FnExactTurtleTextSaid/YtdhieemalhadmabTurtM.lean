/- What is written short of a graph: plain functions. -/
import Derived.Test.YtdhieemalhadmabShortMM
import Derived.Laws.Concat
namespace Go.Proofs.Ytdhieemalhadmab
open Go.RowKit
def predL (ls : List Pre2) (p : ByteArray) : List UInt8 := if (p.toList == [60, 116, 121, 112, 101, 62]) = true then [97] else shortL ls p.data.toList
def preLine (p : Pre2) : List UInt8 := [64, 112, 114, 101, 102, 105, 120, 32] ++ (p.1.data.toList ++ ([58, 32] ++ ((60 :: (p.2.data.toList ++ [62])) ++ [32, 46, 10])))
def headL (ls : List Pre2) : List UInt8 := ls.flatMap preLine
def sameS (t u : Tri3) : Bool := t.1.toList == u.1.toList
def sameP (t u : Tri3) : Bool := t.2.1.toList == u.2.1.toList
def objL (ls : List Pre2) (t : Tri3) : List UInt8 := shortL ls t.2.2.data.toList
def fullL (ls : List Pre2) (t : Tri3) : List UInt8 := shortL ls t.1.data.toList ++ 32 :: (predL ls t.2.1 ++ 32 :: objL ls t)
def semiL (ls : List Pre2) (t : Tri3) : List UInt8 := [32, 59, 10, 32, 32] ++ (predL ls t.2.1 ++ 32 :: objL ls t)
def commaL (ls : List Pre2) (t : Tri3) : List UInt8 := [32, 44, 32] ++ objL ls t
def partL (ls : List Pre2) (u t : Tri3) : List UInt8 := if sameS t u then (if sameP t u then commaL ls t else semiL ls t) else fullL ls t
def stepL (ls : List Pre2) (ts : List Tri3) (k : Nat) : List UInt8 := match ts[k]? with
  | none => []
  | some t => if k = 0 then fullL ls t else match ts[k - 1]? with
    | none => []
    | some u => if sameS t u then (if sameP t u then commaL ls t else semiL ls t) else [32, 46, 10] ++ fullL ls t
def bodyL (ls : List Pre2) (ts : List Tri3) : Nat → List UInt8
  | 0 => []
  | k + 1 => bodyL ls ts k ++ stepL ls ts k
/-- What is behind the first k triples by then: the point, where another subject is next or nothing. -/
def termL (ts : List Tri3) (k : Nat) : List UInt8 := if k = 0 then [] else match ts[k - 1]?, ts[k]? with
  | some u, some t => if sameS t u then [] else [32, 46, 10]
  | some _, none => [32, 46, 10]
  | none, _ => []
def lastT (ts : List Tri3) (k : Nat) : Tri3 := if k = 0 then (⟨#[]⟩, ⟨#[]⟩, ⟨#[]⟩) else (ts[k - 1]?).getD (⟨#[]⟩, ⟨#[]⟩, ⟨#[]⟩)
def turtleL (ls : List Pre2) (ts : List Tri3) : List UInt8 := if presOk ls && graphOk ts then headL ls ++ (bodyL ls ts ts.length ++ termL ts ts.length) else []
theorem headL_snoc (ls : List Pre2) (p : Pre2) : headL (ls ++ [p]) = headL ls ++ preLine p := by unfold headL; rw [List.flatMap_append]; simp
theorem sameS_empty {t : Tri3} (h : okT t = true) : sameS t (⟨#[]⟩, ⟨#[]⟩, ⟨#[]⟩) = false := by
  unfold sameS
  rw [beq_eq_false_iff_ne, ByteArray.toList_eq, ByteArray.toList_eq]
  intro e
  unfold okT at h
  rw [show t.1.data.toList = [] from e] at h
  simp [triOk, kindL, shape_nil] at h
theorem part_step (ls : List Pre2) {ts : List Tri3} {k : Nat} {t : Tri3} (ht : ts[k]? = some t) (hok : okT t = true) : termL ts k ++ partL ls (lastT ts k) t = stepL ls ts k := by
  unfold termL partL lastT stepL
  rw [ht]
  by_cases h0 : k = 0
  · subst h0
    simp only [if_true]
    rw [sameS_empty hok]
    simp
  · simp only [if_neg h0]
    have hk : k < ts.length := (List.getElem?_eq_some_iff.1 ht).1
    rw [List.getElem?_eq_getElem (by omega : k - 1 < ts.length)]
    simp only [Option.getD_some]
    cases sameS t (ts[k - 1]'(by omega)) <;> simp
theorem term_end {ts : List Tri3} {k : Nat} {t : Tri3} (ht : ts[k]? = some t) (hn : ts[k + 1]? = none) : termL ts (k + 1) = [32, 46, 10] := by
  unfold termL; simp [ht, hn]
theorem term_next {ts : List Tri3} {k : Nat} {t v : Tri3} (ht : ts[k]? = some t) (hv : ts[k + 1]? = some v) : termL ts (k + 1) = if sameS v t then [] else [32, 46, 10] := by
  unfold termL; simp [ht, hv]
theorem last_next {ts : List Tri3} {k : Nat} {t : Tri3} (ht : ts[k]? = some t) : lastT ts (k + 1) = t := by unfold lastT; simp [ht]
theorem short_lenN (N : Nat) {ts : List Pre2} {l : List UInt8} (hs : ∀ t ∈ ts, t.1.size ≤ N) : (shortL ts l).length ≤ l.length + N + 1 := by
  unfold shortL
  split
  · omega
  · rename_i x hx
    split
    · rename_i hc
      simp only [Bool.and_eq_true, decide_eq_true_eq] at hc
      obtain ⟨r, hl, hr⟩ := kind_one hc.1
      obtain rfl : x = r := by rw [hx] at hr; exact Option.some.inj hr
      cases hb : bestP x ts with
      | none => simp only [shortOf]; omega
      | some t =>
        have h4 := hs t (bestP_fits x ts t hb).2
        have : (shortOf x l (some t)) = t.1.data.toList ++ 58 :: x.drop t.2.size := rfl
        rw [this, List.length_append, List.length_cons, List.length_drop, size_len, hl]
        simp
        omega
    · omega
def SmT (ts : List Tri3) : Prop := ∀ t ∈ ts, t.1.size ≤ 1048576 ∧ t.2.1.size ≤ 1048576 ∧ t.2.2.size ≤ 1048576
theorem short_small {ls : List Pre2} (hs : SmP ls) {s : ByteArray} (h : s.size ≤ 1048576) : (shortL ls s.data.toList).length ≤ 2097153 := by
  have := short_lenN 1048576 (ts := ls) (l := s.data.toList) fun t ht => (hs t ht).1
  rw [size_len] at this
  omega
theorem pred_small {ls : List Pre2} (hs : SmP ls) {s : ByteArray} (h : s.size ≤ 1048576) : (predL ls s).length ≤ 2097153 := by
  unfold predL
  split
  · simp
  · exact short_small hs h
theorem part_small {ls : List Pre2} (hs : SmP ls) {t : Tri3} (h : t.1.size ≤ 1048576 ∧ t.2.1.size ≤ 1048576 ∧ t.2.2.size ≤ 1048576) (u : Tri3) : (partL ls u t).length ≤ 7000000 := by
  have a := short_small hs h.1
  have b := pred_small hs h.2.1
  have c := short_small hs h.2.2
  unfold partL commaL semiL fullL objL
  split
  · split
    · simp only [List.length_append, List.length_cons, List.length_nil]; omega
    · simp only [List.length_append, List.length_cons, List.length_nil]; omega
  · simp only [List.length_append, List.length_cons]; omega
theorem term_small (ts : List Tri3) (k : Nat) : (termL ts k).length ≤ 3 := by
  unfold termL
  split
  · simp
  · split
    · split <;> simp
    · simp
    · simp
theorem body_small {ls : List Pre2} (hs : SmP ls) {ts : List Tri3} (hg : graphOk ts = true) (ht : SmT ts) : ∀ k, k ≤ ts.length → (bodyL ls ts k).length ≤ k * 7000003 := by
  intro k
  induction k with
  | zero => intro _; simp [bodyL]
  | succ k ih =>
    intro hk
    have ih := ih (by omega)
    have e : ts[k]? = some ts[k] := List.getElem?_eq_getElem (by omega)
    have hm := List.getElem_mem (by omega : k < ts.length)
    unfold graphOk at hg
    simp only [Bool.and_eq_true] at hg
    have h1 := part_step ls e (gUpto_mem hg.2 _ hm)
    have h2 := part_small hs (ht _ hm) (lastT ts k)
    have h3 := term_small ts k
    have h4 := congrArg List.length h1
    rw [List.length_append] at h4
    show (bodyL ls ts k ++ stepL ls ts k).length ≤ _
    rw [List.length_append]
    omega
theorem head_small {ls : List Pre2} (hs : SmP ls) : (headL ls).length ≤ ls.length * 2097200 := by
  induction ls with
  | nil => simp [headL]
  | cons p r ih =>
    have ih := ih fun t ht => hs t (List.mem_cons_of_mem _ ht)
    have hp := hs p (List.mem_cons_self ..)
    have e : headL (p :: r) = preLine p ++ headL r := by simp [headL]
    rw [e, List.length_append, List.length_cons]
    have : (preLine p).length = p.1.size + p.2.size + 15 := by
      unfold preLine
      simp only [List.length_append, List.length_cons, List.length_nil, size_len]
      omega
    omega
theorem graphOk_len {ts : List Tri3} (h : graphOk ts = true) : ts.length ≤ 80 := by
  unfold graphOk at h
  simp only [Bool.and_eq_true, decide_eq_true_eq] at h
  exact h.1
theorem addFact {a b c : ByteArray} (h : a.size + b.size ≤ 9223372036854775807) (hc : a ++ b = c) : ∀ wx : World, (Op.stringOp .add a b).run Try.prog wx = .ok (.string c) wx := fun wx => by
  rw [run_string_add_sum wx _ _ h, hc]
end Go.Proofs.Ytdhieemalhadmab
