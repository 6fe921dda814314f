/- Rows of bindings: the contracts of the small functions; which rows are right. -/
import Derived.Test.YtbhlenjcahonnaaGreatJExactSolutions11
import Derived.Test.YtbhlenjcahonnaaGreatJExactSolutions10
import Derived.Test.YtbhlenjcahonnaaGreatJExactSolutions02
import Derived.Lib.Bytealg
import Derived.Deep.QuietTactic
import Derived.BigQuiet
import Derived.WalkSmall
import Derived.IntWalk
namespace Go.Proofs.YtbhlenjcahonnaaGreat
open Go.RowKit
/-- Block g holds just these two cells. -/
def Box2 (w : World) (g : Nat) (x y : Value) (T : TypeId) : Prop := w.heap[g]? = some (.cells #[x, y] T (0, 0))
theorem Box2.new (w : World) (x y : Value) (T : TypeId) : Box2 (w.alloc (.cells #[x, y] T)) w.heap.size x y T := heap_alloc_new w _
theorem Box2.drew {w : World} {g : Nat} {x y : Value} {T : TypeId} (h : Box2 w g x y T) : Box2 w.drew g x y T := h
theorem Box2.cells {w : World} {g : Nat} {x y : Value} {T : TypeId} (h : Box2 w g x y T) : w.cell? ⟨g, 0, none⟩ = some x ∧ w.cell? ⟨g, 1, none⟩ = some y := by
  unfold Box2 at h
  refine ⟨?_, ?_⟩ <;> simp [World.cell?, h]
def isVarK (l : List UInt8) : Bool := decide (kindL l = 4)
def isValK (l : List UInt8) : Bool := decide (kindL l = 1) || decide (kindL l = 2) || decide (kindL l = 3)
def pairT (t : Pre2) : Bool := isVarK t.1.data.toList && isValK t.2.data.toList
def rowOk (ts : List Pre2) : Bool := decide (ts.length ≤ 12) && gUpto pairT lessP ts ts.length
theorem implIsVar (s : ByteArray) (hs : s.size ≤ 2097152) (w : World) :
    Calls Tryz.prog 36 #[.string s] w fun e w' => e = .returned (.bool (isVarK s.data.toList)) ∧ Below w.heap.size w w' := by
  have C' := implKindOf s hs
  unfold isVarK
  generalize kindL s.data.toList = k at C' ⊢
  have C := Lib.hid C'
  clear C'
  have EK : (((k : Int) == 4) = true ∧ decide (k = 4) = true) ∨ (((k : Int) == 4) = false ∧ decide (k = 4) = false) := by
    simp only [beq_iff_eq, beq_eq_false_iff_ne, decide_eq_true_eq, decide_eq_false_iff_not]; omega
  generalize decide (k = 4) = q at EK ⊢
  go_enter Tryz.func36, Tryz.ntmps36
  go_wp2_with fail
  refine (C.out _).mono ?_
  rintro e w1 ⟨rfl, hb1⟩
  rcases EK with ⟨k1, rfl⟩ | ⟨k1, rfl⟩
  all_goals
    go_wp2_with fail
    go_ret
    exact ⟨rfl, hb1⟩
theorem implIsValue (s : ByteArray) (hs : s.size ≤ 2097152) (w : World) :
    Calls Tryz.prog 106 #[.string s] w fun e w' => e = .returned (.bool (isValK s.data.toList)) ∧ Below w.heap.size w w' := by
  have C' := implKindOf s hs
  unfold isValK
  generalize kindL s.data.toList = ko at C' ⊢
  have C := Lib.hid C'
  clear C'
  have EO : (((ko : Int) == 1) = true ∧ (decide (ko = 1) || decide (ko = 2) || decide (ko = 3)) = true) ∨ (((ko : Int) == 1) = false ∧ ((ko : Int) == 2) = true ∧ (decide (ko = 1) || decide (ko = 2) || decide (ko = 3)) = true) ∨
      (((ko : Int) == 1) = false ∧ ((ko : Int) == 2) = false ∧ ((ko : Int) == 3) = true ∧ (decide (ko = 1) || decide (ko = 2) || decide (ko = 3)) = true) ∨ (((ko : Int) == 1) = false ∧ ((ko : Int) == 2) = false ∧ ((ko : Int) == 3) = false ∧ (decide (ko = 1) || decide (ko = 2) || decide (ko = 3)) = false) := by
    simp only [beq_iff_eq, beq_eq_false_iff_ne, Bool.or_eq_true, Bool.or_eq_false_iff, decide_eq_true_eq, decide_eq_false_iff_not]; omega
  generalize (decide (ko = 1) || decide (ko = 2) || decide (ko = 3)) = q at EO ⊢
  go_enter Tryz.func106, Tryz.ntmps106
  go_wp2_with fail
  refine (C.out _).mono ?_
  rintro e w1 ⟨rfl, hb1⟩
  rcases EO with ⟨o1, rfl⟩ | ⟨o1, o2, rfl⟩ | ⟨o1, o2, o3, rfl⟩ | ⟨o1, o2, o3, rfl⟩
  all_goals
    go_wp2_with fail
    go_ret
    exact ⟨rfl, hb1⟩
theorem specIn (k : Nat) (w : World) :
    Calls Tryz.prog 61 #[.int .i64 k, .int .i64 1, .int .i64 3] w fun e w' => e = .returned (.bool (decide (k = 1) || decide (k = 2) || decide (k = 3))) ∧ w = w' := by
  have EO : (((1 : Int) ≤ (k : Int)) ∧ (k : Int) ≤ 3 ∧ (decide (k = 1) || decide (k = 2) || decide (k = 3)) = true) ∨ ((k : Int) < 1 ∧ (decide (k = 1) || decide (k = 2) || decide (k = 3)) = false) ∨ (((1 : Int) ≤ (k : Int)) ∧ (3 : Int) < (k : Int) ∧ (decide (k = 1) || decide (k = 2) || decide (k = 3)) = false) := by
    simp only [Bool.or_eq_true, Bool.or_eq_false_iff, decide_eq_true_eq, decide_eq_false_iff_not]; omega
  generalize (decide (k = 1) || decide (k = 2) || decide (k = 3)) = q at EO ⊢
  go_enter Tryz.func61, Tryz.ntmps61
  rcases EO with ⟨o1, o2, rfl⟩ | ⟨o1, rfl⟩ | ⟨o1, o2, rfl⟩
  all_goals
    go_wp2_with fail
    go_ret
    exact ⟨by first | rfl | (simp; omega), rfl⟩
open Go.RowKit Go.WideShapes
theorem ltb_irrefl : ∀ a : List UInt8, Op.bytesLess a a = false
  | [] => rfl
  | x :: r => by simp [Op.bytesLess, ltb_irrefl r]
theorem ltb_asymm : ∀ a b : List UInt8, Op.bytesLess a b = true → Op.bytesLess b a = false
  | _, [], h => by simp [Op.bytesLess] at h
  | [], _ :: _, _ => by simp [Op.bytesLess]
  | x :: r, y :: q, h => by
    simp only [Op.bytesLess, Bool.or_eq_true, Bool.and_eq_true, decide_eq_true_eq, beq_iff_eq] at h
    simp only [Op.bytesLess, Bool.or_eq_false_iff, Bool.and_eq_false_iff, decide_eq_false_iff_not, beq_eq_false_iff_ne]
    rcases h with h | ⟨rfl, h⟩
    · refine ⟨?_, .inl ?_⟩
      · rw [UInt8.lt_iff_toNat_lt] at h ⊢; omega
      · rintro rfl; rw [UInt8.lt_iff_toNat_lt] at h; omega
    · exact ⟨by rw [UInt8.lt_iff_toNat_lt]; omega, .inr (ltb_asymm r q h)⟩
theorem ltb_trans : ∀ a b c : List UInt8, Op.bytesLess a b = true → Op.bytesLess b c = true → Op.bytesLess a c = true
  | _, b, [], _, h => by cases b <;> simp [Op.bytesLess] at h
  | a, [], _ :: _, h, _ => by cases a <;> simp [Op.bytesLess] at h
  | [], _ :: _, _ :: _, _, _ => by simp [Op.bytesLess]
  | x :: r, y :: q, z :: s, h1, h2 => by
    simp only [Op.bytesLess, Bool.or_eq_true, Bool.and_eq_true, decide_eq_true_eq, beq_iff_eq] at h1 h2 ⊢
    rcases h1 with h1 | ⟨rfl, h1⟩
    · rcases h2 with h2 | ⟨rfl, h2⟩
      · exact .inl (by rw [UInt8.lt_iff_toNat_lt] at *; omega)
      · exact .inl h1
    · rcases h2 with h2 | ⟨rfl, h2⟩
      · exact .inl h2
      · exact .inr ⟨rfl, ltb_trans r q s h1 h2⟩
theorem ltb_ne {a b : List UInt8} (h : Op.bytesLess a b = true) : a ≠ b := by
  rintro rfl
  rw [ltb_irrefl] at h
  cases h
def seen : List Pre2 → ByteArray → ByteArray
  | [], x => x
  | t :: r, x => if t.1 = x then t.2 else seen r x
theorem seen_no : ∀ (ts : List Pre2) (x : ByteArray), (∀ t ∈ ts, t.1 ≠ x) → seen ts x = x
  | [], _, _ => rfl
  | t :: r, x, h => by
    unfold seen
    rw [if_neg (h t (List.mem_cons_self ..))]
    exact seen_no r x fun u hu => h u (List.mem_cons_of_mem _ hu)
theorem seen_at : ∀ (ts : List Pre2) (x : ByteArray) (i : Nat) (t : Pre2), ts[i]? = some t → t.1 = x → (∀ j u, j < i → ts[j]? = some u → u.1 ≠ x) → seen ts x = t.2
  | [], _, _, _, h, _, _ => by simp at h
  | u :: r, x, 0, t, h, hx, _ => by
    obtain rfl : u = t := by simpa using h
    unfold seen
    rw [if_pos hx]
  | u :: r, x, i + 1, t, h, hx, hn => by
    unfold seen
    rw [if_neg (hn 0 u (by omega) (by simp))]
    exact seen_at r x i t (by simpa using h) hx fun j v hj hv => hn (j + 1) v (by omega) (by simpa using hv)
def Asc (ts : List Pre2) : Prop := ∀ (i j : Nat) (t u : Pre2), i < j → ts[i]? = some t → ts[j]? = some u → lessP t u = true
theorem lessP_trans {t u v : Pre2} (h : lessP t u = true) (h' : lessP u v = true) : lessP t v = true := ltb_trans _ _ _ h h'
theorem asc_of {ts : List Pre2} (h : gUpto pairT lessP ts ts.length = true) : Asc ts := by
  have step : ∀ (j : Nat) (t u : Pre2), ts[j]? = some t → ts[j + 1]? = some u → lessP t u = true := fun j t u ht hu => by
    have hl := (List.getElem?_eq_some_iff.1 hu).1
    have := List.all_eq_true.1 h (j + 1) (List.mem_range.2 hl)
    rw [gAt_next (by omega) hu (by simpa using ht)] at this
    simp only [Bool.and_eq_true] at this
    exact this.2
  unfold Asc
  intro i j
  induction j with
  | zero => intro t u hi; omega
  | succ j ih =>
    intro t u hi ht hu
    have hl := (List.getElem?_eq_some_iff.1 hu).1
    have hm : ts[j]? = some ts[j] := List.getElem?_eq_getElem (by omega)
    rcases Nat.lt_or_eq_of_le (show i ≤ j by omega) with hlt | rfl
    · exact lessP_trans (ih t _ hlt ht hm) (step j _ _ hm hu)
    · exact step i _ _ ht hu
theorem cmp_cases : ∀ a b : List UInt8, (Lib.compareBytes a b < 0 ∧ Op.bytesLess a b = true) ∨ (Lib.compareBytes a b = 0 ∧ a = b) ∨ (0 < Lib.compareBytes a b ∧ Op.bytesLess b a = true)
  | [], [] => .inr (.inl ⟨rfl, rfl⟩)
  | [], _ :: _ => .inl ⟨by simp [Lib.compareBytes], by simp [Op.bytesLess]⟩
  | _ :: _, [] => .inr (.inr ⟨by simp [Lib.compareBytes], by simp [Op.bytesLess]⟩)
  | x :: r, y :: q => by
    unfold Lib.compareBytes
    by_cases h1 : x < y
    · rw [if_pos h1]; exact .inl ⟨by omega, by simp [Op.bytesLess, h1]⟩
    rw [if_neg h1]
    by_cases h2 : y < x
    · rw [if_pos h2]; exact .inr (.inr ⟨by omega, by simp [Op.bytesLess, h2]⟩)
    rw [if_neg h2]
    obtain rfl : x = y := by
      rw [UInt8.lt_iff_toNat_lt] at h1 h2
      exact UInt8.toNat_inj.1 (by omega)
    rcases cmp_cases r q with ⟨h, h'⟩ | ⟨h, rfl⟩ | ⟨h, h'⟩
    · exact .inl ⟨h, by simp [Op.bytesLess, h']⟩
    · exact .inr (.inl ⟨h, rfl⟩)
    · exact .inr (.inr ⟨h, by simp [Op.bytesLess, h']⟩)
end Go.Proofs.YtbhlenjcahonnaaGreat
/- Rows merged: plain facts on lists of pairs. -/
namespace Go.Proofs.YtbhlenjcahonnaaGreat
open Go.RowKit
/-- How many names are less than x, from the front on. -/
def posP (x : ByteArray) : List Pre2 → Nat
  | [] => 0
  | u :: r => if Op.bytesLess u.1.data.toList x.data.toList = true then posP x r + 1 else 0
theorem posP_le (x : ByteArray) : ∀ g : List Pre2, posP x g ≤ g.length
  | [] => Nat.le_refl _
  | u :: r => by unfold posP; have := posP_le x r; split <;> simp <;> omega
theorem posP_ahead {x : ByteArray} {u : Pre2} : ∀ {g : List Pre2} {i : Nat}, i < posP x g → g[i]? = some u → Op.bytesLess u.1.data.toList x.data.toList = true
  | [], i, h, _ => by simp [posP] at h
  | v :: r, i, h, hu => by
    unfold posP at h
    split at h
    · rename_i hv
      cases i with
      | zero => simp at hu; rw [← hu]; exact hv
      | succ i => exact posP_ahead (g := r) (i := i) (by omega) (by simpa using hu)
    · omega
theorem posP_stop {x : ByteArray} {u : Pre2} : ∀ {g : List Pre2}, g[posP x g]? = some u → Op.bytesLess u.1.data.toList x.data.toList = false
  | [], h => by simp at h
  | v :: r, h => by
    unfold posP at h
    split at h
    · exact posP_stop (g := r) (by simpa using h)
    · rename_i hv
      simp at h
      rw [← h]; simpa using hv
theorem posP_is {x : ByteArray} {g : List Pre2} {k : Nat} (h1 : ∀ (i : Nat) (u : Pre2), i < k → g[i]? = some u → Op.bytesLess u.1.data.toList x.data.toList = true) (hk : k ≤ g.length) (h2 : ∀ u, g[k]? = some u → Op.bytesLess u.1.data.toList x.data.toList = false) : posP x g = k := by
  rcases Nat.lt_trichotomy (posP x g) k with hh | hh | hh
  · have e : g[posP x g]? = some g[posP x g] := List.getElem?_eq_getElem (by omega)
    have := h1 _ _ hh e
    rw [posP_stop e] at this
    cases this
  · exact hh
  · have hl := posP_le x g
    have e : g[k]? = some g[k] := List.getElem?_eq_getElem (by omega)
    have := h2 _ e
    rw [posP_ahead hh e] at this
    cases this
/-- A row with one more; none: it has another one there. -/
def putP (g : List Pre2) (p : Pre2) : Option (List Pre2) :=
  match g[posP p.1 g]? with
  | some q => if q.1 = p.1 then (if q.2 = p.2 then some g else none) else some ((g.take (posP p.1 g) ++ [p]) ++ g.drop (posP p.1 g))
  | none => some ((g.take (posP p.1 g) ++ [p]) ++ g.drop (posP p.1 g))
theorem putP_same {g : List Pre2} {p q : Pre2} {k : Nat} (h : posP p.1 g = k) (hq : g[k]? = some q) (h1 : q.1 = p.1) (h2 : q.2 = p.2) : putP g p = some g := by
  unfold putP; rw [h, hq]; simp [h1, h2]
theorem putP_other {g : List Pre2} {p q : Pre2} {k : Nat} (h : posP p.1 g = k) (hq : g[k]? = some q) (h1 : q.1 = p.1) (h2 : q.2 ≠ p.2) : putP g p = none := by
  unfold putP; rw [h, hq]; simp [h1, h2]
theorem putP_new {g : List Pre2} {p : Pre2} {k : Nat} (h : posP p.1 g = k) (hn : ∀ q, g[k]? = some q → q.1 ≠ p.1) : putP g p = some ((g.take k ++ [p]) ++ g.drop k) := by
  unfold putP; rw [h]
  cases hq : g[k]? with
  | none => rfl
  | some q => simp [hn q hq]
theorem putP_len {g h : List Pre2} {p : Pre2} (e : putP g p = some h) : h.length ≤ g.length + 1 := by
  have hl := posP_le p.1 g
  unfold putP at e
  split at e
  · split at e
    · split at e
      · cases e; omega
      · cases e
    · cases e; simp only [List.length_append, List.length_take, List.length_cons, List.length_nil, List.length_drop]; omega
  · cases e; simp only [List.length_append, List.length_take, List.length_cons, List.length_nil, List.length_drop]; omega
theorem putP_mem {g h : List Pre2} {p u : Pre2} (e : putP g p = some h) (hu : u ∈ h) : u = p ∨ u ∈ g := by
  have hs : ∀ u, u ∈ (g.take (posP p.1 g) ++ [p]) ++ g.drop (posP p.1 g) → u = p ∨ u ∈ g := by
    intro u hu
    rw [List.mem_append, List.mem_append, List.mem_singleton] at hu
    rcases hu with (hu | hu) | hu
    · exact .inr (List.mem_of_mem_take hu)
    · exact .inl hu
    · exact .inr (List.mem_of_mem_drop hu)
  unfold putP at e
  split at e
  · split at e
    · split at e
      · cases e; exact .inr hu
      · cases e
    · cases e; exact hs u hu
  · cases e; exact hs u hu
def LtP (t u : Pre2) : Prop := Op.bytesLess t.1.data.toList u.1.data.toList = true
def AscP (ts : List Pre2) : Prop := ts.Pairwise LtP
theorem lessP_is (t u : Pre2) : lessP t u = Op.bytesLess t.1.data.toList u.1.data.toList := by unfold lessP; rw [ByteArray.toList_eq, ByteArray.toList_eq]
theorem asc_iff {ts : List Pre2} : Asc ts ↔ AscP ts := by
  unfold Asc AscP LtP
  rw [List.pairwise_iff_getElem]
  constructor
  · intro h i j hi hj hij
    rw [← lessP_is]
    exact h i j _ _ hij (List.getElem?_eq_getElem hi) (List.getElem?_eq_getElem hj)
  · intro h i j t u hij ht hu
    obtain ⟨hi, rfl⟩ := List.getElem?_eq_some_iff.1 ht
    obtain ⟨hj, rfl⟩ := List.getElem?_eq_some_iff.1 hu
    rw [lessP_is]
    exact h i j hi hj hij
theorem putP_asc {g h : List Pre2} {p : Pre2} (ha : Asc g) (e : putP g p = some h) : Asc h := by
  rw [asc_iff] at ha ⊢
  have hl := posP_le p.1 g
  have key : (∀ q, g[posP p.1 g]? = some q → q.1 ≠ p.1) → AscP ((g.take (posP p.1 g) ++ [p]) ++ g.drop (posP p.1 g)) := by
    intro hn
    have hsplit : AscP (g.take (posP p.1 g) ++ g.drop (posP p.1 g)) := by rw [List.take_append_drop]; exact ha
    obtain ⟨p1, p2, p3⟩ := List.pairwise_append.1 hsplit
    have q1 : ∀ u ∈ g.take (posP p.1 g), LtP u p := by
      intro u hu
      obtain ⟨i, hi⟩ := List.mem_iff_getElem?.1 hu
      have hil := (List.getElem?_eq_some_iff.1 hi).1
      rw [List.length_take] at hil
      rw [List.getElem?_take_of_lt (by omega)] at hi
      exact posP_ahead (by omega) hi
    have q2 : ∀ u ∈ g.drop (posP p.1 g), LtP p u := by
      intro u hu
      rcases Nat.lt_or_ge (posP p.1 g) g.length with hh | hh
      · have e : g[posP p.1 g]? = some g[posP p.1 g] := List.getElem?_eq_getElem hh
        have hv : LtP p g[posP p.1 g] := by
          have h1 := posP_stop e
          have h2 := hn _ e
          unfold LtP
          rcases cmp_cases p.1.data.toList g[posP p.1 g].1.data.toList with ⟨_, h'⟩ | ⟨_, h'⟩ | ⟨_, h'⟩
          · exact h'
          · exact absurd (data_inj h').symm h2
          · rw [h1] at h'; cases h'
        rw [List.drop_eq_getElem_cons hh] at hu p2
        rcases List.mem_cons.1 hu with rfl | hu
        · exact hv
        · exact ltb_trans _ _ _ hv ((List.pairwise_cons.1 p2).1 u hu)
      · rw [List.drop_eq_nil_of_le hh] at hu
        simp at hu
    rw [List.append_assoc]
    refine List.pairwise_append.2 ⟨p1, List.pairwise_cons.2 ⟨q2, p2⟩, fun a ha b hb => ?_⟩
    rcases List.mem_cons.1 hb with rfl | hb
    · exact q1 a ha
    · exact p3 a ha b hb
  unfold putP at e
  split at e
  · rename_i q hq
    split at e
    · split at e
      · cases e; exact ha
      · cases e
    · rename_i hne
      cases e; exact key (fun q' hq' => by rw [hq] at hq'; cases hq'; exact hne)
  · rename_i hq
    cases e; exact key (fun q' hq' => by rw [hq] at hq'; cases hq')
/-- All pairs of b, put into a one by one. -/
def putAllP : List Pre2 → List Pre2 → Option (List Pre2)
  | a, [] => some a
  | a, p :: r => match putP a p with
    | some h => putAllP h r
    | none => none
theorem putAllP_snoc : ∀ (b a : List Pre2) (p : Pre2), putAllP a (b ++ [p]) = (putAllP a b).bind (fun h => putP h p)
  | [], a, p => by
    show putAllP a [p] = _
    unfold putAllP
    cases h : putP a p <;> simp [putAllP, h]
  | q :: r, a, p => by
    show putAllP a (q :: (r ++ [p])) = _
    unfold putAllP
    cases h : putP a q with
    | none => rfl
    | some h' => exact putAllP_snoc r h' p
theorem putAllP_none : ∀ (b c a : List Pre2), putAllP a b = none → putAllP a (b ++ c) = none
  | [], c, a, h => by simp [putAllP] at h
  | q :: r, c, a, h => by
    show putAllP a (q :: (r ++ c)) = _
    unfold putAllP at h ⊢
    cases hp : putP a q with
    | none => rfl
    | some h' => rw [hp] at h; exact putAllP_none r c h' h
theorem putAllP_len : ∀ {b a h : List Pre2}, putAllP a b = some h → h.length ≤ a.length + b.length
  | [], a, h, e => by simp [putAllP] at e; subst e; simp
  | q :: r, a, h, e => by
    unfold putAllP at e
    cases hp : putP a q with
    | none => rw [hp] at e; cases e
    | some h' =>
      rw [hp] at e
      have h1 := putAllP_len e
      have h2 := putP_len hp
      rw [List.length_cons]; omega
theorem putAllP_asc : ∀ {b a h : List Pre2}, Asc a → putAllP a b = some h → Asc h
  | [], a, h, ha, e => by simp [putAllP] at e; subst e; exact ha
  | q :: r, a, h, ha, e => by
    unfold putAllP at e
    cases hp : putP a q with
    | none => rw [hp] at e; cases e
    | some h' => rw [hp] at e; exact putAllP_asc (putP_asc ha hp) e
theorem putAllP_mem {u : Pre2} : ∀ {b a h : List Pre2}, putAllP a b = some h → u ∈ h → u ∈ a ∨ u ∈ b
  | [], a, h, e, hu => by simp [putAllP] at e; subst e; exact .inl hu
  | q :: r, a, h, e, hu => by
    unfold putAllP at e
    cases hp : putP a q with
    | none => rw [hp] at e; cases e
    | some h' =>
      rw [hp] at e
      rcases putAllP_mem e hu with h1 | h1
      · rcases putP_mem hp h1 with rfl | h1
        · exact .inr (List.mem_cons_self ..)
        · exact .inl h1
      · exact .inr (List.mem_cons_of_mem _ h1)
def mergedP (a b : List Pre2) : Option (List Pre2) := if rowOk a = true ∧ rowOk b = true then (match putAllP a b with
  | some h => if rowOk h = true then some h else none
  | none => none) else none
end Go.Proofs.YtbhlenjcahonnaaGreat
