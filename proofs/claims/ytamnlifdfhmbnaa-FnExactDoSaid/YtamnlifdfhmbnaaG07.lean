/- The contracts of the functions on triples that tell which is ahead. -/
import Derived.Test.YtamnlifdfhmbnaaG06
import Derived.Test.YtamnlifdfhmbnaaG03
import Derived.Test.YtamnlifdfhmbnaaG01
import Derived.Lib.Bytealg
import Derived.Deep.QuietTactic
import Derived.BigQuiet
import Derived.WalkSmall
import Derived.IntWalk
namespace Go.Proofs.Ytamnlifdfhmbnaa
open Go.RowKit
def aheadL (s p o s' p' o' : List UInt8) : Bool := if s = s' then (if p = p' then Op.bytesLess o o' else Op.bytesLess p p') else Op.bytesLess s s'
theorem data_inj {a b : ByteArray} (h : a.data.toList = b.data.toList) : a = b := by rw [← bs_of a, ← bs_of b, h]
end Go.Proofs.Ytamnlifdfhmbnaa
/- Lists of which each is right, and each ahead of the next: plain facts. -/
namespace Go.Proofs.Ytamnlifdfhmbnaa
def gAt {α : Type} (ok : α → Bool) (ah : α → α → Bool) (ts : List α) (i : Nat) : Bool := match ts[i]? with
  | some t => ok t && (i == 0 || match ts[i - 1]? with | some u => ah u t | none => true)
  | none => true
def gUpto {α : Type} (ok : α → Bool) (ah : α → α → Bool) (ts : List α) (k : Nat) : Bool := (List.range k).all (gAt ok ah ts)
theorem gUpto_succ {α : Type} (ok : α → Bool) (ah : α → α → Bool) (ts : List α) (k : Nat) : gUpto ok ah ts (k + 1) = (gUpto ok ah ts k && gAt ok ah ts k) := by
  unfold gUpto; rw [List.range_succ, List.all_append]; simp
theorem gUpto_no {α : Type} {ok : α → Bool} {ah : α → α → Bool} {ts : List α} {k : Nat} (h : gAt ok ah ts k = false) (hk : k < ts.length) : gUpto ok ah ts ts.length = false := by
  unfold gUpto
  rw [List.all_eq_false]
  exact ⟨k, List.mem_range.2 hk, by rw [h]; simp⟩
theorem gAt_not {α : Type} {ok : α → Bool} {ah : α → α → Bool} {ts : List α} {k : Nat} {t : α} (h : ts[k]? = some t) (ho : ok t = false) : gAt ok ah ts k = false := by unfold gAt; rw [h]; simp [ho]
theorem gAt_zero {α : Type} {ok : α → Bool} {ah : α → α → Bool} {ts : List α} {t : α} (h : ts[0]? = some t) : gAt ok ah ts 0 = ok t := by unfold gAt; rw [h]; simp
theorem gAt_next {α : Type} {ok : α → Bool} {ah : α → α → Bool} {ts : List α} {k : Nat} {t u : α} (h0 : 0 < k) (h : ts[k]? = some t) (hu : ts[k - 1]? = some u) : gAt ok ah ts k = (ok t && ah u t) := by
  have e : (k == 0) = false := by rw [beq_eq_false_iff_ne]; omega
  unfold gAt; rw [h]; simp [hu, e]
theorem gUpto_mem {α : Type} {ok : α → Bool} {ah : α → α → Bool} {ts : List α} (h : gUpto ok ah ts ts.length = true) : ∀ t ∈ ts, ok t = true := by
  intro t ht
  obtain ⟨i, hi⟩ := List.mem_iff_getElem?.1 ht
  have hl := (List.getElem?_eq_some_iff.1 hi).1
  have := List.all_eq_true.1 h i (List.mem_range.2 hl)
  unfold gAt at this
  rw [hi] at this
  simp only [Bool.and_eq_true] at this
  exact this.1
def okT (t : Tri3) : Bool := triOk t.1.data.toList t.2.1.data.toList t.2.2.data.toList
def aheadT (t u : Tri3) : Bool := aheadL t.1.data.toList t.2.1.data.toList t.2.2.data.toList u.1.data.toList u.2.1.data.toList u.2.2.data.toList
def graphOk (ts : List Tri3) : Bool := decide (ts.length ≤ 80) && gUpto okT aheadT ts ts.length
def preT (t : Pre2) : Bool := made t.1.data.toList 4 labB && made t.2.data.toList 12 nameB
def lessP (t u : Pre2) : Bool := Op.bytesLess t.1.toList u.1.toList
def presOk (ts : List Pre2) : Bool := decide (ts.length ≤ 4) && gUpto preT lessP ts ts.length
def Sm (ts : List Tri3) : Prop := ∀ t ∈ ts, t.1.size ≤ 2097152 ∧ t.2.1.size ≤ 2097152 ∧ t.2.2.size ≤ 2097152
def SmP (ts : List Pre2) : Prop := ∀ t ∈ ts, t.1.size ≤ 1048576 ∧ t.2.size ≤ 1048576
end Go.Proofs.Ytamnlifdfhmbnaa
/- Rows of bindings: the contracts of the small functions; which rows are right. -/
namespace Go.Proofs.Ytamnlifdfhmbnaa
open Go.RowKit
/-- Block g holds just these two cells. -/
def Box2 (w : World) (g : Nat) (x y : Value) (T : TypeId) : Prop := w.heap[g]? = some (.cells #[x, y] T (0, 0))
theorem Box2.new (w : World) (x y : Value) (T : TypeId) : Box2 (w.alloc (.cells #[x, y] T)) w.heap.size x y T := heap_alloc_new w _
theorem Box2.drew {w : World} {g : Nat} {x y : Value} {T : TypeId} (h : Box2 w g x y T) : Box2 w.drew g x y T := h
theorem Box2.cells {w : World} {g : Nat} {x y : Value} {T : TypeId} (h : Box2 w g x y T) : w.cell? ⟨g, 0, none⟩ = some x ∧ w.cell? ⟨g, 1, none⟩ = some y := by
  unfold Box2 at h
  refine ⟨?_, ?_⟩ <;> simp [World.cell?, h]
def isVarK (l : List UInt8) : Bool := decide (kindL l = 4)
def isValK (l : List UInt8) : Bool := decide (kindL l = 1) || decide (kindL l = 2) || decide (kindL l = 3)
def pairT (t : Pre2) : Bool := isVarK t.1.data.toList && isValK t.2.data.toList
def rowOk (ts : List Pre2) : Bool := decide (ts.length ≤ 12) && gUpto pairT lessP ts ts.length
theorem specIn (k : Nat) (w : World) :
    Calls Try.prog 73 #[.int .i64 k, .int .i64 1, .int .i64 3] w fun e w' => e = .returned (.bool (decide (k = 1) || decide (k = 2) || decide (k = 3))) ∧ w = w' := by
  have EO : (((1 : Int) ≤ (k : Int)) ∧ (k : Int) ≤ 3 ∧ (decide (k = 1) || decide (k = 2) || decide (k = 3)) = true) ∨ ((k : Int) < 1 ∧ (decide (k = 1) || decide (k = 2) || decide (k = 3)) = false) ∨ (((1 : Int) ≤ (k : Int)) ∧ (3 : Int) < (k : Int) ∧ (decide (k = 1) || decide (k = 2) || decide (k = 3)) = false) := by
    simp only [Bool.or_eq_true, Bool.or_eq_false_iff, decide_eq_true_eq, decide_eq_false_iff_not]; omega
  generalize (decide (k = 1) || decide (k = 2) || decide (k = 3)) = q at EO ⊢
  go_enter Try.func73, Try.ntmps73
  rcases EO with ⟨o1, o2, rfl⟩ | ⟨o1, rfl⟩ | ⟨o1, o2, rfl⟩
  all_goals
    go_wp2_with fail
    go_ret
    exact ⟨by first | rfl | (simp; omega), rfl⟩
open Go.RowKit Go.WideShapes
theorem ltb_irrefl : ∀ a : List UInt8, Op.bytesLess a a = false
  | [] => rfl
  | x :: r => by simp [Op.bytesLess, ltb_irrefl r]
theorem ltb_asymm : ∀ a b : List UInt8, Op.bytesLess a b = true → Op.bytesLess b a = false
  | _, [], h => by simp [Op.bytesLess] at h
  | [], _ :: _, _ => by simp [Op.bytesLess]
  | x :: r, y :: q, h => by
    simp only [Op.bytesLess, Bool.or_eq_true, Bool.and_eq_true, decide_eq_true_eq, beq_iff_eq] at h
    simp only [Op.bytesLess, Bool.or_eq_false_iff, Bool.and_eq_false_iff, decide_eq_false_iff_not, beq_eq_false_iff_ne]
    rcases h with h | ⟨rfl, h⟩
    · refine ⟨?_, .inl ?_⟩
      · rw [UInt8.lt_iff_toNat_lt] at h ⊢; omega
      · rintro rfl; rw [UInt8.lt_iff_toNat_lt] at h; omega
    · exact ⟨by rw [UInt8.lt_iff_toNat_lt]; omega, .inr (ltb_asymm r q h)⟩
theorem ltb_trans : ∀ a b c : List UInt8, Op.bytesLess a b = true → Op.bytesLess b c = true → Op.bytesLess a c = true
  | _, b, [], _, h => by cases b <;> simp [Op.bytesLess] at h
  | a, [], _ :: _, h, _ => by cases a <;> simp [Op.bytesLess] at h
  | [], _ :: _, _ :: _, _, _ => by simp [Op.bytesLess]
  | x :: r, y :: q, z :: s, h1, h2 => by
    simp only [Op.bytesLess, Bool.or_eq_true, Bool.and_eq_true, decide_eq_true_eq, beq_iff_eq] at h1 h2 ⊢
    rcases h1 with h1 | ⟨rfl, h1⟩
    · rcases h2 with h2 | ⟨rfl, h2⟩
      · exact .inl (by rw [UInt8.lt_iff_toNat_lt] at *; omega)
      · exact .inl h1
    · rcases h2 with h2 | ⟨rfl, h2⟩
      · exact .inl h2
      · exact .inr ⟨rfl, ltb_trans r q s h1 h2⟩
theorem ltb_ne {a b : List UInt8} (h : Op.bytesLess a b = true) : a ≠ b := by
  rintro rfl
  rw [ltb_irrefl] at h
  cases h
def seen : List Pre2 → ByteArray → ByteArray
  | [], x => x
  | t :: r, x => if t.1 = x then t.2 else seen r x
theorem seen_no : ∀ (ts : List Pre2) (x : ByteArray), (∀ t ∈ ts, t.1 ≠ x) → seen ts x = x
  | [], _, _ => rfl
  | t :: r, x, h => by
    unfold seen
    rw [if_neg (h t (List.mem_cons_self ..))]
    exact seen_no r x fun u hu => h u (List.mem_cons_of_mem _ hu)
theorem seen_at : ∀ (ts : List Pre2) (x : ByteArray) (i : Nat) (t : Pre2), ts[i]? = some t → t.1 = x → (∀ j u, j < i → ts[j]? = some u → u.1 ≠ x) → seen ts x = t.2
  | [], _, _, _, h, _, _ => by simp at h
  | u :: r, x, 0, t, h, hx, _ => by
    obtain rfl : u = t := by simpa using h
    unfold seen
    rw [if_pos hx]
  | u :: r, x, i + 1, t, h, hx, hn => by
    unfold seen
    rw [if_neg (hn 0 u (by omega) (by simp))]
    exact seen_at r x i t (by simpa using h) hx fun j v hj hv => hn (j + 1) v (by omega) (by simpa using hv)
def Asc (ts : List Pre2) : Prop := ∀ (i j : Nat) (t u : Pre2), i < j → ts[i]? = some t → ts[j]? = some u → lessP t u = true
theorem lessP_trans {t u v : Pre2} (h : lessP t u = true) (h' : lessP u v = true) : lessP t v = true := ltb_trans _ _ _ h h'
theorem asc_of {ts : List Pre2} (h : gUpto pairT lessP ts ts.length = true) : Asc ts := by
  have step : ∀ (j : Nat) (t u : Pre2), ts[j]? = some t → ts[j + 1]? = some u → lessP t u = true := fun j t u ht hu => by
    have hl := (List.getElem?_eq_some_iff.1 hu).1
    have := List.all_eq_true.1 h (j + 1) (List.mem_range.2 hl)
    rw [gAt_next (by omega) hu (by simpa using ht)] at this
    simp only [Bool.and_eq_true] at this
    exact this.2
  unfold Asc
  intro i j
  induction j with
  | zero => intro t u hi; omega
  | succ j ih =>
    intro t u hi ht hu
    have hl := (List.getElem?_eq_some_iff.1 hu).1
    have hm : ts[j]? = some ts[j] := List.getElem?_eq_getElem (by omega)
    rcases Nat.lt_or_eq_of_le (show i ≤ j by omega) with hlt | rfl
    · exact lessP_trans (ih t _ hlt ht hm) (step j _ _ hm hu)
    · exact step i _ _ ht hu
theorem cmp_cases : ∀ a b : List UInt8, (Lib.compareBytes a b < 0 ∧ Op.bytesLess a b = true) ∨ (Lib.compareBytes a b = 0 ∧ a = b) ∨ (0 < Lib.compareBytes a b ∧ Op.bytesLess b a = true)
  | [], [] => .inr (.inl ⟨rfl, rfl⟩)
  | [], _ :: _ => .inl ⟨by simp [Lib.compareBytes], by simp [Op.bytesLess]⟩
  | _ :: _, [] => .inr (.inr ⟨by simp [Lib.compareBytes], by simp [Op.bytesLess]⟩)
  | x :: r, y :: q => by
    unfold Lib.compareBytes
    by_cases h1 : x < y
    · rw [if_pos h1]; exact .inl ⟨by omega, by simp [Op.bytesLess, h1]⟩
    rw [if_neg h1]
    by_cases h2 : y < x
    · rw [if_pos h2]; exact .inr (.inr ⟨by omega, by simp [Op.bytesLess, h2]⟩)
    rw [if_neg h2]
    obtain rfl : x = y := by
      rw [UInt8.lt_iff_toNat_lt] at h1 h2
      exact UInt8.toNat_inj.1 (by omega)
    rcases cmp_cases r q with ⟨h, h'⟩ | ⟨h, rfl⟩ | ⟨h, h'⟩
    · exact .inl ⟨h, by simp [Op.bytesLess, h']⟩
    · exact .inr (.inl ⟨h, rfl⟩)
    · exact .inr (.inr ⟨h, by simp [Op.bytesLess, h']⟩)
end Go.Proofs.Ytamnlifdfhmbnaa
