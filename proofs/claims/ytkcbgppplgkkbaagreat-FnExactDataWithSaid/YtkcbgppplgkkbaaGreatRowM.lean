/- Rows of bindings: the contracts of the small functions; which rows are right. -/
import Derived.Test.YtkcbgppplgkkbaaGreatRise
import Derived.Test.YtkcbgppplgkkbaaGreatSpecKO
import Derived.Test.YtkcbgppplgkkbaaGreatBox
import Derived.Lib.Bytealg
import Derived.Deep.QuietTactic
import Derived.BigQuiet
import Derived.WalkSmall
import Derived.IntWalk
namespace Go.Proofs.YtkcbgppplgkkbaaGreat
open Go.RowKit
/-- Block g holds just these two cells. -/
def Box2 (w : World) (g : Nat) (x y : Value) (T : TypeId) : Prop := w.heap[g]? = some (.cells #[x, y] T (0, 0))
theorem Box2.new (w : World) (x y : Value) (T : TypeId) : Box2 (w.alloc (.cells #[x, y] T)) w.heap.size x y T := heap_alloc_new w _
theorem Box2.drew {w : World} {g : Nat} {x y : Value} {T : TypeId} (h : Box2 w g x y T) : Box2 w.drew g x y T := h
theorem Box2.cells {w : World} {g : Nat} {x y : Value} {T : TypeId} (h : Box2 w g x y T) : w.cell? ⟨g, 0, none⟩ = some x ∧ w.cell? ⟨g, 1, none⟩ = some y := by
  unfold Box2 at h
  refine ⟨?_, ?_⟩ <;> simp [World.cell?, h]
def isVarK (l : List UInt8) : Bool := decide (kindL l = 4)
def isValK (l : List UInt8) : Bool := decide (kindL l = 1) || decide (kindL l = 2) || decide (kindL l = 3)
def pairT (t : Pre2) : Bool := isVarK t.1.data.toList && isValK t.2.data.toList
def rowOk (ts : List Pre2) : Bool := decide (ts.length ≤ 12) && gUpto pairT lessP ts ts.length
theorem specIn (k : Nat) (w : World) :
    Calls Tryz.prog 55 #[.int .i64 k, .int .i64 1, .int .i64 3] w fun e w' => e = .returned (.bool (decide (k = 1) || decide (k = 2) || decide (k = 3))) ∧ w = w' := by
  have EO : (((1 : Int) ≤ (k : Int)) ∧ (k : Int) ≤ 3 ∧ (decide (k = 1) || decide (k = 2) || decide (k = 3)) = true) ∨ ((k : Int) < 1 ∧ (decide (k = 1) || decide (k = 2) || decide (k = 3)) = false) ∨ (((1 : Int) ≤ (k : Int)) ∧ (3 : Int) < (k : Int) ∧ (decide (k = 1) || decide (k = 2) || decide (k = 3)) = false) := by
    simp only [Bool.or_eq_true, Bool.or_eq_false_iff, decide_eq_true_eq, decide_eq_false_iff_not]; omega
  generalize (decide (k = 1) || decide (k = 2) || decide (k = 3)) = q at EO ⊢
  go_enter Tryz.func55, Tryz.ntmps55
  rcases EO with ⟨o1, o2, rfl⟩ | ⟨o1, rfl⟩ | ⟨o1, o2, rfl⟩
  all_goals
    go_wp2_with fail
    go_ret
    exact ⟨by first | rfl | (simp; omega), rfl⟩
open Go.RowKit Go.WideShapes
theorem ltb_irrefl : ∀ a : List UInt8, Op.bytesLess a a = false
  | [] => rfl
  | x :: r => by simp [Op.bytesLess, ltb_irrefl r]
theorem ltb_asymm : ∀ a b : List UInt8, Op.bytesLess a b = true → Op.bytesLess b a = false
  | _, [], h => by simp [Op.bytesLess] at h
  | [], _ :: _, _ => by simp [Op.bytesLess]
  | x :: r, y :: q, h => by
    simp only [Op.bytesLess, Bool.or_eq_true, Bool.and_eq_true, decide_eq_true_eq, beq_iff_eq] at h
    simp only [Op.bytesLess, Bool.or_eq_false_iff, Bool.and_eq_false_iff, decide_eq_false_iff_not, beq_eq_false_iff_ne]
    rcases h with h | ⟨rfl, h⟩
    · refine ⟨?_, .inl ?_⟩
      · rw [UInt8.lt_iff_toNat_lt] at h ⊢; omega
      · rintro rfl; rw [UInt8.lt_iff_toNat_lt] at h; omega
    · exact ⟨by rw [UInt8.lt_iff_toNat_lt]; omega, .inr (ltb_asymm r q h)⟩
theorem ltb_trans : ∀ a b c : List UInt8, Op.bytesLess a b = true → Op.bytesLess b c = true → Op.bytesLess a c = true
  | _, b, [], _, h => by cases b <;> simp [Op.bytesLess] at h
  | a, [], _ :: _, h, _ => by cases a <;> simp [Op.bytesLess] at h
  | [], _ :: _, _ :: _, _, _ => by simp [Op.bytesLess]
  | x :: r, y :: q, z :: s, h1, h2 => by
    simp only [Op.bytesLess, Bool.or_eq_true, Bool.and_eq_true, decide_eq_true_eq, beq_iff_eq] at h1 h2 ⊢
    rcases h1 with h1 | ⟨rfl, h1⟩
    · rcases h2 with h2 | ⟨rfl, h2⟩
      · exact .inl (by rw [UInt8.lt_iff_toNat_lt] at *; omega)
      · exact .inl h1
    · rcases h2 with h2 | ⟨rfl, h2⟩
      · exact .inl h2
      · exact .inr ⟨rfl, ltb_trans r q s h1 h2⟩
theorem ltb_ne {a b : List UInt8} (h : Op.bytesLess a b = true) : a ≠ b := by
  rintro rfl
  rw [ltb_irrefl] at h
  cases h
def seen : List Pre2 → ByteArray → ByteArray
  | [], x => x
  | t :: r, x => if t.1 = x then t.2 else seen r x
theorem seen_no : ∀ (ts : List Pre2) (x : ByteArray), (∀ t ∈ ts, t.1 ≠ x) → seen ts x = x
  | [], _, _ => rfl
  | t :: r, x, h => by
    unfold seen
    rw [if_neg (h t (List.mem_cons_self ..))]
    exact seen_no r x fun u hu => h u (List.mem_cons_of_mem _ hu)
theorem seen_at : ∀ (ts : List Pre2) (x : ByteArray) (i : Nat) (t : Pre2), ts[i]? = some t → t.1 = x → (∀ j u, j < i → ts[j]? = some u → u.1 ≠ x) → seen ts x = t.2
  | [], _, _, _, h, _, _ => by simp at h
  | u :: r, x, 0, t, h, hx, _ => by
    obtain rfl : u = t := by simpa using h
    unfold seen
    rw [if_pos hx]
  | u :: r, x, i + 1, t, h, hx, hn => by
    unfold seen
    rw [if_neg (hn 0 u (by omega) (by simp))]
    exact seen_at r x i t (by simpa using h) hx fun j v hj hv => hn (j + 1) v (by omega) (by simpa using hv)
def Asc (ts : List Pre2) : Prop := ∀ (i j : Nat) (t u : Pre2), i < j → ts[i]? = some t → ts[j]? = some u → lessP t u = true
theorem lessP_trans {t u v : Pre2} (h : lessP t u = true) (h' : lessP u v = true) : lessP t v = true := ltb_trans _ _ _ h h'
theorem asc_of {ts : List Pre2} (h : gUpto pairT lessP ts ts.length = true) : Asc ts := by
  have step : ∀ (j : Nat) (t u : Pre2), ts[j]? = some t → ts[j + 1]? = some u → lessP t u = true := fun j t u ht hu => by
    have hl := (List.getElem?_eq_some_iff.1 hu).1
    have := List.all_eq_true.1 h (j + 1) (List.mem_range.2 hl)
    rw [gAt_next (by omega) hu (by simpa using ht)] at this
    simp only [Bool.and_eq_true] at this
    exact this.2
  unfold Asc
  intro i j
  induction j with
  | zero => intro t u hi; omega
  | succ j ih =>
    intro t u hi ht hu
    have hl := (List.getElem?_eq_some_iff.1 hu).1
    have hm : ts[j]? = some ts[j] := List.getElem?_eq_getElem (by omega)
    rcases Nat.lt_or_eq_of_le (show i ≤ j by omega) with hlt | rfl
    · exact lessP_trans (ih t _ hlt ht hm) (step j _ _ hm hu)
    · exact step i _ _ ht hu
theorem cmp_cases : ∀ a b : List UInt8, (Lib.compareBytes a b < 0 ∧ Op.bytesLess a b = true) ∨ (Lib.compareBytes a b = 0 ∧ a = b) ∨ (0 < Lib.compareBytes a b ∧ Op.bytesLess b a = true)
  | [], [] => .inr (.inl ⟨rfl, rfl⟩)
  | [], _ :: _ => .inl ⟨by simp [Lib.compareBytes], by simp [Op.bytesLess]⟩
  | _ :: _, [] => .inr (.inr ⟨by simp [Lib.compareBytes], by simp [Op.bytesLess]⟩)
  | x :: r, y :: q => by
    unfold Lib.compareBytes
    by_cases h1 : x < y
    · rw [if_pos h1]; exact .inl ⟨by omega, by simp [Op.bytesLess, h1]⟩
    rw [if_neg h1]
    by_cases h2 : y < x
    · rw [if_pos h2]; exact .inr (.inr ⟨by omega, by simp [Op.bytesLess, h2]⟩)
    rw [if_neg h2]
    obtain rfl : x = y := by
      rw [UInt8.lt_iff_toNat_lt] at h1 h2
      exact UInt8.toNat_inj.1 (by omega)
    rcases cmp_cases r q with ⟨h, h'⟩ | ⟨h, rfl⟩ | ⟨h, h'⟩
    · exact .inl ⟨h, by simp [Op.bytesLess, h']⟩
    · exact .inr (.inl ⟨h, rfl⟩)
    · exact .inr (.inr ⟨h, by simp [Op.bytesLess, h']⟩)
end Go.Proofs.YtkcbgppplgkkbaaGreat
