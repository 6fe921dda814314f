/- The exact laws' own marks: their texts, and a slice of triples that is marked and looked at again.; Rows of bindings: the contracts of the small functions; which rows are right.; Texts that rise, and a map keyed by texts: plain facts. -/
import Derived.Test.YtiajdnhmjdfeeaaGreatK09
import Derived.Deep.RegionHeld3
import Derived.Test.YtiajdnhmjdfeeaaGreatK08
import Derived.Test.YtiajdnhmjdfeeaaGreatK07
import Derived.Test.YtiajdnhmjdfeeaaGreatK01
import Derived.Lib.Bytealg
import Derived.Deep.QuietTactic
import Derived.BigQuiet
import Derived.WalkSmall
import Derived.IntWalk
import Derived.Sort.MapsRangeIn
import Derived.Sort.KeysCollected
import Derived.Test.YtiajdnhmjdfeeaaGreatK00
import Derived.Maps.OwnSet
import Derived.StringKeys
namespace Go.Proofs.YtiajdnhmjdfeeaaGreat
open Go.RowKit Go.WideShapes
def dig (n : Nat) : List UInt8 := if _h : n = 0 then [] else dig (n / 10) ++ [UInt8.ofNat (48 + n % 10)]
termination_by n
decreasing_by omega
def mark (n : Nat) : ByteArray := bs (109 :: dig n)
def markT (i : Nat) : Tri3 := (mark (1 + 3 * i), mark (1 + 3 * i + 1), mark (1 + 3 * i + 2))
def marksT (n : Nat) : List Tri3 := (List.range n).map markT
theorem grown_any {w w' : World} (h : w.grownBy w' none) (r : Option Nat) : w.grownBy w' r := ⟨h.os, h.tape, h.output, h.size, fun k hk _ => h.block k hk (by simp)⟩
end Go.Proofs.YtiajdnhmjdfeeaaGreat
namespace Go.Proofs.YtiajdnhmjdfeeaaGreat
open Go.RowKit
/-- Block g holds just these two cells. -/
def Box2 (w : World) (g : Nat) (x y : Value) (T : TypeId) : Prop := w.heap[g]? = some (.cells #[x, y] T (0, 0))
theorem Box2.new (w : World) (x y : Value) (T : TypeId) : Box2 (w.alloc (.cells #[x, y] T)) w.heap.size x y T := heap_alloc_new w _
theorem Box2.drew {w : World} {g : Nat} {x y : Value} {T : TypeId} (h : Box2 w g x y T) : Box2 w.drew g x y T := h
theorem Box2.cells {w : World} {g : Nat} {x y : Value} {T : TypeId} (h : Box2 w g x y T) : w.cell? ⟨g, 0, none⟩ = some x ∧ w.cell? ⟨g, 1, none⟩ = some y := by
  unfold Box2 at h
  refine ⟨?_, ?_⟩ <;> simp [World.cell?, h]
def isVarK (l : List UInt8) : Bool := decide (kindL l = 4)
def isValK (l : List UInt8) : Bool := decide (kindL l = 1) || decide (kindL l = 2) || decide (kindL l = 3)
def pairT (t : Pre2) : Bool := isVarK t.1.data.toList && isValK t.2.data.toList
def rowOk (ts : List Pre2) : Bool := decide (ts.length ≤ 12) && gUpto pairT lessP ts ts.length
theorem implIsVar (s : ByteArray) (hs : s.size ≤ 2097152) (w : World) :
    Calls Tryz.prog 83 #[.string s] w fun e w' => e = .returned (.bool (isVarK s.data.toList)) ∧ Below w.heap.size w w' := by
  have C' := implKindOf s hs
  unfold isVarK
  generalize kindL s.data.toList = k at C' ⊢
  have C := Lib.hid C'
  clear C'
  have EK : (((k : Int) == 4) = true ∧ decide (k = 4) = true) ∨ (((k : Int) == 4) = false ∧ decide (k = 4) = false) := by
    simp only [beq_iff_eq, beq_eq_false_iff_ne, decide_eq_true_eq, decide_eq_false_iff_not]; omega
  generalize decide (k = 4) = q at EK ⊢
  go_enter Tryz.func83, Tryz.ntmps83
  go_wp2_with fail
  refine (C.out _).mono ?_
  rintro e w1 ⟨rfl, hb1⟩
  rcases EK with ⟨k1, rfl⟩ | ⟨k1, rfl⟩
  all_goals
    go_wp2_with fail
    go_ret
    exact ⟨rfl, hb1⟩
theorem implIsValue (s : ByteArray) (hs : s.size ≤ 2097152) (w : World) :
    Calls Tryz.prog 121 #[.string s] w fun e w' => e = .returned (.bool (isValK s.data.toList)) ∧ Below w.heap.size w w' := by
  have C' := implKindOf s hs
  unfold isValK
  generalize kindL s.data.toList = ko at C' ⊢
  have C := Lib.hid C'
  clear C'
  have EO : (((ko : Int) == 1) = true ∧ (decide (ko = 1) || decide (ko = 2) || decide (ko = 3)) = true) ∨ (((ko : Int) == 1) = false ∧ ((ko : Int) == 2) = true ∧ (decide (ko = 1) || decide (ko = 2) || decide (ko = 3)) = true) ∨
      (((ko : Int) == 1) = false ∧ ((ko : Int) == 2) = false ∧ ((ko : Int) == 3) = true ∧ (decide (ko = 1) || decide (ko = 2) || decide (ko = 3)) = true) ∨ (((ko : Int) == 1) = false ∧ ((ko : Int) == 2) = false ∧ ((ko : Int) == 3) = false ∧ (decide (ko = 1) || decide (ko = 2) || decide (ko = 3)) = false) := by
    simp only [beq_iff_eq, beq_eq_false_iff_ne, Bool.or_eq_true, Bool.or_eq_false_iff, decide_eq_true_eq, decide_eq_false_iff_not]; omega
  generalize (decide (ko = 1) || decide (ko = 2) || decide (ko = 3)) = q at EO ⊢
  go_enter Tryz.func121, Tryz.ntmps121
  go_wp2_with fail
  refine (C.out _).mono ?_
  rintro e w1 ⟨rfl, hb1⟩
  rcases EO with ⟨o1, rfl⟩ | ⟨o1, o2, rfl⟩ | ⟨o1, o2, o3, rfl⟩ | ⟨o1, o2, o3, rfl⟩
  all_goals
    go_wp2_with fail
    go_ret
    exact ⟨rfl, hb1⟩
theorem specIn (k : Nat) (w : World) :
    Calls Tryz.prog 99 #[.int .i64 k, .int .i64 1, .int .i64 3] w fun e w' => e = .returned (.bool (decide (k = 1) || decide (k = 2) || decide (k = 3))) ∧ w = w' := by
  have EO : (((1 : Int) ≤ (k : Int)) ∧ (k : Int) ≤ 3 ∧ (decide (k = 1) || decide (k = 2) || decide (k = 3)) = true) ∨ ((k : Int) < 1 ∧ (decide (k = 1) || decide (k = 2) || decide (k = 3)) = false) ∨ (((1 : Int) ≤ (k : Int)) ∧ (3 : Int) < (k : Int) ∧ (decide (k = 1) || decide (k = 2) || decide (k = 3)) = false) := by
    simp only [Bool.or_eq_true, Bool.or_eq_false_iff, decide_eq_true_eq, decide_eq_false_iff_not]; omega
  generalize (decide (k = 1) || decide (k = 2) || decide (k = 3)) = q at EO ⊢
  go_enter Tryz.func99, Tryz.ntmps99
  rcases EO with ⟨o1, o2, rfl⟩ | ⟨o1, rfl⟩ | ⟨o1, o2, rfl⟩
  all_goals
    go_wp2_with fail
    go_ret
    exact ⟨by first | rfl | (simp; omega), rfl⟩
open Go.RowKit Go.WideShapes
theorem ltb_irrefl : ∀ a : List UInt8, Op.bytesLess a a = false
  | [] => rfl
  | x :: r => by simp [Op.bytesLess, ltb_irrefl r]
theorem ltb_asymm : ∀ a b : List UInt8, Op.bytesLess a b = true → Op.bytesLess b a = false
  | _, [], h => by simp [Op.bytesLess] at h
  | [], _ :: _, _ => by simp [Op.bytesLess]
  | x :: r, y :: q, h => by
    simp only [Op.bytesLess, Bool.or_eq_true, Bool.and_eq_true, decide_eq_true_eq, beq_iff_eq] at h
    simp only [Op.bytesLess, Bool.or_eq_false_iff, Bool.and_eq_false_iff, decide_eq_false_iff_not, beq_eq_false_iff_ne]
    rcases h with h | ⟨rfl, h⟩
    · refine ⟨?_, .inl ?_⟩
      · rw [UInt8.lt_iff_toNat_lt] at h ⊢; omega
      · rintro rfl; rw [UInt8.lt_iff_toNat_lt] at h; omega
    · exact ⟨by rw [UInt8.lt_iff_toNat_lt]; omega, .inr (ltb_asymm r q h)⟩
theorem ltb_trans : ∀ a b c : List UInt8, Op.bytesLess a b = true → Op.bytesLess b c = true → Op.bytesLess a c = true
  | _, b, [], _, h => by cases b <;> simp [Op.bytesLess] at h
  | a, [], _ :: _, h, _ => by cases a <;> simp [Op.bytesLess] at h
  | [], _ :: _, _ :: _, _, _ => by simp [Op.bytesLess]
  | x :: r, y :: q, z :: s, h1, h2 => by
    simp only [Op.bytesLess, Bool.or_eq_true, Bool.and_eq_true, decide_eq_true_eq, beq_iff_eq] at h1 h2 ⊢
    rcases h1 with h1 | ⟨rfl, h1⟩
    · rcases h2 with h2 | ⟨rfl, h2⟩
      · exact .inl (by rw [UInt8.lt_iff_toNat_lt] at *; omega)
      · exact .inl h1
    · rcases h2 with h2 | ⟨rfl, h2⟩
      · exact .inl h2
      · exact .inr ⟨rfl, ltb_trans r q s h1 h2⟩
theorem ltb_ne {a b : List UInt8} (h : Op.bytesLess a b = true) : a ≠ b := by
  rintro rfl
  rw [ltb_irrefl] at h
  cases h
def seen : List Pre2 → ByteArray → ByteArray
  | [], x => x
  | t :: r, x => if t.1 = x then t.2 else seen r x
theorem seen_no : ∀ (ts : List Pre2) (x : ByteArray), (∀ t ∈ ts, t.1 ≠ x) → seen ts x = x
  | [], _, _ => rfl
  | t :: r, x, h => by
    unfold seen
    rw [if_neg (h t (List.mem_cons_self ..))]
    exact seen_no r x fun u hu => h u (List.mem_cons_of_mem _ hu)
theorem seen_at : ∀ (ts : List Pre2) (x : ByteArray) (i : Nat) (t : Pre2), ts[i]? = some t → t.1 = x → (∀ j u, j < i → ts[j]? = some u → u.1 ≠ x) → seen ts x = t.2
  | [], _, _, _, h, _, _ => by simp at h
  | u :: r, x, 0, t, h, hx, _ => by
    obtain rfl : u = t := by simpa using h
    unfold seen
    rw [if_pos hx]
  | u :: r, x, i + 1, t, h, hx, hn => by
    unfold seen
    rw [if_neg (hn 0 u (by omega) (by simp))]
    exact seen_at r x i t (by simpa using h) hx fun j v hj hv => hn (j + 1) v (by omega) (by simpa using hv)
def Asc (ts : List Pre2) : Prop := ∀ (i j : Nat) (t u : Pre2), i < j → ts[i]? = some t → ts[j]? = some u → lessP t u = true
theorem lessP_trans {t u v : Pre2} (h : lessP t u = true) (h' : lessP u v = true) : lessP t v = true := ltb_trans _ _ _ h h'
theorem asc_of {ts : List Pre2} (h : gUpto pairT lessP ts ts.length = true) : Asc ts := by
  have step : ∀ (j : Nat) (t u : Pre2), ts[j]? = some t → ts[j + 1]? = some u → lessP t u = true := fun j t u ht hu => by
    have hl := (List.getElem?_eq_some_iff.1 hu).1
    have := List.all_eq_true.1 h (j + 1) (List.mem_range.2 hl)
    rw [gAt_next (by omega) hu (by simpa using ht)] at this
    simp only [Bool.and_eq_true] at this
    exact this.2
  unfold Asc
  intro i j
  induction j with
  | zero => intro t u hi; omega
  | succ j ih =>
    intro t u hi ht hu
    have hl := (List.getElem?_eq_some_iff.1 hu).1
    have hm : ts[j]? = some ts[j] := List.getElem?_eq_getElem (by omega)
    rcases Nat.lt_or_eq_of_le (show i ≤ j by omega) with hlt | rfl
    · exact lessP_trans (ih t _ hlt ht hm) (step j _ _ hm hu)
    · exact step i _ _ ht hu
theorem cmp_cases : ∀ a b : List UInt8, (Lib.compareBytes a b < 0 ∧ Op.bytesLess a b = true) ∨ (Lib.compareBytes a b = 0 ∧ a = b) ∨ (0 < Lib.compareBytes a b ∧ Op.bytesLess b a = true)
  | [], [] => .inr (.inl ⟨rfl, rfl⟩)
  | [], _ :: _ => .inl ⟨by simp [Lib.compareBytes], by simp [Op.bytesLess]⟩
  | _ :: _, [] => .inr (.inr ⟨by simp [Lib.compareBytes], by simp [Op.bytesLess]⟩)
  | x :: r, y :: q => by
    unfold Lib.compareBytes
    by_cases h1 : x < y
    · rw [if_pos h1]; exact .inl ⟨by omega, by simp [Op.bytesLess, h1]⟩
    rw [if_neg h1]
    by_cases h2 : y < x
    · rw [if_pos h2]; exact .inr (.inr ⟨by omega, by simp [Op.bytesLess, h2]⟩)
    rw [if_neg h2]
    obtain rfl : x = y := by
      rw [UInt8.lt_iff_toNat_lt] at h1 h2
      exact UInt8.toNat_inj.1 (by omega)
    rcases cmp_cases r q with ⟨h, h'⟩ | ⟨h, rfl⟩ | ⟨h, h'⟩
    · exact .inl ⟨h, by simp [Op.bytesLess, h']⟩
    · exact .inr (.inl ⟨h, rfl⟩)
    · exact .inr (.inr ⟨h, by simp [Op.bytesLess, h']⟩)
end Go.Proofs.YtiajdnhmjdfeeaaGreat
namespace Go.Proofs.YtiajdnhmjdfeeaaGreat
open Go.Maps
abbrev Txt := List UInt8
def txts (l : List ByteArray) : List Txt := l.map fun s => s.data.toList
theorem txts_snoc (l : List ByteArray) (x : ByteArray) : txts (l ++ [x]) = txts l ++ [x.data.toList] := by simp [txts]
theorem txts_len (l : List ByteArray) : (txts l).length = l.length := by simp [txts]
def lessS (a b : Txt) : Bool := Op.bytesLess a b
theorem lessS_one : ∀ {a b : Txt}, lessS a b = false → lessS b a = false → a = b := by
  intro a b h g
  rcases cmp_cases a b with ⟨_, h'⟩ | ⟨_, h'⟩ | ⟨_, h'⟩
  · unfold lessS at h; rw [h] at h'; cases h'
  · exact h'
  · unfold lessS at g; rw [g] at h'; cases h'
theorem lessS_trans {a b c : Txt} (h : lessS a b = true) (g : lessS b c = true) : lessS a c = true := ltb_trans a b c h g
theorem lessS_asymm {a b : Txt} (h : lessS a b = true) : lessS b a = false := ltb_asymm a b h
theorem lessS_ne {a b : Txt} (h : lessS a b = true) : a ≠ b := ltb_ne h
theorem bytesLess_lt : ∀ a b : Txt, Op.bytesLess a b = decide (a < b)
  | [], [] => by simp [Op.bytesLess]
  | [], _ :: _ => by simp [Op.bytesLess]
  | _ :: _, [] => by simp [Op.bytesLess]
  | x :: r, y :: q => by
    rw [Bool.eq_iff_iff]
    simp only [Op.bytesLess, bytesLess_lt r q, Bool.or_eq_true, Bool.and_eq_true, decide_eq_true_eq, beq_iff_eq, List.cons_lt_cons_iff]
theorem leB_less (a b : Txt) : leB a b = !lessS b a := by
  unfold lessS
  rw [bytesLess_lt, Bool.eq_iff_iff]
  simp only [leB, decide_eq_true_eq, Bool.not_eq_true', decide_eq_false_iff_not]
  exact List.not_lt.symm
def RisingS (l : List Txt) : Prop := l.Pairwise (fun a b => lessS a b = true)
theorem RisingS.nodup {l : List Txt} (h : RisingS l) : l.Nodup := List.Pairwise.imp (fun h => lessS_ne h) h
theorem eq_of_risingS {a b : List Txt} (ha : RisingS a) (hb : RisingS b) (hm : ∀ t, t ∈ a ↔ t ∈ b) : a = b :=
  List.Perm.eq_of_pairwise (le := fun x y => lessS x y = true) (fun x y _ _ h1 h2 => by rw [lessS_asymm h1] at h2; cases h2) ha hb ((List.perm_ext_iff_of_nodup ha.nodup hb.nodup).2 hm)
theorem mergeSort_rising {l : List Txt} (hn : l.Nodup) : RisingS (l.mergeSort leB) := by
  have tr : ∀ a b c : List UInt8, leB a b = true → leB b c = true → leB a c = true := fun a b c h1 h2 => by simp only [leB, decide_eq_true_eq] at *; exact List.le_trans h1 h2
  have to : ∀ a b : List UInt8, (leB a b || leB b a) = true := fun a b => by simp only [leB, Bool.or_eq_true, decide_eq_true_eq]; exact List.le_total a b
  have hs := List.pairwise_mergeSort tr to l
  have hn' : (l.mergeSort leB).Nodup := (List.mergeSort_perm l leB).nodup_iff.2 hn
  refine List.Pairwise.imp₂ (fun a b h1 h2 => ?_) hs hn'
  rw [leB_less, Bool.not_eq_true'] at h1
  cases g : lessS a b
  · exact absurd (lessS_one g h1) h2
  · rfl
theorem mergeSort_is {l g : List Txt} (hn : l.Nodup) (hg : RisingS g) (hm : ∀ u, u ∈ l ↔ u ∈ g) : l.mergeSort leB = g :=
  eq_of_risingS (mergeSort_rising hn) hg (fun u => by rw [(List.mergeSort_perm l leB).mem_iff]; exact hm u)
/-- How many are less than t, from the front on. -/
def atS (t : Txt) : List Txt → Nat
  | [] => 0
  | u :: r => if lessS u t = true then atS t r + 1 else 0
theorem atS_le (t : Txt) : ∀ g : List Txt, atS t g ≤ g.length
  | [] => Nat.le_refl _
  | u :: r => by unfold atS; have := atS_le t r; split <;> simp <;> omega
theorem atS_ahead {t u : Txt} : ∀ {g : List Txt} {i : Nat}, i < atS t g → g[i]? = some u → lessS u t = true
  | [], i, h, _ => by simp [atS] at h
  | v :: r, i, h, hu => by
    unfold atS at h
    split at h
    · rename_i hv
      cases i with
      | zero => simp at hu; rw [← hu]; exact hv
      | succ i => exact atS_ahead (g := r) (i := i) (by omega) (by simpa using hu)
    · omega
theorem atS_stop {t u : Txt} : ∀ {g : List Txt}, g[atS t g]? = some u → lessS u t = false
  | [], h => by simp at h
  | v :: r, h => by
    unfold atS at h
    split at h
    · exact atS_stop (g := r) (by simpa using h)
    · rename_i hv
      simp at h
      rw [← h]; simpa using hv
theorem atS_is {t : Txt} {g : List Txt} {k : Nat} (h1 : ∀ i u, i < k → g[i]? = some u → lessS u t = true) (hk : k ≤ g.length) (h2 : ∀ u, g[k]? = some u → lessS u t = false) : atS t g = k := by
  rcases Nat.lt_trichotomy (atS t g) k with hh | hh | hh
  · have e : g[atS t g]? = some g[atS t g] := List.getElem?_eq_getElem (by omega)
    have := h1 _ _ hh e
    rw [atS_stop e] at this
    cases this
  · exact hh
  · have hl := atS_le t g
    have e : g[k]? = some g[k] := List.getElem?_eq_getElem (by omega)
    have := h2 _ e
    rw [atS_ahead hh e] at this
    cases this
/-- Texts that rise, with one more. -/
def putS (g : List Txt) (t : Txt) : List Txt := if g[atS t g]? = some t then g else (g.take (atS t g) ++ [t]) ++ g.drop (atS t g)
theorem putS_same {g : List Txt} {t : Txt} {k : Nat} (h : atS t g = k) (hk : g[k]? = some t) : putS g t = g := by unfold putS; rw [if_pos (by rw [h]; exact hk)]
theorem putS_more {g : List Txt} {t : Txt} {k : Nat} (h : atS t g = k) (hk : g[k]? ≠ some t) : putS g t = (g.take k ++ [t]) ++ g.drop k := by unfold putS; rw [if_neg (by rw [h]; exact hk), h]
theorem putS_len (g : List Txt) (t : Txt) : (putS g t).length ≤ g.length + 1 := by
  unfold putS
  split
  · omega
  · have := atS_le t g
    simp only [List.length_append, List.length_take, List.length_cons, List.length_nil, List.length_drop]
    omega
theorem putS_mem {g : List Txt} {t u : Txt} : u ∈ putS g t ↔ u = t ∨ u ∈ g := by
  unfold putS
  split
  · rename_i h
    refine ⟨.inr, fun h' => ?_⟩
    rcases h' with rfl | h'
    · exact List.mem_of_getElem? h
    · exact h'
  · rw [List.mem_append, List.mem_append, List.mem_singleton]
    constructor
    · rintro ((h | h) | h)
      · exact .inr (List.mem_of_mem_take h)
      · exact .inl h
      · exact .inr (List.mem_of_mem_drop h)
    · rintro (h | h)
      · exact .inl (.inr h)
      · have := List.take_append_drop (atS t g) g
        rw [← this] at h
        rcases List.mem_append.1 h with h | h
        · exact .inl (.inl h)
        · exact .inr h
theorem putS_rising {g : List Txt} {t : Txt} (hr : RisingS g) : RisingS (putS g t) := by
  unfold putS
  split
  · exact hr
  · rename_i hn
    have hl := atS_le t g
    have hsplit : RisingS (g.take (atS t g) ++ g.drop (atS t g)) := by rw [List.take_append_drop]; exact hr
    obtain ⟨p1, p2, p3⟩ := List.pairwise_append.1 hsplit
    have q1 : ∀ u ∈ g.take (atS t g), lessS u t = true := by
      intro u hu
      obtain ⟨i, hi⟩ := List.mem_iff_getElem?.1 hu
      have hil := (List.getElem?_eq_some_iff.1 hi).1
      rw [List.length_take] at hil
      rw [List.getElem?_take_of_lt (by omega)] at hi
      exact atS_ahead (by omega) hi
    have q2 : ∀ u ∈ g.drop (atS t g), lessS t u = true := by
      intro u hu
      rcases Nat.lt_or_ge (atS t g) g.length with h | h
      · have e : g[atS t g]? = some g[atS t g] := List.getElem?_eq_getElem h
        have hv : lessS t g[atS t g] = true := by
          cases hq : lessS t g[atS t g]
          · exact absurd (by rw [e, lessS_one (atS_stop e) hq]) hn
          · rfl
        rw [List.drop_eq_getElem_cons h] at hu p2
        rcases List.mem_cons.1 hu with rfl | hu
        · exact hv
        · exact lessS_trans hv ((List.pairwise_cons.1 p2).1 u hu)
      · rw [List.drop_eq_nil_of_le h] at hu
        simp at hu
    rw [List.append_assoc]
    refine List.pairwise_append.2 ⟨p1, List.pairwise_cons.2 ⟨q2, p2⟩, fun a ha b hb => ?_⟩
    rcases List.mem_cons.1 hb with rfl | hb
    · exact q1 a ha
    · exact p3 a ha b hb
def putAllS (g l : List Txt) : List Txt := l.foldl putS g
theorem putAllS_snoc (g l : List Txt) (t : Txt) : putAllS g (l ++ [t]) = putS (putAllS g l) t := by unfold putAllS; rw [List.foldl_append]; rfl
theorem putAllS_mem {u : Txt} : ∀ {b a : List Txt}, u ∈ putAllS a b ↔ u ∈ a ∨ u ∈ b
  | [], a => by simp [putAllS]
  | t :: r, a => by
    show u ∈ putAllS (putS a t) r ↔ _
    rw [putAllS_mem, putS_mem, List.mem_cons]
    constructor
    · rintro ((h | h) | h)
      · exact .inr (.inl h)
      · exact .inl h
      · exact .inr (.inr h)
    · rintro (h | h | h)
      · exact .inl (.inr h)
      · exact .inl (.inl h)
      · exact .inr h
theorem putAllS_rising : ∀ {b a : List Txt}, RisingS a → RisingS (putAllS a b)
  | [], _, h => h
  | t :: r, a, h => putAllS_rising (b := r) (a := putS a t) (putS_rising h)
theorem putAllS_len : ∀ (b a : List Txt), (putAllS a b).length ≤ a.length + b.length
  | [], a => Nat.le_refl _
  | t :: r, a => by
    have h1 := putAllS_len r (putS a t)
    have h2 := putS_len a t
    show (putAllS (putS a t) r).length ≤ _
    rw [List.length_cons]; omega
def litS (t : Txt) : Lit := .string t
theorem litS_key (t : Txt) : WideAt.IsKeyLit (litS t) := trivial
theorem litS_inj {t u : Txt} (h : litS t = litS u) : t = u := by simpa [litS] using h
instance memS (t : Txt) (ts : List Txt) : Decidable (t ∈ ts) := decidable_of_iff (∃ u, u ∈ ts ∧ u = t) ⟨fun ⟨_, h, e⟩ => e ▸ h, fun h => ⟨t, h, rfl⟩⟩
/-- A map's datum is just this list of texts, each true. -/
structure SetOfS {H : Type} (D : DataW H) (ts : List Txt) : Prop where
  nodup : ts.Nodup
  has : ∀ kl, Maps.has D kl = true ↔ ∃ t ∈ ts, kl = litS t
  size : Maps.size D = ts.length
  val : ∀ t ∈ ts, ∀ z, D.atKey (litS t) z = .lit (.bool true)
def addS (ts : List Txt) (t : Txt) : List Txt := if t ∈ ts then ts else ts ++ [t]
theorem addS_mem {ts : List Txt} {t u : Txt} : u ∈ addS ts t ↔ u ∈ ts ∨ u = t := by
  unfold addS
  split
  · exact ⟨.inl, fun h => by rcases h with h | rfl <;> assumption⟩
  · simp
theorem addS_len (ts : List Txt) (t : Txt) : (addS ts t).length ≤ ts.length + 1 := by unfold addS; split <;> simp
def addAllS (ts us : List Txt) : List Txt := us.foldl addS ts
theorem addAllS_snoc (ts us : List Txt) (t : Txt) : addAllS ts (us ++ [t]) = addS (addAllS ts us) t := by unfold addAllS; rw [List.foldl_append]; rfl
theorem addAllS_mem {u : Txt} : ∀ {us ts : List Txt}, u ∈ addAllS ts us ↔ u ∈ ts ∨ u ∈ us
  | [], ts => by simp [addAllS]
  | t :: r, ts => by
    show u ∈ addAllS (addS ts t) r ↔ _
    rw [addAllS_mem, addS_mem, List.mem_cons]
    constructor
    · rintro ((h | h) | h)
      · exact .inl h
      · exact .inr (.inl h)
      · exact .inr (.inr h)
    · rintro (h | h | h)
      · exact .inl (.inl h)
      · exact .inl (.inr h)
      · exact .inr h
theorem addAllS_len : ∀ (us ts : List Txt), (addAllS ts us).length ≤ ts.length + us.length
  | [], ts => Nat.le_refl _
  | t :: r, ts => by
    have h1 := addAllS_len r (addS ts t)
    have h2 := addS_len ts t
    show (addAllS (addS ts t) r).length ≤ _
    rw [List.length_cons]; omega
section
variable {H : Type} {D : DataW H} {ts : List Txt}
theorem SetOfS.empty : SetOfS (.map [] : DataW H) [] := ⟨List.nodup_nil, fun kl => by simp [has_eq], rfl, by simp⟩
theorem SetOfS.mem (h : SetOfS D ts) (t : Txt) : Maps.has D (litS t) = decide (t ∈ ts) := by
  rw [Bool.eq_iff_iff, h.has, decide_eq_true_eq]
  exact ⟨fun ⟨u, hu, e⟩ => by rw [litS_inj e]; exact hu, fun g => ⟨t, g, rfl⟩⟩
theorem SetOfS.put (h : SetOfS D ts) (hT : Tidy D) (t : Txt) : SetOfS (D.put (litS t) (.lit (.bool true))) (addS ts t) := by
  have hm := h.mem t
  have hhas : ∀ kl, Maps.has (D.put (litS t) (.lit (.bool true))) kl = true ↔ ∃ u ∈ addS ts t, kl = litS u := by
    intro kl
    by_cases e : kl = litS t
    · subst e
      exact ⟨fun _ => ⟨t, addS_mem.2 (.inr rfl), rfl⟩, fun _ => has_put_same hT.isMap (litS_key t) _⟩
    · rw [has_put_other e, h.has]
      exact ⟨fun ⟨u, hu, hk⟩ => ⟨u, addS_mem.2 (.inl hu), hk⟩, fun ⟨u, hu, hk⟩ => by
        rcases addS_mem.1 hu with hu | rfl
        · exact ⟨u, hu, hk⟩
        · exact absurd hk e⟩
  have hval : ∀ u ∈ addS ts t, ∀ z, (D.put (litS t) (.lit (.bool true))).atKey (litS u) z = .lit (.bool true) := by
    intro u hu z
    by_cases e : litS u = litS t
    · rw [e]; exact atKey_put_same hT.isMap (litS_key t) _ _
    · rw [atKey_put_other e]
      rcases addS_mem.1 hu with hu | rfl
      · exact h.val u hu z
      · exact absurd rfl e
  refine ⟨?_, hhas, ?_, hval⟩
  · unfold addS
    split
    · exact h.nodup
    · rename_i hn
      exact List.nodup_append.2 ⟨h.nodup, by simp, fun a ha b hb => by simp at hb; subst hb; exact fun e => hn (e ▸ ha)⟩
  · rw [size_put hT, hm]
    unfold addS
    by_cases g : t ∈ ts
    · simp [g, h.size]
    · simp [g, h.size]
theorem SetOfS.look (h : SetOfS D ts) (t : Txt) : D.atKey (litS t) (.lit (.bool false)) = .lit (.bool (decide (t ∈ ts))) := by
  by_cases g : t ∈ ts
  · rw [h.val t g, decide_eq_true g]
  · rw [atKey_of_not_has (by rw [h.mem t, decide_eq_false g]), decide_eq_false g]
end
open Go.RowKit Go.Maps
theorem lawTxt : Keyed Tryz.prog 9 := string_keyed Tryz.underlying9
/-- Block b is a map of at most n entries that has just these texts, each true. -/
def OwnSetS (w : World) (b n : Nat) (ts : List Txt) : Prop := ∃ D : DataW Unit, w.ownsMap Tryz.prog 9 (plainElem (H := Unit) Tryz.prog 4) b n D ∧ SetOfS D ts
theorem OwnSetS.lt {w : World} {b n : Nat} {ts : List Txt} (h : OwnSetS w b n ts) : b < w.heap.size := by obtain ⟨D, h, _⟩ := h; exact h.lt
theorem OwnSetS.kept {w w' : World} {b n : Nat} {ts : List Txt} {row : Option Nat} (h : OwnSetS w b n ts) (hg : w.grownBy w' row) (hne : some b ≠ row) : OwnSetS w' b n ts := by
  obtain ⟨D, h, hD⟩ := h
  exact ⟨D, h.kept hg hne, hD⟩
theorem OwnSetS.next {w w' : World} {b n : Nat} {ts : List Txt} (h : OwnSetS w b n ts) (hb : Below w.heap.size w w') : OwnSetS w' b n ts := h.kept (grown_of_below hb) (by simp)
theorem OwnSetS.alloc {w : World} {b n : Nat} {ts : List Txt} (h : OwnSetS w b n ts) (o : Obj) : OwnSetS (w.alloc o) b n ts := h.kept (World.grownBy_alloc w o none) (by simp)
theorem OwnSetS.drew {w : World} {b n : Nat} {ts : List Txt} (h : OwnSetS w b n ts) : OwnSetS w.drew b n ts := h
theorem OwnSetS.nodup {w : World} {b n : Nat} {ts : List Txt} (h : OwnSetS w b n ts) : ts.Nodup := by obtain ⟨D, _, h⟩ := h; exact h.nodup
theorem OwnSetS.made (w : World) : OwnSetS (w.alloc (.map #[] 0)) w.heap.size 0 [] := ⟨_, World.ownsMap_made _ _ _ _, SetOfS.empty⟩
theorem OwnSetS.mono {w : World} {b n n' : Nat} {ts : List Txt} (h : OwnSetS w b n ts) (hn : n ≤ n') : OwnSetS w b n' ts := by
  obtain ⟨D, h, hD⟩ := h
  exact ⟨D, h.mono hn, hD⟩
theorem true_elemS : (plainElem (H := Unit) Tryz.prog 4) (.bool true) = some (.lit (.bool true), []) := plainElem_bool Tryz.underlying4 true
theorem bool_elem_invS {H : Type} {P : Program} {e : TypeId} (he : P.underlying e = some .bool) {v : Value} {d : DataW H} {ps : List MemPlace} (h : plainElem P e v = some (d, ps)) : ∃ x, v = .bool x ∧ d = .lit (.bool x) := by
  unfold plainElem at h
  rw [he] at h
  cases v <;> simp at h
  rename_i x
  exact ⟨x, rfl, h.1.symm⟩
section
variable (w : World) {ops : Array Oper} {rest : List Oper} {o : Oper} {a : Act} {Q : Exit → Act → World → Prop}
/-- A store of true at a text. -/
theorem wpList_putS (hg : o.guard = none) (m x v : Operand) (hop : o.op = Op.mapUpdate 115 m x v) (b n : Nat) (ts : List Txt) (hm : a.eval m = .map (some b)) (h : OwnSetS w b n ts) (hn : n < maxLen) (t : ByteArray) (ht : t.size ≤ maxLen)
    (hx : a.eval x = .string t) (hv : a.eval v = .bool true) (hK : ∀ w', OwnSetS w' b (n + 1) (addS ts t.data.toList) → w.grownBy w' (some b) → wpList Tryz.prog ops Q rest (a.put o.dst undef) w') : wpList Tryz.prog ops Q (o :: rest) a w := by
  obtain ⟨D, hown, hD⟩ := h
  exact wpList_mapUpdate_own w hg m x v _ hop _ 4 lawTxt Tryz.underlying115 (plainElem (H := Unit) Tryz.prog 4) b n D hm hown hn _ _ (litS t.data.toList) hx hv (Go.WideMaps.keyOf_string_mk Tryz.underlying9 ht) _ [] true_elemS (fun w' h1 h2 => hK w' ⟨_, h1, hD.put (hown.tidy lawTxt) _⟩ h2)
/-- Whether a text is there. -/
theorem wpList_lookS (hg : o.guard = none) (m x : Operand) (hop : o.op = Op.lookup 115 m x false) (b n : Nat) (ts : List Txt) (hm : a.eval m = .map (some b)) (h : OwnSetS w b n ts) (t : ByteArray) (ht : t.size ≤ maxLen)
    (hx : a.eval x = .string t) (hz : (zeroValue 4).run Tryz.prog w = .ok (.bool false) w) (hK : wpList Tryz.prog ops Q rest (a.put o.dst (.bool (decide (t.data.toList ∈ ts)))) w) : wpList Tryz.prog ops Q (o :: rest) a w := by
  obtain ⟨D, hown, hD⟩ := h
  refine wpList_plain hg fun K' hK' => ?_
  obtain ⟨v, ps, hrun, hv⟩ := hown.lookup lawTxt Tryz.underlying115 hz (plainElem_bool Tryz.underlying4 false) (Go.WideMaps.keyOf_string_mk Tryz.underlying9 ht)
  have hl := hD.look t.data.toList
  unfold litS at hl
  rw [hl] at hv
  obtain ⟨y, rfl, e⟩ := bool_elem_invS Tryz.underlying4 hv
  simp only [DataW.lit.injEq, Lit.bool.injEq] at e
  subst e
  unfold Oper.wp
  simp [execOp, hop, hm, hx, hrun, Result.andThen]
  exact hK' _ _ hK
end
end Go.Proofs.YtiajdnhmjdfeeaaGreat
