/- The contracts of the functions on triples that tell which is ahead. -/
import Derived.Test.YtonikgmplgcplaaG07
import Derived.Test.YtonikgmplgcplaaG03
import Derived.Test.YtonikgmplgcplaaG04
namespace Go.Proofs.Ytonikgmplgcplaa
open Go.RowKit
def aheadL (s p o s' p' o' : List UInt8) : Bool := if s = s' then (if p = p' then Op.bytesLess o o' else Op.bytesLess p p') else Op.bytesLess s s'
theorem data_inj {a b : ByteArray} (h : a.data.toList = b.data.toList) : a = b := by rw [← bs_of a, ← bs_of b, h]
set_option maxRecDepth 100000 in
theorem implAhead (s p o s' p' o' : ByteArray) (w : World) :
    Calls Try.prog 33 #[.agg #[.string s, .string p, .string o], .agg #[.string s', .string p', .string o']] w fun e w' => e = .returned (.bool (aheadL s.data.toList p.data.toList o.data.toList s'.data.toList p'.data.toList o'.data.toList)) ∧ Below w.heap.size w w' := by
  by_cases h1 : s = s'
  · by_cases h2 : p = p'
    · have e1 : (s.toList == s'.toList) = true := by rw [h1]; simp
      have e2 : (p.toList == p'.toList) = true := by rw [h2]; simp
      have HR : Hid (aheadL s.data.toList p.data.toList o.data.toList s'.data.toList p'.data.toList o'.data.toList = Op.bytesLess o.toList o'.toList) := Lib.hid (by
        unfold aheadL; rw [if_pos (by rw [h1]), if_pos (by rw [h2]), ByteArray.toList_eq, ByteArray.toList_eq])
      clear h1 h2
      go_enter Try.func33, Try.ntmps33
      go_wp2_with fail
      go_ret
      exact ⟨by rw [HR.out]; rfl, ((Below.refl _ _).alloc (Nat.le_refl _) _).alloc (by simp) _⟩
    · have e1 : (s.toList == s'.toList) = true := by rw [h1]; simp
      have e2 : (p.toList == p'.toList) = false := by rw [beq_eq_false_iff_ne, ByteArray.toList_eq, ByteArray.toList_eq]; exact fun h => h2 (data_inj h)
      have HR : Hid (aheadL s.data.toList p.data.toList o.data.toList s'.data.toList p'.data.toList o'.data.toList = Op.bytesLess p.toList p'.toList) := Lib.hid (by
        unfold aheadL; rw [if_pos (by rw [h1]), if_neg (fun h => h2 (data_inj h)), ByteArray.toList_eq, ByteArray.toList_eq])
      clear h1 h2
      go_enter Try.func33, Try.ntmps33
      go_wp2_with fail
      go_ret
      exact ⟨by rw [HR.out]; rfl, ((Below.refl _ _).alloc (Nat.le_refl _) _).alloc (by simp) _⟩
  · have e1 : (s.toList == s'.toList) = false := by rw [beq_eq_false_iff_ne, ByteArray.toList_eq, ByteArray.toList_eq]; exact fun h => h1 (data_inj h)
    have HR : Hid (aheadL s.data.toList p.data.toList o.data.toList s'.data.toList p'.data.toList o'.data.toList = Op.bytesLess s.toList s'.toList) := Lib.hid (by
      unfold aheadL; rw [if_neg (fun h => h1 (data_inj h)), ByteArray.toList_eq, ByteArray.toList_eq])
    clear h1
    go_enter Try.func33, Try.ntmps33
    go_wp2_with fail
    go_ret
    exact ⟨by rw [HR.out]; rfl, ((Below.refl _ _).alloc (Nat.le_refl _) _).alloc (by simp) _⟩
set_option maxRecDepth 100000 in
theorem specAhead (s p o s' p' o' : ByteArray) (w : World) :
    Calls Try.prog 23 #[.agg #[.string s, .string p, .string o], .agg #[.string s', .string p', .string o']] w fun e w' => e = .returned (.bool (aheadL s.data.toList p.data.toList o.data.toList s'.data.toList p'.data.toList o'.data.toList)) ∧ Below w.heap.size w w' := by
  by_cases h1 : s = s'
  · by_cases h2 : p = p'
    · have e1 : (s.toList == s'.toList) = true := by rw [h1]; simp
      have e2 : (p.toList == p'.toList) = true := by rw [h2]; simp
      have HR : Hid (aheadL s.data.toList p.data.toList o.data.toList s'.data.toList p'.data.toList o'.data.toList = Op.bytesLess o.toList o'.toList) := Lib.hid (by
        unfold aheadL; rw [if_pos (by rw [h1]), if_pos (by rw [h2]), ByteArray.toList_eq, ByteArray.toList_eq])
      clear h1 h2
      go_enter Try.func23, Try.ntmps23
      go_wp2_with fail
      go_ret
      exact ⟨by rw [HR.out]; rfl, ((Below.refl _ _).alloc (Nat.le_refl _) _).alloc (by simp) _⟩
    · have e1 : (s.toList == s'.toList) = true := by rw [h1]; simp
      have e2 : (p.toList == p'.toList) = false := by rw [beq_eq_false_iff_ne, ByteArray.toList_eq, ByteArray.toList_eq]; exact fun h => h2 (data_inj h)
      have HR : Hid (aheadL s.data.toList p.data.toList o.data.toList s'.data.toList p'.data.toList o'.data.toList = Op.bytesLess p.toList p'.toList) := Lib.hid (by
        unfold aheadL; rw [if_pos (by rw [h1]), if_neg (fun h => h2 (data_inj h)), ByteArray.toList_eq, ByteArray.toList_eq])
      clear h1 h2
      go_enter Try.func23, Try.ntmps23
      go_wp2_with fail
      go_ret
      exact ⟨by rw [HR.out]; rfl, ((Below.refl _ _).alloc (Nat.le_refl _) _).alloc (by simp) _⟩
  · have e1 : (s.toList == s'.toList) = false := by rw [beq_eq_false_iff_ne, ByteArray.toList_eq, ByteArray.toList_eq]; exact fun h => h1 (data_inj h)
    have HR : Hid (aheadL s.data.toList p.data.toList o.data.toList s'.data.toList p'.data.toList o'.data.toList = Op.bytesLess s.toList s'.toList) := Lib.hid (by
      unfold aheadL; rw [if_neg (fun h => h1 (data_inj h)), ByteArray.toList_eq, ByteArray.toList_eq])
    clear h1
    go_enter Try.func23, Try.ntmps23
    go_wp2_with fail
    go_ret
    exact ⟨by rw [HR.out]; rfl, ((Below.refl _ _).alloc (Nat.le_refl _) _).alloc (by simp) _⟩
end Go.Proofs.Ytonikgmplgcplaa
/- Lists of which each is right, and each ahead of the next: plain facts. -/
namespace Go.Proofs.Ytonikgmplgcplaa
def gAt {α : Type} (ok : α → Bool) (ah : α → α → Bool) (ts : List α) (i : Nat) : Bool := match ts[i]? with
  | some t => ok t && (i == 0 || match ts[i - 1]? with | some u => ah u t | none => true)
  | none => true
def gUpto {α : Type} (ok : α → Bool) (ah : α → α → Bool) (ts : List α) (k : Nat) : Bool := (List.range k).all (gAt ok ah ts)
theorem gUpto_succ {α : Type} (ok : α → Bool) (ah : α → α → Bool) (ts : List α) (k : Nat) : gUpto ok ah ts (k + 1) = (gUpto ok ah ts k && gAt ok ah ts k) := by
  unfold gUpto; rw [List.range_succ, List.all_append]; simp
theorem gUpto_no {α : Type} {ok : α → Bool} {ah : α → α → Bool} {ts : List α} {k : Nat} (h : gAt ok ah ts k = false) (hk : k < ts.length) : gUpto ok ah ts ts.length = false := by
  unfold gUpto
  rw [List.all_eq_false]
  exact ⟨k, List.mem_range.2 hk, by rw [h]; simp⟩
theorem gAt_not {α : Type} {ok : α → Bool} {ah : α → α → Bool} {ts : List α} {k : Nat} {t : α} (h : ts[k]? = some t) (ho : ok t = false) : gAt ok ah ts k = false := by unfold gAt; rw [h]; simp [ho]
theorem gAt_zero {α : Type} {ok : α → Bool} {ah : α → α → Bool} {ts : List α} {t : α} (h : ts[0]? = some t) : gAt ok ah ts 0 = ok t := by unfold gAt; rw [h]; simp
theorem gAt_next {α : Type} {ok : α → Bool} {ah : α → α → Bool} {ts : List α} {k : Nat} {t u : α} (h0 : 0 < k) (h : ts[k]? = some t) (hu : ts[k - 1]? = some u) : gAt ok ah ts k = (ok t && ah u t) := by
  have e : (k == 0) = false := by rw [beq_eq_false_iff_ne]; omega
  unfold gAt; rw [h]; simp [hu, e]
theorem gUpto_mem {α : Type} {ok : α → Bool} {ah : α → α → Bool} {ts : List α} (h : gUpto ok ah ts ts.length = true) : ∀ t ∈ ts, ok t = true := by
  intro t ht
  obtain ⟨i, hi⟩ := List.mem_iff_getElem?.1 ht
  have hl := (List.getElem?_eq_some_iff.1 hi).1
  have := List.all_eq_true.1 h i (List.mem_range.2 hl)
  unfold gAt at this
  rw [hi] at this
  simp only [Bool.and_eq_true] at this
  exact this.1
def okT (t : Tri3) : Bool := triOk t.1.data.toList t.2.1.data.toList t.2.2.data.toList
def aheadT (t u : Tri3) : Bool := aheadL t.1.data.toList t.2.1.data.toList t.2.2.data.toList u.1.data.toList u.2.1.data.toList u.2.2.data.toList
def graphOk (ts : List Tri3) : Bool := decide (ts.length ≤ 80) && gUpto okT aheadT ts ts.length
def preT (t : Pre2) : Bool := made t.1.data.toList 4 labB && made t.2.data.toList 12 nameB
def lessP (t u : Pre2) : Bool := Op.bytesLess t.1.toList u.1.toList
def presOk (ts : List Pre2) : Bool := decide (ts.length ≤ 4) && gUpto preT lessP ts ts.length
def Sm (ts : List Tri3) : Prop := ∀ t ∈ ts, t.1.size ≤ 2097152 ∧ t.2.1.size ≤ 2097152 ∧ t.2.2.size ≤ 2097152
def SmP (ts : List Pre2) : Prop := ∀ t ∈ ts, t.1.size ≤ 1048576 ∧ t.2.size ≤ 1048576
end Go.Proofs.Ytonikgmplgcplaa
/- The contracts of the functions on triples: their texts, and which is ahead. -/
namespace Go.Proofs.Ytonikgmplgcplaa
open Go.RowKit
def triText (s p o : List UInt8) : List UInt8 := if triOk s p o then s ++ 32 :: (p ++ 32 :: (o ++ [32, 46])) else []
theorem join_text (s p o : ByteArray) : s ++ { data := #[32] } ++ p ++ { data := #[32] } ++ o ++ { data := #[32, 46] } = bs (s.data.toList ++ 32 :: (p.data.toList ++ 32 :: (o.data.toList ++ [32, 46]))) := by
  apply bs_eq
  simp
theorem less_irrefl : ∀ a : List UInt8, Op.bytesLess a a = false
  | [] => rfl
  | x :: r => by simp [Op.bytesLess, less_irrefl r]
theorem less_asymm : ∀ a b : List UInt8, Op.bytesLess a b = true → Op.bytesLess b a = false
  | _, [], h => by simp [Op.bytesLess] at h
  | [], _ :: _, _ => by simp [Op.bytesLess]
  | x :: r, y :: q, h => by
    simp only [Op.bytesLess, Bool.or_eq_true, Bool.and_eq_true, decide_eq_true_eq, beq_iff_eq] at h
    simp only [Op.bytesLess, Bool.or_eq_false_iff, Bool.and_eq_false_iff, decide_eq_false_iff_not, beq_eq_false_iff_ne]
    rcases h with h | ⟨rfl, h⟩
    · refine ⟨?_, .inl ?_⟩
      · rw [UInt8.lt_iff_toNat_lt] at h ⊢; omega
      · rintro rfl; rw [UInt8.lt_iff_toNat_lt] at h; omega
    · exact ⟨by rw [UInt8.lt_iff_toNat_lt]; omega, .inr (less_asymm r q h)⟩
theorem less_total : ∀ a b : List UInt8, a ≠ b → Op.bytesLess a b = true ∨ Op.bytesLess b a = true
  | [], [], h => absurd rfl h
  | [], _ :: _, _ => by simp [Op.bytesLess]
  | _ :: _, [], _ => by simp [Op.bytesLess]
  | x :: r, y :: q, h => by
    simp only [Op.bytesLess, Bool.or_eq_true, Bool.and_eq_true, decide_eq_true_eq, beq_iff_eq]
    by_cases e : x = y
    · subst e
      have := less_total r q (fun g => h (by rw [g]))
      rcases this with g | g
      · exact .inl (.inr ⟨rfl, g⟩)
      · exact .inr (.inr ⟨rfl, g⟩)
    · have : x.toNat ≠ y.toNat := fun g => e (UInt8.toNat.inj g)
      rw [UInt8.lt_iff_toNat_lt, UInt8.lt_iff_toNat_lt]
      omega
theorem ahead_both (s p o s' p' o' : List UInt8) : (aheadL s p o s' p' o' && aheadL s' p' o' s p o) = false := by
  unfold aheadL
  have key : ∀ a b : List UInt8, (Op.bytesLess a b && Op.bytesLess b a) = false := by
    intro a b
    cases h : Op.bytesLess a b
    · rfl
    · rw [less_asymm a b h]; rfl
  by_cases h1 : s = s'
  · subst h1
    by_cases h2 : p = p'
    · subst h2; simp [key]
    · simp [h2, Ne.symm h2, key]
  · simp [h1, Ne.symm h1, key]
theorem ahead_one (s p o s' p' o' : List UInt8) : (aheadL s p o s' p' o' || aheadL s' p' o' s p o) = !(s == s' && (p == p' && o == o')) := by
  unfold aheadL
  have key : ∀ a b : List UInt8, (Op.bytesLess a b || Op.bytesLess b a) = !(a == b) := by
    intro a b
    by_cases h : a = b
    · subst h; simp [less_irrefl]
    · have e : (a == b) = false := by simpa using h
      rw [e]
      rcases less_total a b h with g | g <;> simp [g]
  by_cases h1 : s = s'
  · subst h1
    by_cases h2 : p = p'
    · subst h2; simp [key]
    · simp [h2, Ne.symm h2, key]
  · simp [h1, Ne.symm h1, key]
end Go.Proofs.Ytonikgmplgcplaa
