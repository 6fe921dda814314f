/- Short names: plain functions on lists of bytes. -/
import Derived.Test.YtdhieemalhadmabPrefM
namespace Go.Proofs.Ytdhieemalhadmab
/-- Whether what stands between the marks begins with the long name and goes on as a short one may. -/
def fitsP (x : List UInt8) (t : Pre2) : Bool := Lib.hasPrefix x t.2.data.toList && made (x.drop t.2.size) 12 labB
def longOf (acc : Option Pre2) : Nat := match acc with
  | none => 0
  | some u => u.2.size
def stepP (x : List UInt8) (acc : Option Pre2) (t : Pre2) : Option Pre2 := if fitsP x t && decide (longOf acc < t.2.size) then some t else acc
def bestP (x : List UInt8) (ts : List Pre2) : Option Pre2 := ts.foldl (stepP x) none
def shortOf (x l : List UInt8) (acc : Option Pre2) : List UInt8 := match acc with
  | none => l
  | some t => t.1.data.toList ++ 58 :: x.drop t.2.size
def shortL (ts : List Pre2) (l : List UInt8) : List UInt8 := match inner l 60 62 with
  | none => l
  | some x => if decide (kindL l = 1) && presOk ts then shortOf x l (bestP x ts) else l
theorem bestP_snoc (x : List UInt8) (ts : List Pre2) (t : Pre2) : bestP x (ts ++ [t]) = stepP x (bestP x ts) t := by
  unfold bestP; rw [List.foldl_append]; rfl
theorem stepP_no {x : List UInt8} {acc : Option Pre2} {t : Pre2} (h : fitsP x t = false) : stepP x acc t = acc := by unfold stepP; rw [h]; rfl
theorem stepP_less {x : List UInt8} {acc : Option Pre2} {t : Pre2} (h : ¬ longOf acc < t.2.size) : stepP x acc t = acc := by unfold stepP; rw [decide_eq_false h, Bool.and_false]; rfl
theorem stepP_yes {x : List UInt8} {acc : Option Pre2} {t : Pre2} (h : fitsP x t = true) (h2 : longOf acc < t.2.size) : stepP x acc t = some t := by unfold stepP; rw [h, decide_eq_true h2]; rfl
theorem bestP_mem (x : List UInt8) (ts : List Pre2) : ∀ k, k ≤ ts.length → bestP x (ts.take k) = none ∨ ∃ j, j < k ∧ bestP x (ts.take k) = ts[j]? := by
  intro k
  induction k with
  | zero => intro _; left; rfl
  | succ k ih =>
    intro hk
    rw [List.take_succ_eq_append_getElem (by omega), bestP_snoc]
    unfold stepP
    split
    · right; exact ⟨k, by omega, by rw [List.getElem?_eq_getElem (by omega)]⟩
    · rcases ih (by omega) with h | ⟨j, hj, h⟩
      · left; exact h
      · right; exact ⟨j, by omega, h⟩
theorem kind_one {l : List UInt8} (h : kindL l = 1) : ∃ r, l = 60 :: (r ++ [62]) ∧ inner l 60 62 = some r := by
  cases l with
  | nil => simp [kindL, shape_nil] at h
  | cons x q =>
    rw [kindL_cons] at h
    by_cases hx : x = 60
    · subst hx
      by_cases hq : q.getLast? = some 62
      · obtain ⟨r, rfl⟩ := List.getLast?_eq_some_iff.1 hq
        exact ⟨r, rfl, by rw [inner_cons]; simp⟩
      · simp [hq] at h
    · rw [if_neg hx] at h
      split at h
      · split at h
        · split at h <;> omega
        · omega
      · split at h
        · split at h
          · split at h <;> omega
          · omega
        · split at h
          · split at h <;> omega
          · omega
theorem pres_mem {ts : List Pre2} (h : presOk ts = true) : ∀ t ∈ ts, 1 ≤ t.2.size := by
  intro t ht
  unfold presOk at h
  simp only [Bool.and_eq_true] at h
  have := gUpto_mem h.2 t ht
  unfold preT made at this
  simp only [Bool.and_eq_true, decide_eq_true_eq] at this
  have := this.2.1.1
  rw [size_len] at this
  exact this
end Go.Proofs.Ytdhieemalhadmab
