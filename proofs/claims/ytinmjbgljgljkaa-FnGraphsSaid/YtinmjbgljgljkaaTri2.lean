/- The contracts of the functions on triples: their texts, and which is ahead. -/
import Derived.Test.YtinmjbgljgljkaaTriA
namespace Go.Proofs.Ytinmjbgljgljkaa
open Go.RowKit
def triText (s p o : List UInt8) : List UInt8 := if triOk s p o then s ++ 32 :: (p ++ 32 :: (o ++ [32, 46])) else []
theorem join_text (s p o : ByteArray) : s ++ { data := #[32] } ++ p ++ { data := #[32] } ++ o ++ { data := #[32, 46] } = bs (s.data.toList ++ 32 :: (p.data.toList ++ 32 :: (o.data.toList ++ [32, 46]))) := by
  apply bs_eq
  simp
set_option maxRecDepth 100000 in
theorem implPointed (s p o : ByteArray) (hs : s.size ≤ 2097152) (hp : p.size ≤ 2097152) (ho : o.size ≤ 2097152) (w : World) :
    Calls Try.prog 72 #[.agg #[.string s, .string p, .string o]] w fun e w' => e = .returned (.string (bs (s.data.toList ++ 32 :: (p.data.toList ++ 32 :: (o.data.toList ++ [32, 46]))))) ∧ Below w.heap.size w w' := by
  have HJ := Lib.hid (join_text s p o)
  go_enter Try.func72, Try.ntmps72
  go_wp2_with fail
  go_ret
  exact ⟨by rw [← HJ.out]; rfl, (Below.refl _ _).alloc (Nat.le_refl _) _⟩
set_option maxRecDepth 100000 in
theorem implTripleText (s p o : ByteArray) (hs : s.size ≤ 2097152) (hp : p.size ≤ 2097152) (ho : o.size ≤ 2097152) (w : World) :
    Calls Try.prog 37 #[.agg #[.string s, .string p, .string o]] w fun e w' => e = .returned (.string (bs (triText s.data.toList p.data.toList o.data.toList))) ∧ Below w.heap.size w w' := by
  have C' := implTripleOk s p o hs hp ho
  have P := Lib.hid (implPointed s p o hs hp ho)
  unfold triText
  cases hk : triOk s.data.toList p.data.toList o.data.toList
  · rw [hk] at C'
    have C := Lib.hid C'
    clear C' hk
    go_enter Try.func37, Try.ntmps37
    go_wp2_with fail
    refine (C.out _).mono ?_
    rintro e w1 ⟨rfl, hb1⟩
    go_wp2_with fail
    go_ret
    exact ⟨rfl, ((Below.refl _ _).alloc (Nat.le_refl _) _).trans (hb1.mono (by simp))⟩
  · rw [hk] at C'
    have C := Lib.hid C'
    clear C' hk
    go_enter Try.func37, Try.ntmps37
    go_wp2_with fail
    refine (C.out _).mono ?_
    rintro e w1 ⟨rfl, hb1⟩
    have c0 : w1.cell? ⟨w.heap.size, 0, none⟩ = some (.string s) := by rw [hb1.cell (by simp)]; simp
    have c1 : w1.cell? ⟨w.heap.size, 1, none⟩ = some (.string p) := by rw [hb1.cell (by simp)]; simp
    have c2 : w1.cell? ⟨w.heap.size, 2, none⟩ = some (.string o) := by rw [hb1.cell (by simp)]; simp
    have hbel : Below w.heap.size w w1 := ((Below.refl _ _).alloc (Nat.le_refl _) _).trans (hb1.mono (by simp))
    clear hb1
    go_wp2_with fail
    refine (P.out _).mono ?_
    rintro e w2 ⟨rfl, hb2⟩
    go_wp2_with fail
    go_ret
    exact ⟨rfl, hbel.trans (hb2.mono hbel.size)⟩
set_option maxRecDepth 100000 in
theorem specTripleText (s p o : ByteArray) (hs : s.size ≤ 2097152) (hp : p.size ≤ 2097152) (ho : o.size ≤ 2097152) (w : World) :
    Calls Try.prog 39 #[.agg #[.string s, .string p, .string o]] w fun e w' => e = .returned (.string (bs (triText s.data.toList p.data.toList o.data.toList))) ∧ Below w.heap.size w w' := by
  have C' := specTripleOk s p o hs hp ho
  have HJ := Lib.hid (join_text s p o)
  unfold triText
  cases hk : triOk s.data.toList p.data.toList o.data.toList
  all_goals
    rw [hk] at C'
    have C := Lib.hid C'
    clear C' hk
    go_enter Try.func39, Try.ntmps39
    go_wp2_with fail
    refine (C.out _).mono ?_
    rintro e w1 ⟨rfl, hb1⟩
    have c0 : w1.cell? ⟨w.heap.size, 0, none⟩ = some (.string s) := by rw [hb1.cell (by simp)]; simp
    have c1 : w1.cell? ⟨w.heap.size, 1, none⟩ = some (.string p) := by rw [hb1.cell (by simp)]; simp
    have c2 : w1.cell? ⟨w.heap.size, 2, none⟩ = some (.string o) := by rw [hb1.cell (by simp)]; simp
    have hbel : Below w.heap.size w w1 := ((Below.refl _ _).alloc (Nat.le_refl _) _).trans (hb1.mono (by simp))
    clear hb1
    go_wp2_with fail
    go_ret
    exact ⟨by first | rfl | (rw [← HJ.out]; rfl), hbel⟩
end Go.Proofs.Ytinmjbgljgljkaa
