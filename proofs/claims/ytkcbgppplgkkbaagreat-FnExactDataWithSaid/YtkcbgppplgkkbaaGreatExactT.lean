/- The contracts of the exact laws' own helpers on one triple. -/
import Derived.Test.YtkcbgppplgkkbaaGreatBox
namespace Go.Proofs.YtkcbgppplgkkbaaGreat
open Go.RowKit
def szT (s p o : Nat) (left : Int) : Int := if left - s < 0 then -1 else if left - s - p < 0 then -1 else if left - s - p - o < 0 then -1 else left - s - p - o
theorem szT_yes {s p o : Nat} {left : Int} (h : (s : Int) + p + o ≤ left) : szT s p o left = left - s - p - o := by
  unfold szT; rw [if_neg (by omega), if_neg (by omega), if_neg (by omega)]
theorem szT_no {s p o : Nat} {left : Int} (h : ¬ (s : Int) + p + o ≤ left) : szT s p o left = -1 := by
  unfold szT; split; · rfl
  split; · rfl
  rw [if_pos (by omega)]
theorem toTri (s p o : ByteArray) (w : World) :
    Calls Tryz.prog 9 #[.agg #[.string s, .string p, .string o]] w fun e w' => e = .returned (.agg #[.string s, .string p, .string o]) ∧ Below w.heap.size w w' := by
  go_enter Tryz.func9, Tryz.ntmps9
  go_wp2
  refine bodyPost_ret (v := .agg #[.string s, .string p, .string o]) (by simp [results, Tryz.results9, go_sem]) rfl ⟨rfl, (((Below.refl _ _).alloc (Nat.le_refl _) _).alloc (by simp) _).alloc (by simp; omega) _⟩
theorem szTri (s p o : ByteArray) (left : Int) (h0 : 0 ≤ left) (h1 : left ≤ 1048576) (hs : s.size ≤ 9223372036854775807) (hp : p.size ≤ 9223372036854775807) (ho : o.size ≤ 9223372036854775807) (w : World) :
    Calls Tryz.prog 6 #[.agg #[.string s, .string p, .string o], .int .i64 left] w fun e w' => e = .returned (.int .i64 (szT s.size p.size o.size left)) ∧ Below w.heap.size w w' := by
  unfold szT
  by_cases g1 : left - s.size < 0
  · rw [if_pos g1]
    go_enter Tryz.func6, Tryz.ntmps6
    go_wp2
    go_ret
    exact ⟨rfl, (Below.refl _ _).alloc (Nat.le_refl _) _⟩
  rw [if_neg g1]
  by_cases g2 : left - s.size - p.size < 0
  · rw [if_pos g2]
    go_enter Tryz.func6, Tryz.ntmps6
    go_wp2
    go_ret
    exact ⟨rfl, (Below.refl _ _).alloc (Nat.le_refl _) _⟩
  rw [if_neg g2]
  by_cases g3 : left - s.size - p.size - o.size < 0
  · rw [if_pos g3]
    go_enter Tryz.func6, Tryz.ntmps6
    go_wp2
    go_ret
    exact ⟨rfl, (Below.refl _ _).alloc (Nat.le_refl _) _⟩
  · rw [if_neg g3]
    go_enter Tryz.func6, Tryz.ntmps6
    go_wp2
    go_ret
    exact ⟨rfl, (Below.refl _ _).alloc (Nat.le_refl _) _⟩
theorem eqTri (s p o : ByteArray) (w : World) :
    Calls Tryz.prog 62 #[.agg #[.string s, .string p, .string o], .agg #[.string s, .string p, .string o]] w fun e w' => e = .returned (.bool true) ∧ Below w.heap.size w w' := by
  go_enter Tryz.func62, Tryz.ntmps62
  go_wp2
  go_ret
  exact ⟨rfl, ((Below.refl _ _).alloc (Nat.le_refl _) _).alloc (by simp) _⟩
end Go.Proofs.YtkcbgppplgkkbaaGreat
