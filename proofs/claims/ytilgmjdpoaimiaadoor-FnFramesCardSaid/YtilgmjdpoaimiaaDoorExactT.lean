/- The contracts of the exact laws' own helpers on one triple. -/
import Derived.Test.YtilgmjdpoaimiaaDoorBox
namespace Go.Proofs.YtilgmjdpoaimiaaDoor
open Go.RowKit
def szT (s p o : Nat) (left : Int) : Int := if left - s < 0 then -1 else if left - s - p < 0 then -1 else if left - s - p - o < 0 then -1 else left - s - p - o
theorem szT_yes {s p o : Nat} {left : Int} (h : (s : Int) + p + o ≤ left) : szT s p o left = left - s - p - o := by
  unfold szT; rw [if_neg (by omega), if_neg (by omega), if_neg (by omega)]
theorem szT_no {s p o : Nat} {left : Int} (h : ¬ (s : Int) + p + o ≤ left) : szT s p o left = -1 := by
  unfold szT; split; · rfl
  split; · rfl
  rw [if_pos (by omega)]
end Go.Proofs.YtilgmjdpoaimiaaDoor
