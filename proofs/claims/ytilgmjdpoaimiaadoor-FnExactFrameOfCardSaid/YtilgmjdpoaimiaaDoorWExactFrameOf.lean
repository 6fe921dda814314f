/- The walk of FnExactFrameOf. -/
import Derived.Test.YtilgmjdpoaimiaaDoorFrame
import Derived.Test.YtilgmjdpoaimiaaDoorFrmI
import Derived.Test.YtilgmjdpoaimiaaDoorFrmS
namespace Go.Proofs.YtilgmjdpoaimiaaDoor
open Go.RowKit Go.WideShapes
namespace fnExactFrameOf
set_option maxHeartbeats 400000 in
theorem walk (s : ByteArray) (w : World) (hs : s.size ≤ maxLen) (ht : CrcT w) :
    Calls Tryd.prog 4 #[.string s] w fun e w' => e = .returned (.bool true) ∧ Below w.heap.size w w' := by
  unfold maxLen at hs
  by_cases hb : (1048576 : Int) < s.size
  · go_enter Tryd.func4, Tryd.ntmps4
    go_wp2_with fail
    go_ret
    exact ⟨rfl, Below.refl _ _⟩
  · have h0 := ht.1
    have HT := Lib.hid ht
    clear ht
    go_enter Tryd.func4, Tryd.ntmps4
    go_wp2_with fail
    refine (specFrameOf s _ (by omega)).mono ?_
    rintro e w1 ⟨rfl, hb1⟩
    go_wp2_with fail
    refine (implFrameOf s _ (by omega) (HT.out.next hb1 h0 (Nat.le_refl _))).mono ?_
    rintro e w2 ⟨rfl, hb2⟩
    go_wp2_with fail
    go_ret
    exact ⟨rfl, hb1.trans (hb2.mono hb1.size)⟩
end fnExactFrameOf
end Go.Proofs.YtilgmjdpoaimiaaDoor
