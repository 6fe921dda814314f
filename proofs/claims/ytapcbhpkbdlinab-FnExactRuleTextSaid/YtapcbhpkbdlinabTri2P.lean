/- A triple and its point. -/
import Derived.Test.YtapcbhpkbdlinabTri2
namespace Go.Proofs.Ytapcbhpkbdlinab
open Go.RowKit
set_option maxRecDepth 100000 in
theorem implPointed (s p o : ByteArray) (hs : s.size ≤ 2097152) (hp : p.size ≤ 2097152) (ho : o.size ≤ 2097152) (w : World) :
    Calls Try.prog 38 #[.agg #[.string s, .string p, .string o]] w fun e w' => e = .returned (.string (bs (s.data.toList ++ 32 :: (p.data.toList ++ 32 :: (o.data.toList ++ [32, 46]))))) ∧ Below w.heap.size w w' := by
  have HJ := Lib.hid (join_text s p o)
  go_enter Try.func38, Try.ntmps38
  go_wp2_with fail
  go_ret
  exact ⟨by rw [← HJ.out]; rfl, (Below.refl _ _).alloc (Nat.le_refl _) _⟩
end Go.Proofs.Ytapcbhpkbdlinab
