/- Prefixes: the contracts of the small functions; which names a long one makes. -/
import Derived.Test.YtdhieemalhadmabRise
import Derived.Test.YtdhieemalhadmabSpecKO
import Derived.Test.YtdhieemalhadmabBox
namespace Go.Proofs.Ytdhieemalhadmab
open Go.RowKit
/-- Block g holds just these two cells. -/
def Box2 (w : World) (g : Nat) (x y : Value) (T : TypeId) : Prop := w.heap[g]? = some (.cells #[x, y] T (0, 0))
theorem Box2.new (w : World) (x y : Value) (T : TypeId) : Box2 (w.alloc (.cells #[x, y] T)) w.heap.size x y T := heap_alloc_new w _
theorem Box2.drew {w : World} {g : Nat} {x y : Value} {T : TypeId} (h : Box2 w g x y T) : Box2 w.drew g x y T := h
theorem Box2.cells {w : World} {g : Nat} {x y : Value} {T : TypeId} (h : Box2 w g x y T) : w.cell? ⟨g, 0, none⟩ = some x ∧ w.cell? ⟨g, 1, none⟩ = some y := by
  unfold Box2 at h
  refine ⟨?_, ?_⟩ <;> simp [World.cell?, h]
theorem implIsPrefixName (s : ByteArray) (hs : s.size ≤ 2097152) (w : World) :
    Calls Try.prog 59 #[.string s] w fun e w' => e = .returned (.bool (made s.data.toList 4 labB)) ∧ w = w' := by
  have C := Lib.hid (implMade 57 labB (Lib.hid implLabel) (enters_of Try.func57 (by kernel_rfl) rfl) s 4 hs)
  go_enter Try.func59, Try.ntmps59
  go_wp2_with fail
  refine (C.out _).mono ?_
  rintro e w' ⟨rfl, rfl⟩
  go_wp2_with fail
  go_ret
  exact ⟨rfl, rfl⟩
theorem named_text (s : ByteArray) : { data := #[60] } ++ s ++ { data := #[62] } = bs (60 :: (s.data.toList ++ [62])) := by
  apply bs_eq
  simp
theorem implNamed (s : ByteArray) (hs : s.size ≤ 2097152) (w : World) :
    Calls Try.prog 60 #[.string s] w fun e w' => e = .returned (.string (bs (60 :: (s.data.toList ++ [62])))) ∧ w = w' := by
  have HJ := Lib.hid (named_text s)
  go_enter Try.func60, Try.ntmps60
  go_wp2_with fail
  go_ret
  exact ⟨by rw [← HJ.out]; rfl, rfl⟩
theorem kind_named (l : List UInt8) : kindL (60 :: (l ++ [62])) = if made l 12 nameB then 1 else 0 := by
  rw [kindL_cons]; simp
end Go.Proofs.Ytdhieemalhadmab
