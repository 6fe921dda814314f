/- WithI, the rest. -/
import Derived.Test.YtkcbgppplgkkbaaWithI
namespace Go.Proofs.Ytkcbgppplgkkbaa
open Go.RowKit Go.WideShapes Go.Maps
set_option maxRecDepth 100000 in
set_option maxHeartbeats 800000 in
theorem implGraphOf (b m : Nat) (ts : List Tri3) (w : World) (h : OwnSet w b m ts) (hm : m ≤ 1001) :
    Calls Try.prog 33 #[.map (some b)] w (ResPost (ofSet ts) w) := by
  have hle := h.size_le
  have C := Lib.hid (implInOrder b m ts w h (by omega))
  have H := Lib.hid h
  clear h
  by_cases g : (80 : Int) < (ts.length : Int)
  · have HR : Hid (ofSet ts = none) := Lib.hid (by unfold ofSet; rw [if_neg (by omega)])
    go_enter Try.func33, Try.ntmps33
    go_wp2_with (at_len; refine wpList_count _ rfl _ rfl b m ts rfl H.out ?_)
    go_wp2_with fail
    go_ret2
    rw [HR.out]
    exact ResPost.no (Below.refl _ _)
  · have HR : Hid (ofSet ts = some (sortT ts)) := Lib.hid (by unfold ofSet; rw [if_pos (by omega)])
    go_enter Try.func33, Try.ntmps33
    go_wp2_with (at_len; refine wpList_count _ rfl _ rfl b m ts rfl H.out ?_)
    go_wp2_with fail
    refine C.out.mono ?_
    rintro e w1 ⟨v, rfl, ho, hb⟩
    go_wp2_with fail
    go_ret2
    rw [HR.out]
    exact ResPost.yes ho hb
open Go.RowKit Go.WideShapes Go.Maps
theorem zeroB (w : World) : (zeroValue 4).run Try.prog w = .ok (.bool false) w := by kernel_rfl
theorem allT_two (a b : Option Addr) (la ca lb cb : Nat) (ts us : List Tri3) : allT [(a, la, ca, ts), (b, lb, cb, us)] = ts ++ us := by simp [allT]
end Go.Proofs.Ytkcbgppplgkkbaa
