/- The walk of FnExactDataOk. -/
import Derived.Test.YtkcbgppplgkkbaaFrame
import Derived.Test.YtkcbgppplgkkbaaDokS
import Derived.Test.YtkcbgppplgkkbaaDokI
import Derived.Test.YtkcbgppplgkkbaaExN
import Derived.Deep.RegionHeld3
namespace Go.Proofs.Ytkcbgppplgkkbaa
open Go.RowKit Go.WideShapes
namespace fnExactDataOk
set_option maxRecDepth 100000 in
set_option maxHeartbeats 6400000 in
theorem walk (a0 : Option Addr) (n0 c0 : Nat) (t0 : List NamV) (w : World) (h0 : IsNams w a0 n0 c0 t0) :
    Calls Try.prog 3 #[.slice a0 n0 c0] w fun e w' => e = .returned (.bool true) ∧ Below w.heap.size w w' := by
  have B0 := Lib.hid (Below.refl w.heap.size w)
  have H0 := Lib.hid h0
  have HL0 := Lib.hid h0.len
  have HM0 : Hid (SmAllN t0) := Lib.hid h0.small
  have hm0 := h0.maxl
  clear h0
  go_enter Try.func3, Try.ntmps3
  go_wp2_with fail
  refine (szNams a0 n0 c0 t0 _ (H0.out.next B0.out) 1048576 (by omega) (by omega) hm0).mono ?_
  rintro e w1 ⟨g0, rfl, hg, hb⟩
  have B1 := Lib.hid (B0.out.trans (hb.mono B0.out.size))
  clear B0
  clear hb
  rcases hg with rfl | ⟨e0, f0, ps0⟩
  · go_wp2_with fail
    go_ret
    exact ⟨rfl, B1.out⟩
  have S0 : Hid (SmN t0) := Lib.hid ps0
  have l0 : n0 + totN t0 ≤ 1048576 := by omega
  clear ps0 hm0
  have d0 : ¬ g0 < 0 := by omega
  have C1 := fun x0 y0 W hi => specDataOk x0 n0 y0 t0 W hi S0.out
  have C2 := fun x0 y0 W hi => implDataOk x0 n0 y0 t0 W hi S0.out
  generalize dataOk t0 = bb at C1 C2
  have HC1 := Lib.hid C1
  have HC2 := Lib.hid C2
  clear C1 C2
  clear e0 f0
  go_wp2_with fail
  refine (exToN a0 n0 c0 t0 _ (H0.out.next B1.out) l0 HL0.out).mono ?_
  rintro e w2 ⟨x0_S, y0_S, rfl, hh, hb⟩
  have B2 := Lib.hid (B1.out.trans (hb.mono B1.out.size))
  clear B1
  have Q0S2 := Lib.hid (hh)
  clear hb hh
  go_wp2_with fail
  refine (HC1.out x0_S y0_S _ (Q0S2.out.now.read HM0.out HL0.out)).mono ?_
  rintro e w3 ⟨rfl, hb⟩
  clear Q0S2
  have B3 := Lib.hid (B2.out.trans (hb.mono B2.out.size))
  clear B2
  clear hb
  go_wp2_with fail
  have LEw_X0 := Lib.hid B3.out.size
  refine (exToN a0 n0 c0 t0 _ (H0.out.next B3.out) l0 HL0.out).mono ?_
  rintro e w4 ⟨x0_x, y0_x, rfl, hh, hb⟩
  have B4 := Lib.hid (B3.out.trans (hb.mono B3.out.size))
  clear B3
  have X04 := Lib.hid (hh)
  clear hb hh
  go_wp2_with fail
  refine (HC2.out x0_x y0_x _ (X04.out.now.read HM0.out HL0.out)).mono ?_
  rintro e w5 ⟨rfl, hb⟩
  have B5 := Lib.hid (B4.out.trans (hb.mono B4.out.size))
  have X05 := Lib.hid (X04.out.next hb)
  clear B4 X04
  clear hb
  obtain ⟨bf, hbf⟩ : ∃ q : Bool, q = bb := ⟨_, rfl⟩
  have HBF := Lib.hid hbf
  clear hbf
  cases bb
  all_goals
    go_wp2_with fail
    refine (exToN a0 n0 c0 t0 _ (H0.out.next B5.out) l0 HL0.out).mono ?_
    rintro e w6 ⟨x0_e, y0_e, rfl, hh, hb⟩
    have B6 := Lib.hid (B5.out.trans (hb.mono B5.out.size))
    have X06 := Lib.hid (X05.out.next hb)
    clear B5 X05
    have E06 := Lib.hid (hh)
    clear hb hh
    go_wp2_with fail
    refine (eqNams x0_x x0_e n0 y0_x n0 y0_e t0 _ (X06.out.now.read HM0.out HL0.out) (E06.out.now.read HM0.out HL0.out) l0).mono ?_
    rintro e w7 ⟨rfl, hb⟩
    clear E06
    have B7 := Lib.hid (B6.out.trans (hb.mono B6.out.size))
    have X07 := Lib.hid (X06.out.next hb)
    clear B6 X06
    clear hb
    go_wp2_with fail
    go_ret
    exact ⟨rfl, B7.out⟩
end fnExactDataOk
end Go.Proofs.Ytkcbgppplgkkbaa
