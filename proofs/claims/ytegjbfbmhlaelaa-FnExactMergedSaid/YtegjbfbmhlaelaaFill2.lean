/- The contracts of what a row gives for a word, by search and by the specification's way. -/
import Derived.Test.YtegjbfbmhlaelaaFill
namespace Go.Proofs.Ytegjbfbmhlaelaa
open Go.RowKit Go.WideShapes
set_option maxRecDepth 100000 in
theorem implPlaceIn (a : Option Addr) (len cap : Nat) (ts : List Pre2) (x : ByteArray) (w : World) (h : IsPres w a len cap ts) (ha : Asc ts) (hlen : len ≤ 1048576) :
    Calls Try.prog 68 #[.slice a len cap, .string x] w (SearchPost ts x w) := by
  have C := Lib.hid (implSearch a len cap ts x w h ha hlen)
  clear h ha
  go_enter Try.func68, Try.ntmps68
  go_wp2_with fail
  refine C.out.mono ?_
  rintro e w1 ⟨lo, f, rfl, h1, h0, h2, h3, hb1⟩
  have J := Lib.hid (⟨h1, h0, h2, h3, hb1⟩ : lo ≤ ts.length ∧ posP x ts = lo ∧ (f = true → ∃ t, ts[lo]? = some t ∧ t.1 = x) ∧ (f = false → ∀ t ∈ ts, t.1 ≠ x) ∧ Below w.heap.size w w1)
  clear h1 h0 h2 h3 hb1
  go_wp2_with fail
  go_ret2
  exact ⟨lo, f, rfl, J.out⟩
end Go.Proofs.Ytegjbfbmhlaelaa
