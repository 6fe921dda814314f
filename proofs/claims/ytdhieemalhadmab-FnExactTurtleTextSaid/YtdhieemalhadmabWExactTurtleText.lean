/- The walk of FnExactTurtleText. -/
import Derived.Test.YtdhieemalhadmabFrame
import Derived.Test.YtdhieemalhadmabExactP2
import Derived.Test.YtdhieemalhadmabExactS3
import Derived.Test.YtdhieemalhadmabTurt2
import Derived.Test.YtdhieemalhadmabTurt3
namespace Go.Proofs.Ytdhieemalhadmab
open Go.RowKit Go.WideShapes
namespace fnExactTurtleText
set_option maxRecDepth 100000 in
set_option maxHeartbeats 1600000 in
theorem walk (a : Option Addr) (len cap : Nat) (ls : List Pre2) (a' : Option Addr) (len' cap' : Nat) (ts : List Tri3) (w : World) (h : IsPres w a len cap ls) (h' : IsTris w a' len' cap' ts) :
    Calls Try.prog 6 #[.slice a len cap, .slice a' len' cap'] w fun e w' => e = .returned (.bool true) ∧ Below w.heap.size w w' := by
  have hlen : len ≤ 9223372036854775807 := by
    rcases h with ⟨_, rfl, _, _⟩ | ⟨_, _, h1, h2, _⟩
    · omega
    · unfold maxLen at h2; omega
  have hlen' : len' ≤ 9223372036854775807 := by
    rcases h' with ⟨_, rfl, _, _⟩ | ⟨_, _, h1, h2, _⟩
    · omega
    · unfold maxLen at h2; omega
  have hm := h.small
  have hl := h.len
  have hm' := h'.small
  have hl' := h'.len
  go_enter Try.func6, Try.ntmps6
  go_wp2_with fail
  refine (szPreS a len cap ls _ h 1048576 (by omega) (by omega) hlen).mono ?_
  rintro e w1 ⟨n, rfl, hn, hb1⟩
  have P1 := h.next hb1
  have T1 := h'.next hb1
  rcases hn with rfl | ⟨hn0, hn1, hsm⟩
  · go_wp2_with fail
    go_ret
    exact ⟨rfl, hb1⟩
  have hS : SmP ls := fun t ht => by have := hsm.2 t ht; omega
  have hl1 : len ≤ 1048576 := hsm.1
  have hn2 : ¬ n < 0 := by omega
  clear hsm h h'
  go_wp2_with fail
  refine (szTriS a' len' cap' ts _ T1 n hn0 hn1 hlen').mono ?_
  rintro e w2 ⟨m, rfl, hn, hb2⟩
  have P2 := P1.next hb2
  have T2 := T1.next hb2
  have B2 := hb1.trans (hb2.mono hb1.size)
  clear hb1 hb2 P1 T1
  rcases hn with rfl | ⟨hm0, hm1, hsm⟩
  · go_wp2_with fail
    go_ret
    exact ⟨rfl, B2⟩
  have hS' : SmT ts := fun t ht => by have := hsm.2 t ht; omega
  have hl1' : len' ≤ 1048576 := hsm.1
  have hm2 : ¬ m < 0 := by omega
  clear hsm
  go_wp2_with fail
  refine (toPreS a len cap ls _ P2 hl1).mono ?_
  rintro e w3 ⟨v, rfl, ho, hb3⟩
  obtain ⟨x3, y3, rfl, i3⟩ := ho.is hm
  rw [hl] at i3
  have P3 := P2.next hb3
  have T3 := T2.next hb3
  have B3 := B2.trans (hb3.mono B2.size)
  clear ho hb3 P2 T2 B2
  go_wp2_with fail
  refine (toTriS a' len' cap' ts _ T3 hl1').mono ?_
  rintro e w4 ⟨v, rfl, ho, hb4⟩
  obtain ⟨x4, y4, rfl, i4⟩ := ho.is hm'
  rw [hl'] at i4
  have P4 := P3.next hb4
  have T4 := T3.next hb4
  have i5 := i3.next hb4
  have B4 := B3.trans (hb4.mono B3.size)
  clear ho hb4 P3 T3 B3 i3
  go_wp2_with fail
  refine (specTurtleText x3 x4 len y3 len' y4 ls ts _ i5 i4 hS hS').mono ?_
  rintro e w5 ⟨rfl, hb5⟩
  have P5 := P4.next hb5
  have T5 := T4.next hb5
  have B5 := B4.trans (hb5.mono B4.size)
  clear hb5 P4 T4 B4 i5 i4
  go_wp2_with fail
  refine (toPreS a len cap ls _ P5 hl1).mono ?_
  rintro e w6 ⟨v, rfl, ho, hb6⟩
  obtain ⟨x6, y6, rfl, i6⟩ := ho.is hm
  rw [hl] at i6
  have P6 := P5.next hb6
  have T6 := T5.next hb6
  have B6 := B5.trans (hb6.mono B5.size)
  clear ho hb6 P5 T5 B5
  go_wp2_with fail
  refine (toTriS a' len' cap' ts _ T6 hl1').mono ?_
  rintro e w7 ⟨v, rfl, ho, hb7⟩
  obtain ⟨x7, y7, rfl, i7⟩ := ho.is hm'
  rw [hl'] at i7
  have P7 := P6.next hb7
  have T7 := T6.next hb7
  have j7 := i6.next hb7
  have B7 := B6.trans (hb7.mono B6.size)
  clear ho hb7 P6 T6 B6 i6
  go_wp2_with fail
  refine (implTurtleText x6 x7 len y6 len' y7 ls ts _ j7 i7 hS hS').mono ?_
  rintro e w8 ⟨rfl, hb8⟩
  have P8 := P7.next hb8
  have T8 := T7.next hb8
  have j8 := j7.next hb8
  have i8 := i7.next hb8
  have B8 := B7.trans (hb8.mono B7.size)
  clear hb8 P7 T7 B7 i7 j7
  generalize bs (turtleL ls ts) = q
  go_wp2_with fail
  refine (toPreS a len cap ls _ P8 hl1).mono ?_
  rintro e w9 ⟨v, rfl, ho, hb9⟩
  obtain ⟨x9, y9, rfl, i9⟩ := ho.is hm
  rw [hl] at i9
  have T9 := T8.next hb9
  have j9 := j8.next hb9
  have k9 := i8.next hb9
  have B9 := B8.trans (hb9.mono B8.size)
  clear ho hb9 P8 T8 B8 i8 j8
  go_wp2_with fail
  refine (eqPreS x6 x9 len y6 len y9 ls _ j9 i9 hl1).mono ?_
  rintro e w10 ⟨rfl, hb10⟩
  have T10 := T9.next hb10
  have k10 := k9.next hb10
  have B10 := B9.trans (hb10.mono B9.size)
  clear hb10 T9 B9 i9 j9 k9
  go_wp2_with fail
  refine (toTriS a' len' cap' ts _ T10 hl1').mono ?_
  rintro e w11 ⟨v, rfl, ho, hb11⟩
  obtain ⟨x11, y11, rfl, i11⟩ := ho.is hm'
  rw [hl'] at i11
  have k11 := k10.next hb11
  have B11 := B10.trans (hb11.mono B10.size)
  clear ho hb11 T10 B10 k10
  go_wp2_with fail
  refine (eqTriS x7 x11 len' y7 len' y11 ts _ k11 i11 hl1').mono ?_
  rintro e w12 ⟨rfl, hb12⟩
  have B12 := B11.trans (hb12.mono B11.size)
  clear hb12 B11 k11 i11
  go_wp2_with fail
  go_ret
  exact ⟨rfl, B12⟩
end fnExactTurtleText
end Go.Proofs.Ytdhieemalhadmab
