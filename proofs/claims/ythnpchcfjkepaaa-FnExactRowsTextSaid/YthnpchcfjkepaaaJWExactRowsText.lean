/- The walk of FnExactRowsText. -/
import Derived.Test.YthnpchcfjkepaaaG00
import Derived.Test.YthnpchcfjkepaaaG32
import Derived.Test.YthnpchcfjkepaaaG33
namespace Go.Proofs.Ythnpchcfjkepaaa
open Go.RowKit Go.WideShapes
namespace fnExactRowsText
set_option maxRecDepth 100000 in
set_option maxHeartbeats 3200000 in
theorem walk (a : Option Addr) (la ca : Nat) (rs : List RowV) (w : World) (h : IsRows w a la ca rs) :
    Calls Try.prog 6 #[.slice a la ca] w fun e w' => e = .returned (.bool true) ∧ Below w.heap.size w w' := by
  have hla := h.maxl
  have HM := Lib.hid h.small
  have HL := Lib.hid h.len
  have R0 := Lib.hid h
  have B0 := Lib.hid (Below.refl w.heap.size w)
  clear h
  go_enter Try.func6, Try.ntmps6
  go_wp2_with fail
  refine (szRows a la ca rs _ R0.out 1048576 (by omega) (by omega) hla).mono ?_
  rintro e w1 ⟨n, rfl, hn, hb⟩
  have B1 := Lib.hid (B0.out.trans (hb.mono B0.out.size))
  have R1 := Lib.hid (R0.out.next hb)
  clear hb B0 R0
  rcases hn with rfl | ⟨hn0, hn1, hsm⟩
  · go_wp2_with fail
    go_ret
    exact ⟨rfl, B1.out⟩
  have hS : SmR rs := fun r hr t ht => by have := hsm.2 r hr t ht; omega
  have hl1 : la + totR rs ≤ 1048576 := hsm.1
  have hn2 : ¬ n < 0 := by omega
  have C1 := fun x y w hi => specRowsText x la y rs w hi hS (by omega)
  have C2 := fun x y w hi => implRowsText x la y rs w hi hS (by omega)
  generalize bs (rowsTx rs) = bb at C1 C2
  have HC1 := Lib.hid C1
  have HC2 := Lib.hid C2
  clear C1 C2 hsm hS
  go_wp2_with fail
  refine (toRows a la ca rs _ R1.out hl1).mono ?_
  rintro e w2 ⟨v, rfl, ho, hb⟩
  have B2 := Lib.hid (B1.out.trans (hb.mono B1.out.size))
  have R2 := Lib.hid (R1.out.next hb)
  clear hb B1 R1
  obtain ⟨xS, yS, rfl, hi⟩ := ho.is HM.out
  rw [HL.out] at hi ⊢
  clear ho
  have S2 := Lib.hid hi
  clear hi
  go_wp2_with fail
  refine (HC1.out xS yS _ S2.out).mono ?_
  rintro e w3 ⟨rfl, hb⟩
  have B3 := Lib.hid (B2.out.trans (hb.mono B2.out.size))
  have R3 := Lib.hid (R2.out.next hb)
  have S3 := Lib.hid (S2.out.next hb)
  clear hb B2 R2 S2
  clear S3
  go_wp2_with fail
  refine (toRows a la ca rs _ R3.out hl1).mono ?_
  rintro e w4 ⟨v, rfl, ho, hb⟩
  have B4 := Lib.hid (B3.out.trans (hb.mono B3.out.size))
  have R4 := Lib.hid (R3.out.next hb)
  clear hb B3 R3
  obtain ⟨xX, yX, rfl, hi⟩ := ho.is HM.out
  rw [HL.out] at hi ⊢
  clear ho
  have X4 := Lib.hid hi
  clear hi
  go_wp2_with fail
  refine (HC2.out xX yX _ X4.out).mono ?_
  rintro e w5 ⟨rfl, hb⟩
  have B5 := Lib.hid (B4.out.trans (hb.mono B4.out.size))
  have R5 := Lib.hid (R4.out.next hb)
  have X5 := Lib.hid (X4.out.next hb)
  clear hb B4 R4 X4
  go_wp2_with fail
  refine (toRows a la ca rs _ R5.out hl1).mono ?_
  rintro e w6 ⟨v, rfl, ho, hb⟩
  have B6 := Lib.hid (B5.out.trans (hb.mono B5.out.size))
  have R6 := Lib.hid (R5.out.next hb)
  have X6 := Lib.hid (X5.out.next hb)
  clear hb B5 R5 X5
  obtain ⟨xE, yE, rfl, hi⟩ := ho.is HM.out
  rw [HL.out] at hi ⊢
  clear ho
  have E6 := Lib.hid hi
  clear hi
  go_wp2_with fail
  refine (eqRows xX xE la yX la yE rs _ X6.out E6.out hl1).mono ?_
  rintro e w7 ⟨rfl, hb⟩
  have B7 := Lib.hid (B6.out.trans (hb.mono B6.out.size))
  have R7 := Lib.hid (R6.out.next hb)
  have X7 := Lib.hid (X6.out.next hb)
  have E7 := Lib.hid (E6.out.next hb)
  clear hb B6 R6 X6 E6
  go_wp2_with fail
  go_ret
  exact ⟨rfl, B7.out⟩
end fnExactRowsText
end Go.Proofs.Ythnpchcfjkepaaa
