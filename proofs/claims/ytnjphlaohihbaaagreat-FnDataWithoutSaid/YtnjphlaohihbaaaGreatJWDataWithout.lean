/- The walk of FnDataWithout. -/
import Derived.Test.YtnjphlaohihbaaaGreatG00
import Derived.Test.YtnjphlaohihbaaaGreatG28
namespace Go.Proofs.YtnjphlaohihbaaaGreat
open Go.RowKit Go.WideShapes
namespace fnDataWithout
set_option maxRecDepth 100000 in
set_option maxHeartbeats 6400000 in
theorem walk (a : Option Addr) (len cap : Nat) (zs : List Int) (w : World) (hrow : Frame.IsRow .u8 w a len cap zs) :
    Calls Tryz.prog 4 #[.slice a len cap] w fun e w' => e = .returned (.bool true) ∧ Below w.heap.size w w' := by
  have hlen : len ≤ 9223372036854775807 := by
    rcases hrow with ⟨_, rfl, _⟩ | ⟨y, _, h1, h2, _⟩
    · omega
    · unfold maxLen at h2; omega
  by_cases hbig : (1048576 : Int) < len
  · go_enter Tryz.func4, Tryz.ntmps4
    go_wp2_with go_in
    go_ret
    exact ⟨rfl, Below.refl _ _⟩
  go_enter Tryz.func4, Tryz.ntmps4
  go_wp2_with (go_at_call 7; go_in)
  refine (drawDataWithout _ _ _ _ _ hrow).mono ?_
  rintro e w0 ⟨va, ts, q, s, p, o, rfl, ha, hq, hs, hp, ho, g0⟩
  have hb0 := below_of_grown g0
  have B1 := Lib.hid (hb0.alloc hb0.size (.cells #[.string s, .string p, .string o] 26))
  have X1 := Lib.hid (Box.new w0 (.string s) (.string p) (.string o) 26)
  have A1 := Lib.hid (ha.next ((Below.refl w0.heap.size w0).alloc (Nat.le_refl _) (.cells #[.string s, .string p, .string o] 26)))
  have HROW := Lib.hid hrow
  have SM : Hid (∀ (x y : Value) (l : List NamV) (w : World), GotN w x l → GotN w y l → Calls Tryz.prog 11 #[x, y] w fun e w' => e = .returned (.bool true) ∧ Below w.heap.size w w') := Lib.hid (fun _ _ _ _ h k => sameDataN h k)
  have ST : Hid (∀ (x y : Value) (l : List Tri3) (w : World), GotT w x l → GotT w y l → Calls Tryz.prog 14 #[x, y] w fun e w' => e = .returned (.bool true) ∧ Below w.heap.size w w') := Lib.hid (fun x y l w h k => by have := sameT h k; rwa [decide_eq_true rfl] at this)
  obtain ⟨r, hr⟩ : ∃ r, dataWithout ts q (s, p, o) = r := ⟨_, rfl⟩
  have I1 : ∀ x w, GotN w x ts → Calls Tryz.prog 20 #[x, .string q, .agg #[.string s, .string p, .string o]] w (GotResN r w) := fun x w h => by rw [← hr]; exact implDataWithoutN h hq hs hp ho
  have I2 : ∀ x w, GotN w x ts → Calls Tryz.prog 21 #[x, .string q, .agg #[.string s, .string p, .string o]] w (GotResN r w) := fun x w h => by rw [← hr]; exact specDataWithoutN h hq hs hp ho
  have I3 : ∀ P, r = some P → ∀ x w, GotN w x P → Calls Tryz.prog 9 #[x, .string q, .agg #[.string s, .string p, .string o]] w (fun e w' => ∃ z, e = .returned (.tuple #[z, .bool true]) ∧ GotN w' z ts ∧ Below w.heap.size w w') := fun P e x w h => by
    subst e
    have := implDataWithN h hq hs hp ho
    rw [(dataWithout_back hr).2.2] at this
    exact this
  have I4 : ∀ P, r = some P → ∀ x w, GotN w x P → Calls Tryz.prog 12 #[x] w fun e w' => e = .returned (.bool true) ∧ Below w.heap.size w w' := fun P e x w h => by
    subst e
    have := dataOkN h
    rw [(dataWithout_back hr).1] at this
    exact this
  have I5 : ∀ P, r = some P → ∀ x w, GotT w x (dataGraph P q) → Calls Tryz.prog 17 #[x, .agg #[.string s, .string p, .string o]] w fun e w' => e = .returned (.bool false) ∧ Below w.heap.size w w' := fun P e x w h => by
    subst e
    have := hasT h s p o
    rw [decide_eq_false (dataWithout_back hr).2.1] at this
    exact this
  have HQ := Lib.hid hq
  clear hrow hbig hlen hb0 g0 ha hr hq hs hp ho
  cases r with
  | none =>
    change ∀ x w, GotN w x ts → Calls Tryz.prog 20 #[x, .string q, .agg #[.string s, .string p, .string o]] w (fun e w' => ∃ z, e = .returned (.tuple #[z, .bool false]) ∧ GotN w' z [] ∧ Below w.heap.size w w') at I1
    change ∀ x w, GotN w x ts → Calls Tryz.prog 21 #[x, .string q, .agg #[.string s, .string p, .string o]] w (fun e w' => ∃ z, e = .returned (.tuple #[z, .bool false]) ∧ GotN w' z [] ∧ Below w.heap.size w w') at I2
    have J1 := Lib.hid I1
    have J2 := Lib.hid I2
    clear I1 I2 I3 I4 I5
    obtain ⟨xc0, xc1, xc2⟩ := X1.out.cells
    go_wp2_with fail
    refine (J1.out _ _ A1.out).mono ?_
    rintro e w2 ⟨vu, rfl, hu, hb⟩
    clear xc0 xc1 xc2
    have B2 := Lib.hid (B1.out.trans (hb.mono B1.out.size))
    have X2 := Lib.hid (X1.out.next hb)
    have A2 := Lib.hid (A1.out.next hb)
    clear hb B1 X1 A1
    have U2 := Lib.hid hu
    clear hu
    obtain ⟨xc0, xc1, xc2⟩ := X2.out.cells
    go_wp2_with fail
    refine (J2.out _ _ A2.out).mono ?_
    rintro e w3 ⟨vw, rfl, hw, hb⟩
    clear xc0 xc1 xc2
    have B3 := Lib.hid (B2.out.trans (hb.mono B2.out.size))
    have X3 := Lib.hid (X2.out.next hb)
    have A3 := Lib.hid (A2.out.next hb)
    have U3 := Lib.hid (U2.out.next hb)
    clear hb B2 X2 A2 U2
    have V3 := Lib.hid hw
    clear hw
    go_wp2_with fail
    refine (drawDataGraph _ _ _ _ _ (isRow_grown HROW.out (grown_of_below B3.out))).mono ?_
    rintro e w4 ⟨vd, ds, dn, rfl, hd, hn, gg⟩
    have hb := below_of_grown gg
    clear gg
    have B4 := Lib.hid (B3.out.trans (hb.mono B3.out.size))
    have X4 := Lib.hid (X3.out.next hb)
    have A4 := Lib.hid (A3.out.next hb)
    have U4 := Lib.hid (U3.out.next hb)
    have V4 := Lib.hid (V3.out.next hb)
    clear hb B3 X3 A3 U3 V3
    have D4 := Lib.hid hd
    clear hd
    have HN := Lib.hid hn
    clear hn
    go_wp2_with fail
    refine (SM.out _ _ _ _ U4.out V4.out).mono ?_
    rintro e w5 ⟨rfl, hb⟩
    have B5 := Lib.hid (B4.out.trans (hb.mono B4.out.size))
    have X5 := Lib.hid (X4.out.next hb)
    have A5 := Lib.hid (A4.out.next hb)
    have U5 := Lib.hid (U4.out.next hb)
    have V5 := Lib.hid (V4.out.next hb)
    have D5 := Lib.hid (D4.out.next hb)
    clear hb B4 X4 A4 U4 V4 D4
    go_wp2_with fail
    refine (implGraphN D5.out HN.out).mono ?_
    rintro e w6 ⟨vp, rfl, hp, hb⟩
    have B6 := Lib.hid (B5.out.trans (hb.mono B5.out.size))
    have X6 := Lib.hid (X5.out.next hb)
    have A6 := Lib.hid (A5.out.next hb)
    have U6 := Lib.hid (U5.out.next hb)
    have V6 := Lib.hid (V5.out.next hb)
    have D6 := Lib.hid (D5.out.next hb)
    clear hb B5 X5 A5 U5 V5 D5
    have P6 := Lib.hid hp
    clear hp
    go_wp2_with fail
    refine (specGraphN D6.out).mono ?_
    rintro e w7 ⟨vq, rfl, hq, hb⟩
    have B7 := Lib.hid (B6.out.trans (hb.mono B6.out.size))
    have X7 := Lib.hid (X6.out.next hb)
    have A7 := Lib.hid (A6.out.next hb)
    have U7 := Lib.hid (U6.out.next hb)
    have V7 := Lib.hid (V6.out.next hb)
    have D7 := Lib.hid (D6.out.next hb)
    have P7 := Lib.hid (P6.out.next hb)
    clear hb B6 X6 A6 U6 V6 D6 P6
    have Q7 := Lib.hid hq
    clear hq
    go_wp2_with fail
    refine (ST.out _ _ _ _ P7.out Q7.out).mono ?_
    rintro e w8 ⟨rfl, hb⟩
    have B8 := Lib.hid (B7.out.trans (hb.mono B7.out.size))
    have X8 := Lib.hid (X7.out.next hb)
    have A8 := Lib.hid (A7.out.next hb)
    have U8 := Lib.hid (U7.out.next hb)
    have V8 := Lib.hid (V7.out.next hb)
    have D8 := Lib.hid (D7.out.next hb)
    have P8 := Lib.hid (P7.out.next hb)
    have Q8 := Lib.hid (Q7.out.next hb)
    clear hb B7 X7 A7 U7 V7 D7 P7 Q7
    clear P8
    clear Q8
    go_wp2_with fail
    refine (SM.out _ _ _ _ U8.out V8.out).mono ?_
    rintro e w9 ⟨rfl, hb⟩
    have B9 := Lib.hid (B8.out.trans (hb.mono B8.out.size))
    have X9 := Lib.hid (X8.out.next hb)
    have A9 := Lib.hid (A8.out.next hb)
    have U9 := Lib.hid (U8.out.next hb)
    have V9 := Lib.hid (V8.out.next hb)
    have D9 := Lib.hid (D8.out.next hb)
    clear hb B8 X8 A8 U8 V8 D8
    go_wp2_with fail
    refine (implGraphN D9.out HN.out).mono ?_
    rintro e w10 ⟨vp, rfl, hp, hb⟩
    have B10 := Lib.hid (B9.out.trans (hb.mono B9.out.size))
    have X10 := Lib.hid (X9.out.next hb)
    have A10 := Lib.hid (A9.out.next hb)
    have U10 := Lib.hid (U9.out.next hb)
    have V10 := Lib.hid (V9.out.next hb)
    have D10 := Lib.hid (D9.out.next hb)
    clear hb B9 X9 A9 U9 V9 D9
    have P10 := Lib.hid hp
    clear hp
    go_wp2_with fail
    refine (specGraphN D10.out).mono ?_
    rintro e w11 ⟨vq, rfl, hq, hb⟩
    have B11 := Lib.hid (B10.out.trans (hb.mono B10.out.size))
    have X11 := Lib.hid (X10.out.next hb)
    have A11 := Lib.hid (A10.out.next hb)
    have U11 := Lib.hid (U10.out.next hb)
    have V11 := Lib.hid (V10.out.next hb)
    have D11 := Lib.hid (D10.out.next hb)
    have P11 := Lib.hid (P10.out.next hb)
    clear hb B10 X10 A10 U10 V10 D10 P10
    have Q11 := Lib.hid hq
    clear hq
    go_wp2_with fail
    refine (ST.out _ _ _ _ P11.out Q11.out).mono ?_
    rintro e w12 ⟨rfl, hb⟩
    have B12 := Lib.hid (B11.out.trans (hb.mono B11.out.size))
    have X12 := Lib.hid (X11.out.next hb)
    have A12 := Lib.hid (A11.out.next hb)
    have U12 := Lib.hid (U11.out.next hb)
    have V12 := Lib.hid (V11.out.next hb)
    have D12 := Lib.hid (D11.out.next hb)
    have P12 := Lib.hid (P11.out.next hb)
    have Q12 := Lib.hid (Q11.out.next hb)
    clear hb B11 X11 A11 U11 V11 D11 P11 Q11
    clear P12
    clear Q12
    go_wp2_with fail
    go_ret
    exact ⟨rfl, B12.out⟩
  | some P =>
    change ∀ x w, GotN w x ts → Calls Tryz.prog 20 #[x, .string q, .agg #[.string s, .string p, .string o]] w (fun e w' => ∃ z, e = .returned (.tuple #[z, .bool true]) ∧ GotN w' z P ∧ Below w.heap.size w w') at I1
    change ∀ x w, GotN w x ts → Calls Tryz.prog 21 #[x, .string q, .agg #[.string s, .string p, .string o]] w (fun e w' => ∃ z, e = .returned (.tuple #[z, .bool true]) ∧ GotN w' z P ∧ Below w.heap.size w w') at I2
    have J3 := Lib.hid (I3 P rfl)
    have J4 := Lib.hid (I4 P rfl)
    have J5 := Lib.hid (I5 P rfl)
    have J1 := Lib.hid I1
    have J2 := Lib.hid I2
    clear I1 I2 I3 I4 I5
    obtain ⟨xc0, xc1, xc2⟩ := X1.out.cells
    go_wp2_with fail
    refine (J1.out _ _ A1.out).mono ?_
    rintro e w2 ⟨vu, rfl, hu, hb⟩
    clear xc0 xc1 xc2
    have B2 := Lib.hid (B1.out.trans (hb.mono B1.out.size))
    have X2 := Lib.hid (X1.out.next hb)
    have A2 := Lib.hid (A1.out.next hb)
    clear hb B1 X1 A1
    have U2 := Lib.hid hu
    clear hu
    obtain ⟨xc0, xc1, xc2⟩ := X2.out.cells
    go_wp2_with fail
    refine (J2.out _ _ A2.out).mono ?_
    rintro e w3 ⟨vw, rfl, hw, hb⟩
    clear xc0 xc1 xc2
    have B3 := Lib.hid (B2.out.trans (hb.mono B2.out.size))
    have X3 := Lib.hid (X2.out.next hb)
    have A3 := Lib.hid (A2.out.next hb)
    have U3 := Lib.hid (U2.out.next hb)
    clear hb B2 X2 A2 U2
    have V3 := Lib.hid hw
    clear hw
    go_wp2_with fail
    refine (drawDataGraph _ _ _ _ _ (isRow_grown HROW.out (grown_of_below B3.out))).mono ?_
    rintro e w4 ⟨vd, ds, dn, rfl, hd, hn, gg⟩
    have hb := below_of_grown gg
    clear gg
    have B4 := Lib.hid (B3.out.trans (hb.mono B3.out.size))
    have X4 := Lib.hid (X3.out.next hb)
    have A4 := Lib.hid (A3.out.next hb)
    have U4 := Lib.hid (U3.out.next hb)
    have V4 := Lib.hid (V3.out.next hb)
    clear hb B3 X3 A3 U3 V3
    have D4 := Lib.hid hd
    clear hd
    have HN := Lib.hid hn
    clear hn
    go_wp2_with fail
    refine (SM.out _ _ _ _ U4.out V4.out).mono ?_
    rintro e w5 ⟨rfl, hb⟩
    have B5 := Lib.hid (B4.out.trans (hb.mono B4.out.size))
    have X5 := Lib.hid (X4.out.next hb)
    have A5 := Lib.hid (A4.out.next hb)
    have U5 := Lib.hid (U4.out.next hb)
    have V5 := Lib.hid (V4.out.next hb)
    have D5 := Lib.hid (D4.out.next hb)
    clear hb B4 X4 A4 U4 V4 D4
    go_wp2_with fail
    refine (implGraphN D5.out HN.out).mono ?_
    rintro e w6 ⟨vp, rfl, hp, hb⟩
    have B6 := Lib.hid (B5.out.trans (hb.mono B5.out.size))
    have X6 := Lib.hid (X5.out.next hb)
    have A6 := Lib.hid (A5.out.next hb)
    have U6 := Lib.hid (U5.out.next hb)
    have V6 := Lib.hid (V5.out.next hb)
    have D6 := Lib.hid (D5.out.next hb)
    clear hb B5 X5 A5 U5 V5 D5
    have P6 := Lib.hid hp
    clear hp
    go_wp2_with fail
    refine (specGraphN D6.out).mono ?_
    rintro e w7 ⟨vq, rfl, hq, hb⟩
    have B7 := Lib.hid (B6.out.trans (hb.mono B6.out.size))
    have X7 := Lib.hid (X6.out.next hb)
    have A7 := Lib.hid (A6.out.next hb)
    have U7 := Lib.hid (U6.out.next hb)
    have V7 := Lib.hid (V6.out.next hb)
    have D7 := Lib.hid (D6.out.next hb)
    have P7 := Lib.hid (P6.out.next hb)
    clear hb B6 X6 A6 U6 V6 D6 P6
    have Q7 := Lib.hid hq
    clear hq
    go_wp2_with fail
    refine (ST.out _ _ _ _ P7.out Q7.out).mono ?_
    rintro e w8 ⟨rfl, hb⟩
    have B8 := Lib.hid (B7.out.trans (hb.mono B7.out.size))
    have X8 := Lib.hid (X7.out.next hb)
    have A8 := Lib.hid (A7.out.next hb)
    have U8 := Lib.hid (U7.out.next hb)
    have V8 := Lib.hid (V7.out.next hb)
    have D8 := Lib.hid (D7.out.next hb)
    have P8 := Lib.hid (P7.out.next hb)
    have Q8 := Lib.hid (Q7.out.next hb)
    clear hb B7 X7 A7 U7 V7 D7 P7 Q7
    clear P8
    clear Q8
    obtain ⟨xc0, xc1, xc2⟩ := X8.out.cells
    go_wp2_with fail
    refine (J3.out _ _ U8.out).mono ?_
    rintro e w9 ⟨vk, rfl, hk, hb⟩
    clear xc0 xc1 xc2
    have B9 := Lib.hid (B8.out.trans (hb.mono B8.out.size))
    have X9 := Lib.hid (X8.out.next hb)
    have A9 := Lib.hid (A8.out.next hb)
    have U9 := Lib.hid (U8.out.next hb)
    have V9 := Lib.hid (V8.out.next hb)
    have D9 := Lib.hid (D8.out.next hb)
    clear hb B8 X8 A8 U8 V8 D8
    have K9 := Lib.hid hk
    clear hk
    obtain ⟨xc0, xc1, xc2⟩ := X9.out.cells
    go_wp2_with fail
    clear xc0 xc1 xc2
    have hb : Below w9.heap.size w9 w9.drew := (Below.refl _ _).drew
    have B10 := Lib.hid B9.out.drew
    have X10 := Lib.hid (X9.out.next hb)
    have A10 := Lib.hid (A9.out.next hb)
    have U10 := Lib.hid (U9.out.next hb)
    have V10 := Lib.hid (V9.out.next hb)
    have D10 := Lib.hid (D9.out.next hb)
    have K10 := Lib.hid (K9.out.next hb)
    clear hb B9 X9 A9 U9 V9 D9 K9
    go_region_held3 (fun w' => w'.cell? ⟨w0.heap.size, 0, none⟩ = some (.string s) ∧ w'.cell? ⟨w0.heap.size, 1, none⟩ = some (.string p) ∧ w'.cell? ⟨w0.heap.size, 2, none⟩ = some (.string o))
      (first | with_reducible exact X14.out.cells | with_reducible exact X13.out.cells | with_reducible exact X12.out.cells | with_reducible exact X11.out.cells | with_reducible exact X10.out.cells)
      (first | (go_at_call 11; refine (SM.out _ _ _ _ K13.out A13.out).mono ?_; rintro e w14 ⟨rfl, hb⟩; have B14 := Lib.hid (B13.out.trans (hb.mono B13.out.size)); have X14 := Lib.hid (X13.out.next hb); have A14 := Lib.hid (A13.out.next hb); have U14 := Lib.hid (U13.out.next hb); have V14 := Lib.hid (V13.out.next hb); have D14 := Lib.hid (D13.out.next hb); have K14 := Lib.hid (K13.out.next hb); have G14 := Lib.hid (G13.out.next hb); clear hb B13 X13 A13 U13 V13 D13 K13 G13) | (go_at_call 17; refine (J5.out _ _ G12.out).mono ?_; rintro e w13 ⟨rfl, hb⟩; have B13 := Lib.hid (B12.out.trans (hb.mono B12.out.size)); have X13 := Lib.hid (X12.out.next hb); have A13 := Lib.hid (A12.out.next hb); have U13 := Lib.hid (U12.out.next hb); have V13 := Lib.hid (V12.out.next hb); have D13 := Lib.hid (D12.out.next hb); have K13 := Lib.hid (K12.out.next hb); have G13 := Lib.hid (G12.out.next hb); clear hb B12 X12 A12 U12 V12 D12 K12 G12) | (go_at_call 15; refine (implGraphN U11.out HQ.out).mono ?_; rintro e w12 ⟨vg, rfl, hg, hb⟩; have B12 := Lib.hid (B11.out.trans (hb.mono B11.out.size)); have X12 := Lib.hid (X11.out.next hb); have A12 := Lib.hid (A11.out.next hb); have U12 := Lib.hid (U11.out.next hb); have V12 := Lib.hid (V11.out.next hb); have D12 := Lib.hid (D11.out.next hb); have K12 := Lib.hid (K11.out.next hb); clear hb B11 X11 A11 U11 V11 D11 K11; have G12 := Lib.hid hg; clear hg) | (go_at_call 12; refine (J4.out _ _ U10.out).mono ?_; rintro e w11 ⟨rfl, hb⟩; have B11 := Lib.hid (B10.out.trans (hb.mono B10.out.size)); have X11 := Lib.hid (X10.out.next hb); have A11 := Lib.hid (A10.out.next hb); have U11 := Lib.hid (U10.out.next hb); have V11 := Lib.hid (V10.out.next hb); have D11 := Lib.hid (D10.out.next hb); have K11 := Lib.hid (K10.out.next hb); clear hb B10 X10 A10 U10 V10 D10 K10))
    all_goals
      go_wp2_with fail
      go_ret
      exact ⟨rfl, B14.out⟩
end fnDataWithout
end Go.Proofs.YtnjphlaohihbaaaGreat
