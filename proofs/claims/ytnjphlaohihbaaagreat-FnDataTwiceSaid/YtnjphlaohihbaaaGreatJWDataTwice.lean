/- The walk of FnDataTwice. -/
import Derived.Test.YtnjphlaohihbaaaGreatG00
import Derived.Test.YtnjphlaohihbaaaGreatG28
namespace Go.Proofs.YtnjphlaohihbaaaGreat
open Go.RowKit Go.WideShapes
namespace fnDataTwice
set_option maxRecDepth 100000 in
set_option maxHeartbeats 6400000 in
theorem walk (a : Option Addr) (len cap : Nat) (zs : List Int) (w : World) (hrow : Frame.IsRow .u8 w a len cap zs) :
    Calls Tryz.prog 5 #[.slice a len cap] w fun e w' => e = .returned (.bool true) ∧ Below w.heap.size w w' := by
  have hlen : len ≤ 9223372036854775807 := by
    rcases hrow with ⟨_, rfl, _⟩ | ⟨y, _, h1, h2, _⟩
    · omega
    · unfold maxLen at h2; omega
  by_cases hbig : (1048576 : Int) < len
  · go_enter Tryz.func5, Tryz.ntmps5
    go_wp2_with go_in
    go_ret
    exact ⟨rfl, Below.refl _ _⟩
  go_enter Tryz.func5, Tryz.ntmps5
  go_wp2_with (go_at_call 7; go_in)
  refine (drawDataWith _ _ _ _ _ hrow).mono ?_
  rintro e w0 ⟨va, ts, q, s, p, o, rfl, ha, hq, hs, hp, ho, g0⟩
  have hb0 := below_of_grown g0
  have B1 := Lib.hid (hb0.alloc hb0.size (.cells #[.string s, .string p, .string o] 26))
  have X1 := Lib.hid (Box.new w0 (.string s) (.string p) (.string o) 26)
  have A1 := Lib.hid (ha.next ((Below.refl w0.heap.size w0).alloc (Nat.le_refl _) (.cells #[.string s, .string p, .string o] 26)))
  have SM : Hid (∀ (x y : Value) (l : List NamV) (w : World), GotN w x l → GotN w y l → Calls Tryz.prog 11 #[x, y] w fun e w' => e = .returned (.bool true) ∧ Below w.heap.size w w') := Lib.hid (fun _ _ _ _ h k => sameDataN h k)
  obtain ⟨r, hr⟩ : ∃ r, dataWith ts q (s, p, o) = r := ⟨_, rfl⟩
  have I1 : ∀ x w, GotN w x ts → Calls Tryz.prog 9 #[x, .string q, .agg #[.string s, .string p, .string o]] w (GotResN r w) := fun x w h => by rw [← hr]; exact implDataWithN h hq hs hp ho
  have I2 : ∀ x w, GotN w x ts → Calls Tryz.prog 10 #[x, .string q, .agg #[.string s, .string p, .string o]] w (GotResN r w) := fun x w h => by rw [← hr]; exact specDataWithN h hq hs hp ho
  have I3 : ∀ P, r = some P → ∀ x w, GotN w x P → Calls Tryz.prog 9 #[x, .string q, .agg #[.string s, .string p, .string o]] w (fun e w' => ∃ z, e = .returned (.tuple #[z, .bool true]) ∧ GotN w' z P ∧ Below w.heap.size w w') := fun P e x w h => by
    subst e
    have := implDataWithN h hq hs hp ho
    rw [dataWith_twice hr] at this
    exact this
  clear hrow hbig hlen hb0 g0 ha hr hq hs hp ho
  cases r with
  | none =>
    change ∀ x w, GotN w x ts → Calls Tryz.prog 9 #[x, .string q, .agg #[.string s, .string p, .string o]] w (fun e w' => ∃ z, e = .returned (.tuple #[z, .bool false]) ∧ GotN w' z [] ∧ Below w.heap.size w w') at I1
    change ∀ x w, GotN w x ts → Calls Tryz.prog 10 #[x, .string q, .agg #[.string s, .string p, .string o]] w (fun e w' => ∃ z, e = .returned (.tuple #[z, .bool false]) ∧ GotN w' z [] ∧ Below w.heap.size w w') at I2
    have J1 := Lib.hid I1
    have J2 := Lib.hid I2
    clear I1 I2 I3
    obtain ⟨xc0, xc1, xc2⟩ := X1.out.cells
    go_wp2_with fail
    refine (J1.out _ _ A1.out).mono ?_
    rintro e w2 ⟨vu, rfl, hu, hb⟩
    clear xc0 xc1 xc2
    have B2 := Lib.hid (B1.out.trans (hb.mono B1.out.size))
    have X2 := Lib.hid (X1.out.next hb)
    have A2 := Lib.hid (A1.out.next hb)
    clear hb B1 X1 A1
    have U2 := Lib.hid hu
    clear hu
    obtain ⟨xc0, xc1, xc2⟩ := X2.out.cells
    go_wp2_with fail
    refine (J2.out _ _ A2.out).mono ?_
    rintro e w3 ⟨vw, rfl, hw, hb⟩
    clear xc0 xc1 xc2
    have B3 := Lib.hid (B2.out.trans (hb.mono B2.out.size))
    have X3 := Lib.hid (X2.out.next hb)
    have A3 := Lib.hid (A2.out.next hb)
    have U3 := Lib.hid (U2.out.next hb)
    clear hb B2 X2 A2 U2
    have V3 := Lib.hid hw
    clear hw
    go_wp2_with fail
    refine (SM.out _ _ _ _ U3.out V3.out).mono ?_
    rintro e w4 ⟨rfl, hb⟩
    have B4 := Lib.hid (B3.out.trans (hb.mono B3.out.size))
    have X4 := Lib.hid (X3.out.next hb)
    have A4 := Lib.hid (A3.out.next hb)
    have U4 := Lib.hid (U3.out.next hb)
    have V4 := Lib.hid (V3.out.next hb)
    clear hb B3 X3 A3 U3 V3
    go_wp2_with fail
    refine (SM.out _ _ _ _ U4.out V4.out).mono ?_
    rintro e w5 ⟨rfl, hb⟩
    have B5 := Lib.hid (B4.out.trans (hb.mono B4.out.size))
    have X5 := Lib.hid (X4.out.next hb)
    have A5 := Lib.hid (A4.out.next hb)
    have U5 := Lib.hid (U4.out.next hb)
    have V5 := Lib.hid (V4.out.next hb)
    clear hb B4 X4 A4 U4 V4
    go_wp2_with fail
    go_ret
    exact ⟨rfl, B5.out⟩
  | some P =>
    change ∀ x w, GotN w x ts → Calls Tryz.prog 9 #[x, .string q, .agg #[.string s, .string p, .string o]] w (fun e w' => ∃ z, e = .returned (.tuple #[z, .bool true]) ∧ GotN w' z P ∧ Below w.heap.size w w') at I1
    change ∀ x w, GotN w x ts → Calls Tryz.prog 10 #[x, .string q, .agg #[.string s, .string p, .string o]] w (fun e w' => ∃ z, e = .returned (.tuple #[z, .bool true]) ∧ GotN w' z P ∧ Below w.heap.size w w') at I2
    have J3 := Lib.hid (I3 P rfl)
    have J1 := Lib.hid I1
    have J2 := Lib.hid I2
    clear I1 I2 I3
    obtain ⟨xc0, xc1, xc2⟩ := X1.out.cells
    go_wp2_with fail
    refine (J1.out _ _ A1.out).mono ?_
    rintro e w2 ⟨vu, rfl, hu, hb⟩
    clear xc0 xc1 xc2
    have B2 := Lib.hid (B1.out.trans (hb.mono B1.out.size))
    have X2 := Lib.hid (X1.out.next hb)
    have A2 := Lib.hid (A1.out.next hb)
    clear hb B1 X1 A1
    have U2 := Lib.hid hu
    clear hu
    obtain ⟨xc0, xc1, xc2⟩ := X2.out.cells
    go_wp2_with fail
    refine (J2.out _ _ A2.out).mono ?_
    rintro e w3 ⟨vw, rfl, hw, hb⟩
    clear xc0 xc1 xc2
    have B3 := Lib.hid (B2.out.trans (hb.mono B2.out.size))
    have X3 := Lib.hid (X2.out.next hb)
    have A3 := Lib.hid (A2.out.next hb)
    have U3 := Lib.hid (U2.out.next hb)
    clear hb B2 X2 A2 U2
    have V3 := Lib.hid hw
    clear hw
    go_wp2_with fail
    refine (SM.out _ _ _ _ U3.out V3.out).mono ?_
    rintro e w4 ⟨rfl, hb⟩
    have B4 := Lib.hid (B3.out.trans (hb.mono B3.out.size))
    have X4 := Lib.hid (X3.out.next hb)
    have A4 := Lib.hid (A3.out.next hb)
    have U4 := Lib.hid (U3.out.next hb)
    have V4 := Lib.hid (V3.out.next hb)
    clear hb B3 X3 A3 U3 V3
    obtain ⟨xc0, xc1, xc2⟩ := X4.out.cells
    go_wp2_with fail
    refine (J3.out _ _ U4.out).mono ?_
    rintro e w5 ⟨vk, rfl, hk, hb⟩
    clear xc0 xc1 xc2
    have B5 := Lib.hid (B4.out.trans (hb.mono B4.out.size))
    have X5 := Lib.hid (X4.out.next hb)
    have A5 := Lib.hid (A4.out.next hb)
    have U5 := Lib.hid (U4.out.next hb)
    have V5 := Lib.hid (V4.out.next hb)
    clear hb B4 X4 A4 U4 V4
    have K5 := Lib.hid hk
    clear hk
    go_wp2_with fail
    refine (SM.out _ _ _ _ K5.out U5.out).mono ?_
    rintro e w6 ⟨rfl, hb⟩
    have B6 := Lib.hid (B5.out.trans (hb.mono B5.out.size))
    have X6 := Lib.hid (X5.out.next hb)
    have A6 := Lib.hid (A5.out.next hb)
    have U6 := Lib.hid (U5.out.next hb)
    have V6 := Lib.hid (V5.out.next hb)
    have K6 := Lib.hid (K5.out.next hb)
    clear hb B5 X5 A5 U5 V5 K5
    go_wp2_with fail
    go_ret
    exact ⟨rfl, B6.out⟩
end fnDataTwice
end Go.Proofs.YtnjphlaohihbaaaGreat
