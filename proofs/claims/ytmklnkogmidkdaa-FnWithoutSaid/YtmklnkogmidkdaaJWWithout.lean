/- The walk of FnWithout. -/
import Derived.Test.YtmklnkogmidkdaaG00
import Derived.Test.YtmklnkogmidkdaaG19
namespace Go.Proofs.Ytmklnkogmidkdaa
open Go.RowKit Go.WideShapes
namespace fnWithout
set_option maxRecDepth 100000 in
set_option maxHeartbeats 3200000 in
theorem walk (a : Option Addr) (len cap : Nat) (zs : List Int) (w : World) (hrow : Frame.IsRow .u8 w a len cap zs) :
    Calls Try.prog 4 #[.slice a len cap] w fun e w' => e = .returned (.bool true) ∧ Below w.heap.size w w' := by
  have hlen : len ≤ 9223372036854775807 := by
    rcases hrow with ⟨_, rfl, _⟩ | ⟨y, _, h1, h2, _⟩
    · omega
    · unfold maxLen at h2; omega
  by_cases hbig : (1048576 : Int) < len
  · go_enter Try.func4, Try.ntmps4
    go_wp2_with go_in
    go_ret
    exact ⟨rfl, Below.refl _ _⟩
  go_enter Try.func4, Try.ntmps4
  go_wp2_with (go_at_call 13; go_in)
  refine (drawWithout _ _ _ _ _ hrow).mono ?_
  rintro e w0 ⟨va, ts, s, p, o, rfl, ha, hs, hp, ho, g0⟩
  have hb0 := below_of_grown g0
  have B1 := hb0.alloc hb0.size (.cells #[.string s, .string p, .string o] 26)
  have X1 := Box.new w0 (.string s) (.string p) (.string o) 26
  obtain ⟨xa, ca, rfl⟩ := ha.shape
  obtain ⟨nt, hnt⟩ : ∃ n, ts.length = n := ⟨_, rfl⟩
  rw [hnt] at ha ⊢
  have HA1 := Lib.hid (ha.next ((Below.refl w0.heap.size w0).alloc (Nat.le_refl _) (.cells #[.string s, .string p, .string o] 26)))
  obtain ⟨r, hr⟩ : ∃ r, withoutT ts (s, p, o) = r := ⟨_, rfl⟩
  have I1 : ∀ w, GotG w (.slice xa nt ca) ts → Calls Try.prog 18 #[.slice xa nt ca, .agg #[.string s, .string p, .string o]] w (GotRes r w) := fun w h => by rw [← hr]; exact implWithoutG h hs hp ho
  have I2 : ∀ w, GotG w (.slice xa nt ca) ts → Calls Try.prog 23 #[.slice xa nt ca, .agg #[.string s, .string p, .string o]] w (GotRes r w) := fun w h => by rw [← hr]; exact specWithoutG h hs hp ho
  clear hrow hbig hlen
  cases r with
  | none =>
    change ∀ w, GotG w (.slice xa nt ca) ts → Calls Try.prog 18 #[.slice xa nt ca, .agg #[.string s, .string p, .string o]] w (fun e w' => ∃ z, e = .returned (.tuple #[z, .bool false]) ∧ GotG w' z [] ∧ Below w.heap.size w w') at I1
    change ∀ w, GotG w (.slice xa nt ca) ts → Calls Try.prog 23 #[.slice xa nt ca, .agg #[.string s, .string p, .string o]] w (fun e w' => ∃ z, e = .returned (.tuple #[z, .bool false]) ∧ GotG w' z [] ∧ Below w.heap.size w w') at I2
    have D1 := Lib.hid I1
    have D2 := Lib.hid I2
    have hnt0 := hnt
    have SM : Hid (∀ (x y : Value) (l : List Tri3) (w : World), GotG w x l → GotG w y l → Calls Try.prog 17 #[x, y] w fun e w' => e = .returned (.bool true) ∧ Below w.heap.size w w') := Lib.hid (fun x y l w h k => by have := sameG h k; rwa [decide_eq_true rfl] at this)
    clear I1 I2 hr ha hnt hnt0 hb0 g0
    obtain ⟨c0, c1, c2⟩ := X1.cells
    go_wp2_with fail
    refine (D1.out _ HA1.out).mono ?_
    rintro e w2 ⟨vu, rfl, hu, hb2⟩
    have B2 := B1.trans (hb2.mono B1.size)
    have X2 := X1.next hb2
    have HA2 := Lib.hid (HA1.out.next hb2)
    have HU2 := Lib.hid hu
    clear hu
    clear hb2 B1 X1 HA1
    clear c0 c1 c2
    obtain ⟨c0, c1, c2⟩ := X2.cells
    go_wp2_with fail
    refine (D2.out _ HA2.out).mono ?_
    rintro e w3 ⟨vw, rfl, hw, hb3⟩
    have B3 := B2.trans (hb3.mono B2.size)
    have X3 := X2.next hb3
    have HU3 := Lib.hid (HU2.out.next hb3)
    have HW3 := Lib.hid hw
    clear hw
    clear hb3 B2 X2 HU2
    clear c0 c1 c2
    obtain ⟨c0, c1, c2⟩ := X3.cells
    go_wp2_with fail
    refine (SM.out _ _ _ _ HU3.out HW3.out).mono ?_
    rintro e w4 ⟨rfl, hb4⟩
    have B4 := B3.trans (hb4.mono B3.size)
    have X4 := X3.next hb4
    have HU4 := Lib.hid (HU3.out.next hb4)
    have HW4 := Lib.hid (HW3.out.next hb4)
    clear hb4 B3 X3 HU3 HW3
    go_wp2_with fail
    refine (SM.out _ _ _ _ HU4.out HW4.out).mono ?_
    rintro e w5 ⟨rfl, hb5⟩
    go_wp2_with fail
    go_ret
    exact ⟨rfl, B4.trans (hb5.mono B4.size)⟩
  | some g =>
    change ∀ w, GotG w (.slice xa nt ca) ts → Calls Try.prog 18 #[.slice xa nt ca, .agg #[.string s, .string p, .string o]] w (fun e w' => ∃ z, e = .returned (.tuple #[z, .bool true]) ∧ GotG w' z g ∧ Below w.heap.size w w') at I1
    change ∀ w, GotG w (.slice xa nt ca) ts → Calls Try.prog 23 #[.slice xa nt ca, .agg #[.string s, .string p, .string o]] w (fun e w' => ∃ z, e = .returned (.tuple #[z, .bool true]) ∧ GotG w' z g ∧ Below w.heap.size w w') at I2
    have SELF : Hid (∀ (x y : Value) (l : List Tri3) (w : World), GotG w x l → GotG w y l → Calls Try.prog 17 #[x, y] w fun e w' => e = .returned (.bool true) ∧ Below w.heap.size w w') := Lib.hid (fun x y l w h k => by have := sameG h k; rwa [decide_eq_true rfl] at this)
    obtain ⟨l1, l2, l3, l4⟩ := without_back hr
    have D3 : Hid (∀ (x : Value) (w : World), GotG w x g → Calls Try.prog 15 #[x, .agg #[.string s, .string p, .string o]] w (fun e w' => ∃ z, e = .returned (.tuple #[z, .bool true]) ∧ GotG w' z ts ∧ Below w.heap.size w w')) := Lib.hid (fun x w h => by have := implWithG h hs hp ho; rw [l1] at this; exact this)
    have OK : Hid (∀ (x : Value) (w : World), GotG w x g → Calls Try.prog 19 #[x] w fun e w' => e = .returned (.bool true) ∧ Below w.heap.size w w') := Lib.hid (fun x w h => by have := graphOkG h; rwa [l4] at this)
    have H1 : Hid (∀ (x : Value) (w : World), GotG w x g → Calls Try.prog 20 #[x, .agg #[.string s, .string p, .string o]] w fun e w' => e = .returned (.bool false) ∧ Below w.heap.size w w') := Lib.hid (fun x w h => by have := hasG h s p o; rwa [decide_eq_false l2] at this)
    have W1 : Hid (∀ (x y : Value) (w : World), GotG w x g → GotG w y ts → Calls Try.prog 21 #[x, y] w fun e w' => e = .returned (.bool true) ∧ Below w.heap.size w w') := Lib.hid (fun x y w h k => by have := withinG h k; rwa [inAll_of l3] at this)
    clear l1 l2 l3 l4
    have D1 := Lib.hid I1
    have D2 := Lib.hid I2
    clear I1 I2 hr ha hnt hb0 g0
    obtain ⟨c0, c1, c2⟩ := X1.cells
    go_wp2_with fail
    refine (D1.out _ HA1.out).mono ?_
    rintro e w2 ⟨vu, rfl, hu, hb2⟩
    have B2 := B1.trans (hb2.mono B1.size)
    have X2 := X1.next hb2
    have HA2 := Lib.hid (HA1.out.next hb2)
    have HU2 := Lib.hid hu
    clear hu
    clear hb2 B1 X1 HA1
    clear c0 c1 c2
    obtain ⟨c0, c1, c2⟩ := X2.cells
    go_wp2_with fail
    refine (D2.out _ HA2.out).mono ?_
    rintro e w3 ⟨vw, rfl, hw, hb3⟩
    have B3 := B2.trans (hb3.mono B2.size)
    have X3 := X2.next hb3
    have HA3 := Lib.hid (HA2.out.next hb3)
    have HU3 := Lib.hid (HU2.out.next hb3)
    have HW3 := Lib.hid hw
    clear hw
    clear hb3 B2 X2 HA2 HU2
    clear c0 c1 c2
    obtain ⟨c0, c1, c2⟩ := X3.cells
    go_wp2_with fail
    refine (SELF.out _ _ _ _ HU3.out HW3.out).mono ?_
    rintro e w4 ⟨rfl, hb4⟩
    have B4 := B3.trans (hb4.mono B3.size)
    have X4 := X3.next hb4
    have HA4 := Lib.hid (HA3.out.next hb4)
    have HU4 := Lib.hid (HU3.out.next hb4)
    clear hb4 B3 X3 HA3 HU3
    clear c0 c1 c2
    obtain ⟨c0, c1, c2⟩ := X4.cells
    go_wp2_with fail
    refine (D3.out _ _ HU4.out).mono ?_
    rintro e w5 ⟨vk, rfl, hk, hb5⟩
    have B5 := B4.trans (hb5.mono B4.size)
    have X5 := X4.next hb5
    have HA5 := Lib.hid (HA4.out.next hb5)
    have HU5 := Lib.hid (HU4.out.next hb5)
    have HK5 := Lib.hid hk
    clear hk
    clear hb5 B4 X4 HA4 HU4
    clear c0 c1 c2
    go_wp2_with fail
    refine (OK.out _ _ HU5.out).mono ?_
    rintro e w6 ⟨rfl, hb6⟩
    have B6 := B5.trans (hb6.mono B5.size)
    have X6 := X5.next hb6
    have HA6 := Lib.hid (HA5.out.next hb6)
    have HU6 := Lib.hid (HU5.out.next hb6)
    have HK6 := Lib.hid (HK5.out.next hb6)
    clear hb6 B5 X5 HA5 HU5 HK5
    obtain ⟨c0, c1, c2⟩ := X6.cells
    go_wp2_with fail
    refine (H1.out _ _ HU6.out).mono ?_
    rintro e w7 ⟨rfl, hb7⟩
    have B7 := B6.trans (hb7.mono B6.size)
    have X7 := X6.next hb7
    have HA7 := Lib.hid (HA6.out.next hb7)
    have HU7 := Lib.hid (HU6.out.next hb7)
    have HK7 := Lib.hid (HK6.out.next hb7)
    clear hb7 B6 X6 HA6 HU6 HK6
    clear c0 c1 c2
    go_wp2_with fail
    refine (W1.out _ _ _ HU7.out HA7.out).mono ?_
    rintro e w8 ⟨rfl, hb8⟩
    have B8 := B7.trans (hb8.mono B7.size)
    have X8 := X7.next hb8
    have HA8 := Lib.hid (HA7.out.next hb8)
    have HK8 := Lib.hid (HK7.out.next hb8)
    clear hb8 B7 X7 HA7 HK7
    go_wp2_with fail
    refine (SELF.out _ _ _ _ HK8.out HA8.out).mono ?_
    rintro e wz ⟨rfl, hbz⟩
    go_wp2_with fail
    go_ret
    exact ⟨rfl, B8.trans (hbz.mono B8.size)⟩

end fnWithout
end Go.Proofs.Ytmklnkogmidkdaa
