/- The walk of FnUnionTwice. -/
import Derived.Test.YtmklnkogmidkdaaG00
import Derived.Test.YtmklnkogmidkdaaG18
import Derived.Test.YtmklnkogmidkdaaG19
namespace Go.Proofs.Ytmklnkogmidkdaa
open Go.RowKit Go.WideShapes
namespace fnUnionTwice
set_option maxRecDepth 100000 in
set_option maxHeartbeats 3200000 in
theorem walk (a : Option Addr) (len cap : Nat) (zs : List Int) (w : World) (hrow : Frame.IsRow .u8 w a len cap zs) :
    Calls Try.prog 6 #[.slice a len cap] w fun e w' => e = .returned (.bool true) ∧ Below w.heap.size w w' := by
  have hlen : len ≤ 9223372036854775807 := by
    rcases hrow with ⟨_, rfl, _⟩ | ⟨y, _, h1, h2, _⟩
    · omega
    · unfold maxLen at h2; omega
  by_cases hbig : (1048576 : Int) < len
  · go_enter Try.func6, Try.ntmps6
    go_wp2_with go_in
    go_ret
    exact ⟨rfl, Below.refl _ _⟩
  go_enter Try.func6, Try.ntmps6
  go_wp2_with (go_at_call 13; go_in)
  refine (drawUnion _ _ _ _ _ hrow).mono ?_
  rintro e w1 ⟨va, vb, ts, us, rfl, ha, hb, g1⟩
  have B1 := below_of_grown g1
  clear g1 hrow hbig hlen
  obtain ⟨r, hr⟩ : ∃ r, unionO ts us = r := ⟨_, rfl⟩
  have I1 : ∀ w, GotG w va ts → GotG w vb us → Calls Try.prog 25 #[va, vb] w (GotRes r w) := fun w h k => by rw [← hr]; exact implUnionG h k
  have I2 : ∀ w, GotG w va ts → GotG w vb us → Calls Try.prog 26 #[va, vb] w (GotRes r w) := fun w h k => by rw [← hr]; exact specUnionG h k
  cases r with
  | none =>
    change ∀ w, GotG w va ts → GotG w vb us → Calls Try.prog 25 #[va, vb] w (fun e w' => ∃ z, e = .returned (.tuple #[z, .bool false]) ∧ GotG w' z [] ∧ Below w.heap.size w w') at I1
    change ∀ w, GotG w va ts → GotG w vb us → Calls Try.prog 26 #[va, vb] w (fun e w' => ∃ z, e = .returned (.tuple #[z, .bool false]) ∧ GotG w' z [] ∧ Below w.heap.size w w') at I2
    have D1 := Lib.hid I1
    have D2 := Lib.hid I2
    have HA := Lib.hid ha
    have HB := Lib.hid hb
    clear I1 I2 hr ha hb
    go_wp2_with fail
    refine (D1.out _ HA.out HB.out).mono ?_
    rintro e w2 ⟨vu, rfl, hu, hb2⟩
    have B2 := B1.trans (hb2.mono B1.size)
    have HA2 := Lib.hid (HA.out.next hb2)
    have HB2 := Lib.hid (HB.out.next hb2)
    have HU2 := Lib.hid hu
    clear hu hb2 B1 HA HB
    go_wp2_with fail
    refine (D2.out _ HA2.out HB2.out).mono ?_
    rintro e w3 ⟨vw, rfl, hw, hb3⟩
    have B3 := B2.trans (hb3.mono B2.size)
    have HU3 := Lib.hid (HU2.out.next hb3)
    have HW3 := Lib.hid hw
    clear hw hb3 B2 HA2 HB2 HU2
    have SM : Hid (∀ w, GotG w vu [] → GotG w vw [] → Calls Try.prog 17 #[vu, vw] w fun e w' => e = .returned (.bool true) ∧ Below w.heap.size w w') := Lib.hid (fun w h k => by have := sameG h k; rwa [decide_eq_true rfl] at this)
    go_wp2_with fail
    refine (SM.out _ HU3.out HW3.out).mono ?_
    rintro e w4 ⟨rfl, hb4⟩
    have B4 := B3.trans (hb4.mono B3.size)
    have HU4 := Lib.hid (HU3.out.next hb4)
    have HW4 := Lib.hid (HW3.out.next hb4)
    clear hb4 B3 HU3 HW3
    go_wp2_with fail
    refine (SM.out _ HU4.out HW4.out).mono ?_
    rintro e w5 ⟨rfl, hb5⟩
    go_wp2_with fail
    go_ret
    exact ⟨rfl, B4.trans (hb5.mono B4.size)⟩
  | some g =>
    change ∀ w, GotG w va ts → GotG w vb us → Calls Try.prog 25 #[va, vb] w (fun e w' => ∃ z, e = .returned (.tuple #[z, .bool true]) ∧ GotG w' z g ∧ Below w.heap.size w w') at I1
    change ∀ w, GotG w va ts → GotG w vb us → Calls Try.prog 26 #[va, vb] w (fun e w' => ∃ z, e = .returned (.tuple #[z, .bool true]) ∧ GotG w' z g ∧ Below w.heap.size w w') at I2
    have hr2 : unionO us ts = some g := by rw [unionO_comm]; exact hr
    obtain ⟨hga, hgb, hgu, hgg⟩ := unionO_some hr
    have hin : ∀ t, t ∈ g ↔ t ∈ ts ∨ t ∈ us := fun t => by rw [hgu]; exact unionT_mem
    have SELF : Hid (∀ (x y : Value) (l : List Tri3) (w : World), GotG w x l → GotG w y l → Calls Try.prog 17 #[x, y] w fun e w' => e = .returned (.bool true) ∧ Below w.heap.size w w') := Lib.hid (fun x y l w h k => by have := sameG h k; rwa [decide_eq_true rfl] at this)
    have D3 : Hid (∀ (x : Value) w, GotG w x g → GotG w vb us → Calls Try.prog 25 #[x, vb] w (fun e w' => ∃ z, e = .returned (.tuple #[z, .bool true]) ∧ GotG w' z g ∧ Below w.heap.size w w')) := Lib.hid (fun x w h k => by have := implUnionG h k; rw [unionO_same hgb hgg (fun t ht => (hin t).2 (.inr ht))] at this; exact this)
    have D4 : Hid (∀ (x : Value) w, GotG w va ts → GotG w x g → Calls Try.prog 25 #[va, x] w (fun e w' => ∃ z, e = .returned (.tuple #[z, .bool true]) ∧ GotG w' z g ∧ Below w.heap.size w w')) := Lib.hid (fun x w h k => by have := implUnionG h k; rw [unionO_comm, unionO_same hga hgg (fun t ht => (hin t).2 (.inl ht))] at this; exact this)
    have D5 : Hid (∀ w, GotG w va ts → Calls Try.prog 25 #[va, va] w (fun e w' => ∃ z, e = .returned (.tuple #[z, .bool true]) ∧ GotG w' z ts ∧ Below w.heap.size w w')) := Lib.hid (fun w h => by have := implUnionG h h; rw [unionO_same hga hga (fun t ht => ht)] at this; exact this)
    have D1 := Lib.hid I1
    have D2 := Lib.hid I2
    have HA := Lib.hid ha
    have HB := Lib.hid hb
    clear I1 I2 hr hr2 ha hb hgu hga hgb hgg hin
    go_wp2_with fail
    refine (D1.out _ HA.out HB.out).mono ?_
    rintro e w2 ⟨vu, rfl, hu, hb2⟩
    have B2 := B1.trans (hb2.mono B1.size)
    have HA2 := Lib.hid (HA.out.next hb2)
    have HB2 := Lib.hid (HB.out.next hb2)
    have HU2 := Lib.hid hu
    clear hu hb2 B1 HA HB
    go_wp2_with fail
    refine (D2.out _ HA2.out HB2.out).mono ?_
    rintro e w3 ⟨vw, rfl, hw, hb3⟩
    have B3 := B2.trans (hb3.mono B2.size)
    have HA3 := Lib.hid (HA2.out.next hb3)
    have HB3 := Lib.hid (HB2.out.next hb3)
    have HU3 := Lib.hid (HU2.out.next hb3)
    have HW3 := Lib.hid hw
    clear hw hb3 B2 HA2 HB2 HU2
    go_wp2_with fail
    refine (SELF.out _ _ _ _ HU3.out HW3.out).mono ?_
    rintro e w4 ⟨rfl, hb4⟩
    have B4 := B3.trans (hb4.mono B3.size)
    have HA4 := Lib.hid (HA3.out.next hb4)
    have HB4 := Lib.hid (HB3.out.next hb4)
    have HU4 := Lib.hid (HU3.out.next hb4)
    clear hb4 B3 HA3 HB3 HU3 HW3
    go_wp2_with fail
    refine (D3.out _ _ HU4.out HB4.out).mono ?_
    rintro e w5 ⟨vx, rfl, hx, hb5⟩
    have B5 := B4.trans (hb5.mono B4.size)
    have HA5 := Lib.hid (HA4.out.next hb5)
    have HU5 := Lib.hid (HU4.out.next hb5)
    have HX5 := Lib.hid hx
    clear hx hb5 B4 HA4 HB4 HU4
    go_wp2_with fail
    refine (D4.out _ _ HA5.out HU5.out).mono ?_
    rintro e w6 ⟨vy, rfl, hy, hb6⟩
    have B6 := B5.trans (hb6.mono B5.size)
    have HA6 := Lib.hid (HA5.out.next hb6)
    have HU6 := Lib.hid (HU5.out.next hb6)
    have HX6 := Lib.hid (HX5.out.next hb6)
    have HY6 := Lib.hid hy
    clear hy hb6 B5 HA5 HU5 HX5
    go_wp2_with fail
    refine (D5.out _ HA6.out).mono ?_
    rintro e w7 ⟨vz, rfl, hz, hb7⟩
    have B7 := B6.trans (hb7.mono B6.size)
    have HA7 := Lib.hid (HA6.out.next hb7)
    have HU7 := Lib.hid (HU6.out.next hb7)
    have HX7 := Lib.hid (HX6.out.next hb7)
    have HY7 := Lib.hid (HY6.out.next hb7)
    have HZ7 := Lib.hid hz
    clear hz hb7 B6 HA6 HU6 HX6 HY6
    go_wp2_with fail
    refine (SELF.out _ _ _ _ HX7.out HU7.out).mono ?_
    rintro e w8 ⟨rfl, hb8⟩
    have B8 := B7.trans (hb8.mono B7.size)
    have HA8 := Lib.hid (HA7.out.next hb8)
    have HU8 := Lib.hid (HU7.out.next hb8)
    have HY8 := Lib.hid (HY7.out.next hb8)
    have HZ8 := Lib.hid (HZ7.out.next hb8)
    clear hb8 B7 HA7 HU7 HX7 HY7 HZ7
    go_wp2_with fail
    refine (SELF.out _ _ _ _ HY8.out HU8.out).mono ?_
    rintro e w9 ⟨rfl, hb9⟩
    have B9 := B8.trans (hb9.mono B8.size)
    have HA9 := Lib.hid (HA8.out.next hb9)
    have HZ9 := Lib.hid (HZ8.out.next hb9)
    clear hb9 B8 HA8 HU8 HY8 HZ8
    go_wp2_with fail
    refine (SELF.out _ _ _ _ HZ9.out HA9.out).mono ?_
    rintro e wa ⟨rfl, hba⟩
    go_wp2_with fail
    go_ret
    exact ⟨rfl, B9.trans (hba.mono B9.size)⟩

end fnUnionTwice
end Go.Proofs.Ytmklnkogmidkdaa
