/- The walk of FnWithAny. -/
import Derived.Test.YtmklnkogmidkdaaG00
import Derived.Test.YtmklnkogmidkdaaG19
namespace Go.Proofs.Ytmklnkogmidkdaa
open Go.RowKit Go.WideShapes
namespace fnWithAny
set_option maxRecDepth 100000 in
set_option maxHeartbeats 3200000 in
theorem walk (a : Option Addr) (len cap : Nat) (zs : List Int) (w : World) (hrow : Frame.IsRow .u8 w a len cap zs) :
    Calls Try.prog 7 #[.slice a len cap] w fun e w' => e = .returned (.bool true) ∧ Below w.heap.size w w' := by
  have hlen : len ≤ 9223372036854775807 := by
    rcases hrow with ⟨_, rfl, _⟩ | ⟨y, _, h1, h2, _⟩
    · omega
    · unfold maxLen at h2; omega
  by_cases hbig : (1048576 : Int) < len
  · go_enter Try.func7, Try.ntmps7
    go_wp2_with go_in
    go_ret
    exact ⟨rfl, Below.refl _ _⟩
  go_enter Try.func7, Try.ntmps7
  go_wp2_with (go_at_call 13; go_in)
  refine (drawWith _ _ _ _ _ hrow).mono ?_
  rintro e w0 ⟨va, ts, s, p, o, rfl, ha, hs, hp, ho, g0⟩
  have hb0 := below_of_grown g0
  have B1 := hb0.alloc hb0.size (.cells #[.string s, .string p, .string o] 26)
  have X1 := Box.new w0 (.string s) (.string p) (.string o) 26
  obtain ⟨xa, ca, rfl⟩ := ha.shape
  obtain ⟨nt, hnt⟩ : ∃ n, ts.length = n := ⟨_, rfl⟩
  rw [hnt] at ha ⊢
  have HA1 := Lib.hid (ha.next ((Below.refl w0.heap.size w0).alloc (Nat.le_refl _) (.cells #[.string s, .string p, .string o] 26)))
  obtain ⟨r, hr⟩ : ∃ r, withT ts (s, p, o) = r := ⟨_, rfl⟩
  have I1 : ∀ w, GotG w (.slice xa nt ca) ts → Calls Try.prog 15 #[.slice xa nt ca, .agg #[.string s, .string p, .string o]] w (GotRes r w) := fun w h => by rw [← hr]; exact implWithG h hs hp ho
  have I2 : ∀ w, GotG w (.slice xa nt ca) ts → Calls Try.prog 16 #[.slice xa nt ca, .agg #[.string s, .string p, .string o]] w (GotRes r w) := fun w h => by rw [← hr]; exact specWithG h hs hp ho
  have HROW := Lib.hid hrow
  clear hrow hbig hlen
  cases r with
  | none =>
    change ∀ w, GotG w (.slice xa nt ca) ts → Calls Try.prog 15 #[.slice xa nt ca, .agg #[.string s, .string p, .string o]] w (fun e w' => ∃ z, e = .returned (.tuple #[z, .bool false]) ∧ GotG w' z [] ∧ Below w.heap.size w w') at I1
    change ∀ w, GotG w (.slice xa nt ca) ts → Calls Try.prog 16 #[.slice xa nt ca, .agg #[.string s, .string p, .string o]] w (fun e w' => ∃ z, e = .returned (.tuple #[z, .bool false]) ∧ GotG w' z [] ∧ Below w.heap.size w w') at I2
    have D1 := Lib.hid I1
    have D2 := Lib.hid I2
    have hnt0 := hnt
    have SM : Hid (∀ (x y : Value) (l : List Tri3) (w : World), GotG w x l → GotG w y l → Calls Try.prog 17 #[x, y] w fun e w' => e = .returned (.bool true) ∧ Below w.heap.size w w') := Lib.hid (fun x y l w h k => by have := sameG h k; rwa [decide_eq_true rfl] at this)
    clear I1 I2 hr ha hnt hnt0 hb0 g0
    obtain ⟨c0, c1, c2⟩ := X1.cells
    go_wp2_with fail
    refine (D1.out _ HA1.out).mono ?_
    rintro e w2 ⟨vu, rfl, hu, hb2⟩
    have B2 := B1.trans (hb2.mono B1.size)
    have X2 := X1.next hb2
    have HA2 := Lib.hid (HA1.out.next hb2)
    have HU2 := Lib.hid hu
    clear hu
    clear hb2 B1 X1 HA1
    clear c0 c1 c2
    obtain ⟨c0, c1, c2⟩ := X2.cells
    go_wp2_with fail
    refine (D2.out _ HA2.out).mono ?_
    rintro e w3 ⟨vw, rfl, hw, hb3⟩
    have B3 := B2.trans (hb3.mono B2.size)
    have X3 := X2.next hb3
    have HU3 := Lib.hid (HU2.out.next hb3)
    have HW3 := Lib.hid hw
    clear hw
    clear hb3 B2 X2 HU2
    clear c0 c1 c2
    obtain ⟨c0, c1, c2⟩ := X3.cells
    go_wp2_with fail
    refine (SM.out _ _ _ _ HU3.out HW3.out).mono ?_
    rintro e w4 ⟨rfl, hb4⟩
    have B4 := B3.trans (hb4.mono B3.size)
    have X4 := X3.next hb4
    have HU4 := Lib.hid (HU3.out.next hb4)
    have HW4 := Lib.hid (HW3.out.next hb4)
    clear hb4 B3 X3 HU3 HW3
    go_wp2_with fail
    refine (SM.out _ _ _ _ HU4.out HW4.out).mono ?_
    rintro e w5 ⟨rfl, hb5⟩
    go_wp2_with fail
    go_ret
    exact ⟨rfl, B4.trans (hb5.mono B4.size)⟩
  | some g =>
    change ∀ w, GotG w (.slice xa nt ca) ts → Calls Try.prog 15 #[.slice xa nt ca, .agg #[.string s, .string p, .string o]] w (fun e w' => ∃ z, e = .returned (.tuple #[z, .bool true]) ∧ GotG w' z g ∧ Below w.heap.size w w') at I1
    change ∀ w, GotG w (.slice xa nt ca) ts → Calls Try.prog 16 #[.slice xa nt ca, .agg #[.string s, .string p, .string o]] w (fun e w' => ∃ z, e = .returned (.tuple #[z, .bool true]) ∧ GotG w' z g ∧ Below w.heap.size w w') at I2
    have SELF : Hid (∀ (x y : Value) (l : List Tri3) (w : World), GotG w x l → GotG w y l → Calls Try.prog 17 #[x, y] w fun e w' => e = .returned (.bool true) ∧ Below w.heap.size w w') := Lib.hid (fun x y l w h k => by have := sameG h k; rwa [decide_eq_true rfl] at this)
    have l1 := with_twice hr
    have D3 : Hid (∀ (x : Value) (w : World), GotG w x g → Calls Try.prog 15 #[x, .agg #[.string s, .string p, .string o]] w (fun e w' => ∃ z, e = .returned (.tuple #[z, .bool true]) ∧ GotG w' z g ∧ Below w.heap.size w w')) := Lib.hid (fun x w h => by have := implWithG h hs hp ho; rw [l1] at this; exact this)
    have HR := Lib.hid hr
    have hs20 := hs
    have hp20 := hp
    have ho20 := ho
    clear l1
    have D1 := Lib.hid I1
    have D2 := Lib.hid I2
    clear I1 I2 hr ha hnt hb0 g0
    obtain ⟨c0, c1, c2⟩ := X1.cells
    go_wp2_with fail
    refine (D1.out _ HA1.out).mono ?_
    rintro e w2 ⟨vu, rfl, hu, hb2⟩
    have B2 := B1.trans (hb2.mono B1.size)
    have X2 := X1.next hb2
    have HA2 := Lib.hid (HA1.out.next hb2)
    have HU2 := Lib.hid hu
    clear hu
    clear hb2 B1 X1 HA1
    clear c0 c1 c2
    obtain ⟨c0, c1, c2⟩ := X2.cells
    go_wp2_with fail
    refine (D2.out _ HA2.out).mono ?_
    rintro e w3 ⟨vw, rfl, hw, hb3⟩
    have B3 := B2.trans (hb3.mono B2.size)
    have X3 := X2.next hb3
    have HA3 := Lib.hid (HA2.out.next hb3)
    have HU3 := Lib.hid (HU2.out.next hb3)
    have HW3 := Lib.hid hw
    clear hw
    clear hb3 B2 X2 HA2 HU2
    clear c0 c1 c2
    obtain ⟨c0, c1, c2⟩ := X3.cells
    go_wp2_with fail
    refine (SELF.out _ _ _ _ HU3.out HW3.out).mono ?_
    rintro e w4 ⟨rfl, hb4⟩
    have B4 := B3.trans (hb4.mono B3.size)
    have X4 := X3.next hb4
    have HA4 := Lib.hid (HA3.out.next hb4)
    have HU4 := Lib.hid (HU3.out.next hb4)
    clear hb4 B3 X3 HA3 HU3
    clear c0 c1 c2
    obtain ⟨c0, c1, c2⟩ := X4.cells
    go_wp2_with fail
    refine (D3.out _ _ HU4.out).mono ?_
    rintro e w5 ⟨vk, rfl, hk, hb5⟩
    have B5 := B4.trans (hb5.mono B4.size)
    have X5 := X4.next hb5
    have HA5 := Lib.hid (HA4.out.next hb5)
    have HU5 := Lib.hid (HU4.out.next hb5)
    have HK5 := Lib.hid hk
    clear hk
    clear hb5 B4 X4 HA4 HU4
    clear c0 c1 c2
    go_wp2_with fail
    refine (SELF.out _ _ _ _ HK5.out HU5.out).mono ?_
    rintro e w6 ⟨rfl, hb6⟩
    have B6 := B5.trans (hb6.mono B5.size)
    have X6 := X5.next hb6
    have HA6 := Lib.hid (HA5.out.next hb6)
    have HU6 := Lib.hid (HU5.out.next hb6)
    clear hb6 B5 X5 HA5 HU5
    go_wp2_with fail
    refine (drawUnion _ _ _ _ _ (isRow_grown HROW.out (grown_of_below B6))).mono ?_
    rintro e w7 ⟨vd, ve, us, us2, rfl, hd, _, g7⟩
    have hb7 := below_of_grown g7
    have B7 := B6.trans (hb7.mono B6.size)
    have X7 := X6.next hb7
    have HA7 := Lib.hid (HA6.out.next hb7)
    have HU7 := Lib.hid (HU6.out.next hb7)
    obtain ⟨xd, cd, rfl, id_, pd, sd⟩ := hd
    obtain ⟨nd, hnd⟩ : ∃ n, us.length = n := ⟨_, rfl⟩
    rw [hnd] at id_ ⊢
    have hnd81 : nd ≤ 81 := by have := sd.1; omega
    clear hb7 g7 B6 X6 HA6 HU6 pd
    by_cases hd0 : nd = 0
    · have hdb : ((nd : Int) == 0) = true := by rw [beq_iff_eq]; omega
      clear id_ sd hnd hd0
      go_wp2_with fail
      go_ret
      exact ⟨rfl, B7⟩
    have hdb : ((nd : Int) == 0) = false := by rw [beq_eq_false_iff_ne]; omega
    have hd1 : (0 : Int) < (nd : Int) := by omega
    obtain ⟨b1, off, rfl, hb1, _, _, hus, hcs⟩ := id_.cells (by omega)
    have ht : us[0]? = some (us[0]'(by omega)) := List.getElem?_eq_getElem (by omega)
    obtain ⟨q0, q1, q2, q3⟩ := hcs 0 _ ht
    clear q3
    have hu20 := sd.2 _ (List.mem_of_getElem? ht)
    generalize us[0]'(by omega) = u at ht q0 q1 q2 hu20
    obtain ⟨u0, u1, u2⟩ := u
    simp only [Nat.zero_mul, Nat.add_zero] at q0 q1 q2
    simp only at hu20
    obtain ⟨hu0, hu1, hu2⟩ := hu20
    have hdn : ¬ (nd : Int) = 0 := by omega
    clear hcs hus ht id_ sd hnd hd0
    obtain ⟨r2, hr2⟩ : ∃ r, withT g (u0, u1, u2) = r := ⟨_, rfl⟩
    obtain ⟨r3, hr3⟩ : ∃ r, withT ts (u0, u1, u2) = r := ⟨_, rfl⟩
    have E2 : ∀ (x : Value) (w : World), GotG w x g → Calls Try.prog 15 #[x, .agg #[.string u0, .string u1, .string u2]] w (GotRes r2 w) := fun x w h => by rw [← hr2]; exact implWithG h hu0 hu1 hu2
    have E3 : ∀ (x : Value) (w : World), GotG w x ts → Calls Try.prog 15 #[x, .agg #[.string u0, .string u1, .string u2]] w (GotRes r3 w) := fun x w h => by rw [← hr3]; exact implWithG h hu0 hu1 hu2
    have HR2 := Lib.hid hr2
    have HR3 := Lib.hid hr3
    clear hr2 hr3
    cases r2 with
    | none =>
      cases r3 with
      | none =>
        change ∀ (x : Value) (w : World), GotG w x g → Calls Try.prog 15 #[x, .agg #[.string u0, .string u1, .string u2]] w (fun e w' => ∃ z, e = .returned (.tuple #[z, .bool false]) ∧ GotG w' z [] ∧ Below w.heap.size w w') at E2
        change ∀ (x : Value) (w : World), GotG w x ts → Calls Try.prog 15 #[x, .agg #[.string u0, .string u1, .string u2]] w (fun e w' => ∃ z, e = .returned (.tuple #[z, .bool false]) ∧ GotG w' z [] ∧ Below w.heap.size w w') at E3
        have F2 := Lib.hid E2
        have F3 := Lib.hid E3
        clear E2 E3
        go_wp2_with fail
        refine (F2.out _ _ HU7.out).mono ?_
        rintro e w8 ⟨vx, rfl, hx, hb8⟩
        have B8 := B7.trans (hb8.mono B7.size)
        have X8 := X7.next hb8
        have HA8 := Lib.hid (HA7.out.next hb8)
        have HX8 := Lib.hid hx
        rw [← hb8.cell (p := ⟨b1, _, none⟩) hb1] at q0 q1 q2
        clear hx hb8 B7 X7 HA7 HU7
        go_wp2_with fail
        refine (F3.out _ _ HA8.out).mono ?_
        rintro e w9 ⟨vm, rfl, hm, hb9⟩
        have B9 := B8.trans (hb9.mono B8.size)
        have X9 := X8.next hb9
        have HX9 := Lib.hid (HX8.out.next hb9)
        have HM9 := Lib.hid hm
        obtain ⟨c0, c1, c2⟩ := X9.cells
        clear hm hb9 B8 X8 HX8 q0 q1 q2
        go_wp2_with fail
        go_ret
        exact ⟨rfl, B9⟩
      | some m =>
        change ∀ (x : Value) (w : World), GotG w x g → Calls Try.prog 15 #[x, .agg #[.string u0, .string u1, .string u2]] w (fun e w' => ∃ z, e = .returned (.tuple #[z, .bool false]) ∧ GotG w' z [] ∧ Below w.heap.size w w') at E2
        change ∀ (x : Value) (w : World), GotG w x ts → Calls Try.prog 15 #[x, .agg #[.string u0, .string u1, .string u2]] w (fun e w' => ∃ z, e = .returned (.tuple #[z, .bool true]) ∧ GotG w' z m ∧ Below w.heap.size w w') at E3
        have F2 := Lib.hid E2
        have F3 := Lib.hid E3
        clear E2 E3
        go_wp2_with fail
        refine (F2.out _ _ HU7.out).mono ?_
        rintro e w8 ⟨vx, rfl, hx, hb8⟩
        have B8 := B7.trans (hb8.mono B7.size)
        have X8 := X7.next hb8
        have HA8 := Lib.hid (HA7.out.next hb8)
        have HX8 := Lib.hid hx
        rw [← hb8.cell (p := ⟨b1, _, none⟩) hb1] at q0 q1 q2
        clear hx hb8 B7 X7 HA7 HU7
        go_wp2_with fail
        refine (F3.out _ _ HA8.out).mono ?_
        rintro e w9 ⟨vm, rfl, hm, hb9⟩
        have B9 := B8.trans (hb9.mono B8.size)
        have X9 := X8.next hb9
        have HX9 := Lib.hid (HX8.out.next hb9)
        have HM9 := Lib.hid hm
        obtain ⟨c0, c1, c2⟩ := X9.cells
        clear hm hb9 B8 X8 HX8 q0 q1 q2
        go_wp2_with fail
        go_ret
        exact ⟨rfl, B9⟩
    | some xx =>
      cases r3 with
      | none =>
        change ∀ (x : Value) (w : World), GotG w x g → Calls Try.prog 15 #[x, .agg #[.string u0, .string u1, .string u2]] w (fun e w' => ∃ z, e = .returned (.tuple #[z, .bool true]) ∧ GotG w' z xx ∧ Below w.heap.size w w') at E2
        change ∀ (x : Value) (w : World), GotG w x ts → Calls Try.prog 15 #[x, .agg #[.string u0, .string u1, .string u2]] w (fun e w' => ∃ z, e = .returned (.tuple #[z, .bool false]) ∧ GotG w' z [] ∧ Below w.heap.size w w') at E3
        have F2 := Lib.hid E2
        have F3 := Lib.hid E3
        clear E2 E3
        go_wp2_with fail
        refine (F2.out _ _ HU7.out).mono ?_
        rintro e w8 ⟨vx, rfl, hx, hb8⟩
        have B8 := B7.trans (hb8.mono B7.size)
        have X8 := X7.next hb8
        have HA8 := Lib.hid (HA7.out.next hb8)
        have HX8 := Lib.hid hx
        rw [← hb8.cell (p := ⟨b1, _, none⟩) hb1] at q0 q1 q2
        clear hx hb8 B7 X7 HA7 HU7
        go_wp2_with fail
        refine (F3.out _ _ HA8.out).mono ?_
        rintro e w9 ⟨vm, rfl, hm, hb9⟩
        have B9 := B8.trans (hb9.mono B8.size)
        have X9 := X8.next hb9
        have HX9 := Lib.hid (HX8.out.next hb9)
        have HM9 := Lib.hid hm
        obtain ⟨c0, c1, c2⟩ := X9.cells
        clear hm hb9 B8 X8 HX8 q0 q1 q2
        go_wp2_with fail
        go_ret
        exact ⟨rfl, B9⟩
      | some m =>
        have l4 := with_swap HR.out HR2.out HR3.out
        have G4 : Hid (∀ (y : Value) (w : World), GotG w y m → Calls Try.prog 15 #[y, .agg #[.string s, .string p, .string o]] w (fun e w' => ∃ z, e = .returned (.tuple #[z, .bool true]) ∧ GotG w' z xx ∧ Below w.heap.size w w')) := Lib.hid (fun y w h => by have := implWithG h hs20 hp20 ho20; rw [l4] at this; exact this)
        clear l4
        change ∀ (x : Value) (w : World), GotG w x g → Calls Try.prog 15 #[x, .agg #[.string u0, .string u1, .string u2]] w (fun e w' => ∃ z, e = .returned (.tuple #[z, .bool true]) ∧ GotG w' z xx ∧ Below w.heap.size w w') at E2
        change ∀ (x : Value) (w : World), GotG w x ts → Calls Try.prog 15 #[x, .agg #[.string u0, .string u1, .string u2]] w (fun e w' => ∃ z, e = .returned (.tuple #[z, .bool true]) ∧ GotG w' z m ∧ Below w.heap.size w w') at E3
        have F2 := Lib.hid E2
        have F3 := Lib.hid E3
        clear E2 E3
        go_wp2_with fail
        refine (F2.out _ _ HU7.out).mono ?_
        rintro e w8 ⟨vx, rfl, hx, hb8⟩
        have B8 := B7.trans (hb8.mono B7.size)
        have X8 := X7.next hb8
        have HA8 := Lib.hid (HA7.out.next hb8)
        have HX8 := Lib.hid hx
        rw [← hb8.cell (p := ⟨b1, _, none⟩) hb1] at q0 q1 q2
        clear hx hb8 B7 X7 HA7 HU7
        go_wp2_with fail
        refine (F3.out _ _ HA8.out).mono ?_
        rintro e w9 ⟨vm, rfl, hm, hb9⟩
        have B9 := B8.trans (hb9.mono B8.size)
        have X9 := X8.next hb9
        have HX9 := Lib.hid (HX8.out.next hb9)
        have HM9 := Lib.hid hm
        obtain ⟨c0, c1, c2⟩ := X9.cells
        clear hm hb9 B8 X8 HX8 q0 q1 q2
        go_wp2_with fail
        refine (G4.out _ _ HM9.out).mono ?_
        rintro e wa ⟨vy, rfl, hy, hba⟩
        have Ba := B9.trans (hba.mono B9.size)
        have HXa := Lib.hid (HX9.out.next hba)
        have HYa := Lib.hid hy
        clear hy hba B9 HX9 HM9
        go_wp2_with fail
        refine (SELF.out _ _ _ _ HXa.out HYa.out).mono ?_
        rintro e wb ⟨rfl, hbb⟩
        go_wp2_with fail
        go_ret
        exact ⟨rfl, Ba.trans (hbb.mono Ba.size)⟩

end fnWithAny
end Go.Proofs.Ytmklnkogmidkdaa
