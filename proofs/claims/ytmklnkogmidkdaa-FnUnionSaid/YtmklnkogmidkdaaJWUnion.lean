/- The walk of FnUnion. -/
import Derived.Test.YtmklnkogmidkdaaG00
import Derived.Test.YtmklnkogmidkdaaG18
import Derived.Test.YtmklnkogmidkdaaG19
namespace Go.Proofs.Ytmklnkogmidkdaa
open Go.RowKit Go.WideShapes
namespace fnUnion
set_option maxRecDepth 100000 in
set_option maxHeartbeats 3200000 in
theorem walk (a : Option Addr) (len cap : Nat) (zs : List Int) (w : World) (hrow : Frame.IsRow .u8 w a len cap zs) :
    Calls Try.prog 5 #[.slice a len cap] w fun e w' => e = .returned (.bool true) ∧ Below w.heap.size w w' := by
  have hlen : len ≤ 9223372036854775807 := by
    rcases hrow with ⟨_, rfl, _⟩ | ⟨y, _, h1, h2, _⟩
    · omega
    · unfold maxLen at h2; omega
  by_cases hbig : (1048576 : Int) < len
  · go_enter Try.func5, Try.ntmps5
    go_wp2_with go_in
    go_ret
    exact ⟨rfl, Below.refl _ _⟩
  go_enter Try.func5, Try.ntmps5
  go_wp2_with (go_at_call 13; go_in)
  refine (drawUnion _ _ _ _ _ hrow).mono ?_
  rintro e w1 ⟨va, vb, ts, us, rfl, ha, hb, g1⟩
  have B1 := below_of_grown g1
  clear g1 hrow hbig hlen
  obtain ⟨r, hr⟩ : ∃ r, unionO ts us = r := ⟨_, rfl⟩
  have I1 : ∀ w, GotG w va ts → GotG w vb us → Calls Try.prog 25 #[va, vb] w (GotRes r w) := fun w h k => by rw [← hr]; exact implUnionG h k
  have I2 : ∀ w, GotG w va ts → GotG w vb us → Calls Try.prog 26 #[va, vb] w (GotRes r w) := fun w h k => by rw [← hr]; exact specUnionG h k
  cases r with
  | none =>
    change ∀ w, GotG w va ts → GotG w vb us → Calls Try.prog 25 #[va, vb] w (fun e w' => ∃ z, e = .returned (.tuple #[z, .bool false]) ∧ GotG w' z [] ∧ Below w.heap.size w w') at I1
    change ∀ w, GotG w va ts → GotG w vb us → Calls Try.prog 26 #[va, vb] w (fun e w' => ∃ z, e = .returned (.tuple #[z, .bool false]) ∧ GotG w' z [] ∧ Below w.heap.size w w') at I2
    have D1 := Lib.hid I1
    have D2 := Lib.hid I2
    have HA := Lib.hid ha
    have HB := Lib.hid hb
    clear I1 I2 hr ha hb
    go_wp2_with fail
    refine (D1.out _ HA.out HB.out).mono ?_
    rintro e w2 ⟨vu, rfl, hu, hb2⟩
    have B2 := B1.trans (hb2.mono B1.size)
    have HA2 := Lib.hid (HA.out.next hb2)
    have HB2 := Lib.hid (HB.out.next hb2)
    have HU2 := Lib.hid hu
    clear hu hb2 B1 HA HB
    go_wp2_with fail
    refine (D2.out _ HA2.out HB2.out).mono ?_
    rintro e w3 ⟨vw, rfl, hw, hb3⟩
    have B3 := B2.trans (hb3.mono B2.size)
    have HU3 := Lib.hid (HU2.out.next hb3)
    have HW3 := Lib.hid hw
    clear hw hb3 B2 HA2 HB2 HU2
    have SM : Hid (∀ w, GotG w vu [] → GotG w vw [] → Calls Try.prog 17 #[vu, vw] w fun e w' => e = .returned (.bool true) ∧ Below w.heap.size w w') := Lib.hid (fun w h k => by have := sameG h k; rwa [decide_eq_true rfl] at this)
    go_wp2_with fail
    refine (SM.out _ HU3.out HW3.out).mono ?_
    rintro e w4 ⟨rfl, hb4⟩
    have B4 := B3.trans (hb4.mono B3.size)
    have HU4 := Lib.hid (HU3.out.next hb4)
    have HW4 := Lib.hid (HW3.out.next hb4)
    clear hb4 B3 HU3 HW3
    go_wp2_with fail
    refine (SM.out _ HU4.out HW4.out).mono ?_
    rintro e w5 ⟨rfl, hb5⟩
    go_wp2_with fail
    go_ret
    exact ⟨rfl, B4.trans (hb5.mono B4.size)⟩
  | some g =>
    change ∀ w, GotG w va ts → GotG w vb us → Calls Try.prog 25 #[va, vb] w (fun e w' => ∃ z, e = .returned (.tuple #[z, .bool true]) ∧ GotG w' z g ∧ Below w.heap.size w w') at I1
    change ∀ w, GotG w va ts → GotG w vb us → Calls Try.prog 26 #[va, vb] w (fun e w' => ∃ z, e = .returned (.tuple #[z, .bool true]) ∧ GotG w' z g ∧ Below w.heap.size w w') at I2
    have hr2 : unionO us ts = some g := by rw [unionO_comm]; exact hr
    obtain ⟨hga, hgb, hgu, hgg⟩ := unionO_some hr
    have hin : ∀ t, t ∈ g ↔ t ∈ ts ∨ t ∈ us := fun t => by rw [hgu]; exact unionT_mem
    have SELF : Hid (∀ (x y : Value) (l : List Tri3) (w : World), GotG w x l → GotG w y l → Calls Try.prog 17 #[x, y] w fun e w' => e = .returned (.bool true) ∧ Below w.heap.size w w') := Lib.hid (fun x y l w h k => by have := sameG h k; rwa [decide_eq_true rfl] at this)
    have D3 : Hid (∀ w, GotG w vb us → GotG w va ts → Calls Try.prog 25 #[vb, va] w (fun e w' => ∃ z, e = .returned (.tuple #[z, .bool true]) ∧ GotG w' z g ∧ Below w.heap.size w w')) := Lib.hid (fun w h k => by have := implUnionG h k; rw [hr2] at this; exact this)
    have WA : Hid (∀ (x : Value) (w : World), GotG w va ts → GotG w x g → Calls Try.prog 21 #[va, x] w fun e w' => e = .returned (.bool true) ∧ Below w.heap.size w w') := Lib.hid (fun x w h k => by have := withinG h k; rwa [inAll_of (fun t ht => (hin t).2 (.inl ht))] at this)
    have WB : Hid (∀ (x : Value) (w : World), GotG w vb us → GotG w x g → Calls Try.prog 21 #[vb, x] w fun e w' => e = .returned (.bool true) ∧ Below w.heap.size w w') := Lib.hid (fun x w h k => by have := withinG h k; rwa [inAll_of (fun t ht => (hin t).2 (.inr ht))] at this)
    have OK : Hid (∀ (x : Value) (w : World), GotG w x g → Calls Try.prog 19 #[x] w fun e w' => e = .returned (.bool true) ∧ Below w.heap.size w w') := Lib.hid (fun x w h => by have := graphOkG h; rwa [hgg] at this)
    have HIN := Lib.hid (fun t => (hin t).1)
    have D1 := Lib.hid I1
    have D2 := Lib.hid I2
    have HA := Lib.hid ha
    have HB := Lib.hid hb
    clear I1 I2 hr hr2 ha hb hgu hga hgb hgg hin
    go_wp2_with fail
    refine (D1.out _ HA.out HB.out).mono ?_
    rintro e w2 ⟨vu, rfl, hu, hb2⟩
    have B2 := B1.trans (hb2.mono B1.size)
    have HA2 := Lib.hid (HA.out.next hb2)
    have HB2 := Lib.hid (HB.out.next hb2)
    have HU2 := Lib.hid hu
    clear hu hb2 B1 HA HB
    go_wp2_with fail
    refine (D2.out _ HA2.out HB2.out).mono ?_
    rintro e w3 ⟨vw, rfl, hw, hb3⟩
    have B3 := B2.trans (hb3.mono B2.size)
    have HA3 := Lib.hid (HA2.out.next hb3)
    have HB3 := Lib.hid (HB2.out.next hb3)
    have HU3 := Lib.hid (HU2.out.next hb3)
    have HW3 := Lib.hid hw
    clear hw hb3 B2 HA2 HB2 HU2
    go_wp2_with fail
    refine (SELF.out _ _ _ _ HU3.out HW3.out).mono ?_
    rintro e w4 ⟨rfl, hb4⟩
    have B4 := B3.trans (hb4.mono B3.size)
    have HA4 := Lib.hid (HA3.out.next hb4)
    have HB4 := Lib.hid (HB3.out.next hb4)
    have HU4 := Lib.hid (HU3.out.next hb4)
    clear hb4 B3 HA3 HB3 HU3 HW3
    go_wp2_with fail
    refine (D3.out _ HB4.out HA4.out).mono ?_
    rintro e w5 ⟨vv, rfl, hv, hb5⟩
    have B5 := B4.trans (hb5.mono B4.size)
    have HA5 := Lib.hid (HA4.out.next hb5)
    have HB5 := Lib.hid (HB4.out.next hb5)
    have HU5 := HU4.out.next hb5
    have HV5 := Lib.hid hv
    obtain ⟨xu, cu, rfl, iu, pu, su⟩ := HU5
    have HPU := Lib.hid pu
    have HSU := Lib.hid su
    have IU := Lib.hid iu
    obtain ⟨G, hG⟩ : ∃ G, g.length = G := ⟨_, rfl⟩
    rw [hG] at IU ⊢
    have HG := Lib.hid hG
    have hG81 : G ≤ 81 := by have := su.1; omega
    clear hv hb5 B4 HA4 HB4 HU4 iu pu su hG
    go_wp2_with fail
    go_loopw [11] (fun i wr => ∃ j : Nat, j ≤ G ∧ i = .int .i64 j ∧ Hid (Below w5.heap.size w5 wr) ∧ Below w.heap.size w wr) (fun i _ => G - (intOf i).toNat)
    case atStart => exact ⟨0, Nat.zero_le _, rfl, Lib.hid (Below.refl _ _), B5⟩
    case round =>
      obtain ⟨j, hj, rfl, hfr, hnx⟩ := hrel
      have hj6 : (0 : Int) ≤ (j : Int) := by omega
      by_cases hlt : j < G
      · have hj7 : (j : Int) < (G : Int) := by omega
        obtain ⟨b1, off, rfl, hb1, hl', hm, hts, hcs⟩ := (IU.out.next hfr.out).cells (by omega)
        have ht : g[j]? = some (g[j]'(by omega)) := List.getElem?_eq_getElem (by omega)
        obtain ⟨c0, c1, c2, m0, m1, m2⟩ := hcs j _ ht
        have hor := HIN.out _ (List.mem_of_getElem? ht)
        generalize g[j]'(by omega) = t at ht c0 c1 c2 m0 m1 m2 hor
        obtain ⟨t0, t1, t2⟩ := t
        simp only at c0 c1 c2
        have C1 := hasG (HA5.out.next hfr.out) t0 t1 t2
        clear ht hcs hm m0 m1 m2 hts hl'
        by_cases hin : (t0, t1, t2) ∈ ts
        · rw [decide_eq_true hin] at C1
          have HC := Lib.hid C1
          clear C1 hin hor
          go_wp2_with fail
          refine HC.out.mono ?_
          rintro e w6 ⟨rfl, hb6⟩
          have B6 := hnx.trans (hb6.mono hnx.size)
          have F6 := Lib.hid (hfr.out.trans (hb6.mono hfr.out.size))
          clear hb6 hnx hfr HC c0 c1 c2
          go_wp2_with fail
          go_roundw
          case rel => exact ⟨j + 1, by omega, by go_num, F6, B6⟩
          case measure => simp [intOf]; omega
        · rw [decide_eq_false hin] at C1
          have HC := Lib.hid C1
          have hu2 : (t0, t1, t2) ∈ us := hor.resolve_left hin
          have HD : Hid (∀ w, GotG w vb us → Calls Try.prog 20 #[vb, .agg #[.string t0, .string t1, .string t2]] w fun e w' => e = .returned (.bool true) ∧ Below w.heap.size w w') := Lib.hid (fun w h => by have := hasG h t0 t1 t2; rwa [decide_eq_true hu2] at this)
          clear C1 hin hor hu2
          go_wp2_with fail
          refine HC.out.mono ?_
          rintro e w6 ⟨rfl, hb6⟩
          have B6 := hnx.trans (hb6.mono hnx.size)
          have f6 := hfr.out.trans (hb6.mono hfr.out.size)
          rw [← hb6.cell (p := ⟨b1, _, none⟩) hb1] at c0 c1 c2
          have F6 := Lib.hid f6
          clear hb6 hnx hfr HC f6
          go_wp2_with fail
          refine (HD.out _ (HB5.out.next F6.out)).mono ?_
          rintro e w7 ⟨rfl, hb7⟩
          have B7 := B6.trans (hb7.mono B6.size)
          have F7 := Lib.hid (F6.out.trans (hb7.mono F6.out.size))
          clear hb7 B6 F6 HD c0 c1 c2
          go_wp2_with fail
          go_roundw
          case rel => exact ⟨j + 1, by omega, by go_num, F7, B7⟩
          case measure => simp [intOf]; omega
      · obtain rfl : j = G := by omega
        have HU6 : Hid (GotG wr (.slice xu j cu) g) := Lib.hid ⟨xu, cu, by rw [HG.out], by rw [HG.out]; exact IU.out.next hfr.out, HPU.out, HSU.out⟩
        have HA6 := Lib.hid (HA5.out.next hfr.out)
        have HB6 := Lib.hid (HB5.out.next hfr.out)
        have HV6 := Lib.hid (HV5.out.next hfr.out)
        clear hfr IU
        go_wp2_with fail
        refine (OK.out _ _ HU6.out).mono ?_
        rintro e w6 ⟨rfl, hb6⟩
        have B6 := hnx.trans (hb6.mono hnx.size)
        have HU7 := Lib.hid (HU6.out.next hb6)
        have HA7 := Lib.hid (HA6.out.next hb6)
        have HB7 := Lib.hid (HB6.out.next hb6)
        have HV7 := Lib.hid (HV6.out.next hb6)
        clear hb6 hnx HU6 HA6 HB6 HV6
        go_wp2_with fail
        refine (SELF.out _ _ _ _ HV7.out HU7.out).mono ?_
        rintro e w7 ⟨rfl, hb7⟩
        have B7 := B6.trans (hb7.mono B6.size)
        have HU8 := Lib.hid (HU7.out.next hb7)
        have HA8 := Lib.hid (HA7.out.next hb7)
        have HB8 := Lib.hid (HB7.out.next hb7)
        clear hb7 B6 HU7 HA7 HB7 HV7
        go_wp2_with fail
        refine (WA.out _ _ HA8.out HU8.out).mono ?_
        rintro e w8 ⟨rfl, hb8⟩
        have B8 := B7.trans (hb8.mono B7.size)
        have HU9 := Lib.hid (HU8.out.next hb8)
        have HB9 := Lib.hid (HB8.out.next hb8)
        clear hb8 B7 HU8 HA8 HB8
        go_wp2_with fail
        refine (WB.out _ _ HB9.out HU9.out).mono ?_
        rintro e w9 ⟨rfl, hb9⟩
        go_wp2_with fail
        go_ret
        exact ⟨rfl, B8.trans (hb9.mono B8.size)⟩

end fnUnion
end Go.Proofs.Ytmklnkogmidkdaa
