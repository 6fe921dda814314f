/- The walk of FnFilled. -/
import Derived.Test.YtapcbhpkbdlinaaFrame
import Derived.Test.YtapcbhpkbdlinaaDrawF
import Derived.Test.YtapcbhpkbdlinaaTriEq
import Derived.Deep.RegionHeld3
import Derived.Deep.QuietTactic
import Derived.BigQuiet
namespace Go.Proofs.Ytapcbhpkbdlinaa
open Go.RowKit Go.WideShapes
namespace fnFilled
theorem filledV_agg (ts : List Pre2) (s p o : ByteArray) : ∃ x y z : ByteArray, filledV ts s p o = .agg #[.string x, .string y, .string z] := by
  unfold filledV
  cases rowOk ts
  · exact ⟨s, p, o, rfl⟩
  · exact ⟨seen ts s, seen ts p, seen ts o, rfl⟩
theorem tri_isF (s p o : ByteArray) (w : World) : (binOp .eql 23 (.agg #[.string s, .string p, .string o]) (.agg #[.string s, .string p, .string o])).run Try.prog w = .ok (.bool true) w := by
  rw [run_eql_struct, tri_eq]; simp
set_option maxRecDepth 100000 in
set_option maxHeartbeats 6400000 in
theorem walk (a : Option Addr) (len cap : Nat) (zs : List Int) (w : World) (hrow : Frame.IsRow .u8 w a len cap zs) :
    Calls Try.prog 7 #[.slice a len cap] w fun e w' => e = .returned (.bool true) ∧ Below w.heap.size w w' := by
  have hlen : len ≤ 9223372036854775807 := by
    rcases hrow with ⟨_, rfl, _⟩ | ⟨y, _, h1, h2, _⟩
    · omega
    · unfold maxLen at h2; omega
  by_cases hbig : (1048576 : Int) < len
  · go_enter Try.func7, Try.ntmps7
    go_wp2_with go_in
    go_ret
    exact ⟨rfl, Below.refl _ _⟩
  go_enter Try.func7, Try.ntmps7
  go_wp2_with (go_at_call 30; go_in)
  refine (drawFilled _ _ _ _ _ hrow).mono ?_
  rintro e w1 ⟨v, ts, s, p, o, rfl, hS, hs, hp, ho, hO, hg1⟩
  clear hrow
  obtain ⟨ra, rc, rfl, i1⟩ := OwnP.is hO (fun t ht => by have := hS.2 t ht; unfold maxLen; omega)
  have hSm : SmP ts := fun t ht => by have := hS.2 t ht; omega
  have B1 := below_of_grown hg1
  obtain ⟨n, hn⟩ : ∃ n, ts.length = n := ⟨_, rfl⟩
  rw [hn] at i1 ⊢
  have hn4 : n ≤ 4 := by rw [← hn]; exact hS.1
  have hn1 : n ≤ 1048576 := by omega
  obtain ⟨x, y, z, hV⟩ := filledV_agg ts s p o
  have C1 := fun W hi => specFilled ra n rc ts s p o W hi hSm hn1
  have C2 := fun W hi => implFilled ra n rc ts s p o W hi hSm hn1
  have C3 := fun W hi => specRowOk ra n rc ts W hi hSm
  have C4 := fun W hi => implFilled ra n rc ts x y z W hi hSm hn1
  have C5 : rowOk ts = true → filledV ts x y z = .agg #[.string x, .string y, .string z] ∧ (x = seen ts s ∧ y = seen ts p ∧ z = seen ts o) := fun hr => by
    unfold filledV at hV ⊢
    rw [hr] at hV ⊢
    simp only [Value.agg.injEq, Array.mk.injEq, List.cons.injEq, Value.string.injEq, and_true] at hV
    obtain ⟨rfl, rfl, rfl⟩ := hV
    exact ⟨by rw [seen_seen hr, seen_seen hr, seen_seen hr], rfl, rfl, rfl⟩
  simp only [hV] at C1 C2
  have HC1 := Lib.hid C1
  have HC2 := Lib.hid C2
  have HC5 := Lib.hid C5
  have HT := Lib.hid hn
  have X1 := Box.new w1 (.string s) (.string p) (.string o) 23
  have BA := (Below.refl w1.heap.size w1).alloc (Nat.le_refl _) (.cells #[.string s, .string p, .string o] 23)
  have B2 := B1.trans (BA.mono B1.size)
  have i2 := IsPres.next i1 BA
  obtain ⟨x0, x1, x2⟩ := X1.cells
  clear C1 C2 C5 hn hO i1 hg1 hS hSm hV BA B1
  go_wp2_with fail
  generalize hWA : w1.alloc (.cells #[.string s, .string p, .string o] 23) = wa at X1 B2 i2 x0 x1 x2 ⊢
  clear hWA
  generalize w1.heap.size = tb at X1 x0 x1 x2 ⊢
  refine (HC2.out _ i2).mono ?_
  rintro e w2 ⟨rfl, hb⟩
  have X2 := X1.next hb
  have i3 := IsPres.next i2 hb
  have B3 := B2.trans (hb.mono B2.size)
  have Y3 := Box.new w2 (.string x) (.string y) (.string z) 23
  have BA := (Below.refl w2.heap.size w2).alloc (Nat.le_refl _) (.cells #[.string x, .string y, .string z] 23)
  have X3 := X2.alloc (.cells #[.string x, .string y, .string z] 23)
  have i4 := IsPres.next i3 BA
  have B4 := B3.trans (BA.mono B3.size)
  clear hb X1 x0 x1 x2 i2 B2 X2 i3 B3 BA
  go_wp2_with fail
  generalize hWA : w2.alloc (.cells #[.string x, .string y, .string z] 23) = wb at X3 Y3 i4 B4 ⊢
  clear hWA
  generalize w2.heap.size = fb at Y3 ⊢
  have X3h := Lib.hid X3
  have Y3h := Lib.hid Y3
  have I3h := Lib.hid i4
  have B3h := Lib.hid B4
  obtain ⟨x0, x1, x2⟩ := X3.drew.cells
  obtain ⟨y0, y1, y2⟩ := Y3.drew.cells
  have EQ := tri_same x y z
  have EQ2 := tri_isF x y z
  cases hr : rowOk ts
  all_goals
    simp only [hr] at C3
    have HC3 := Lib.hid C3
    clear C3 X3 Y3 i4 B4
    go_wp2_with fail
    go_region_held3 (fun w' => w'.cell? ⟨tb, 0, none⟩ = some (.string s) ∧ w'.cell? ⟨tb, 1, none⟩ = some (.string p) ∧ w'.cell? ⟨tb, 2, none⟩ = some (.string o) ∧ w'.cell? ⟨fb, 0, none⟩ = some (.string x) ∧ w'.cell? ⟨fb, 1, none⟩ = some (.string y) ∧ w'.cell? ⟨fb, 2, none⟩ = some (.string z))
      (first | go_keep | (have QX := (X3h.out.drew.next hb4).cells; have QY := (Y3h.out.drew.next hb4).cells; with_reducible exact ⟨QX.1, QX.2.1, QX.2.2, QY.1, QY.2.1, QY.2.2⟩) | (have QX := (X4.out.next hb5).cells; have QY := (Y4.out.next hb5).cells; with_reducible exact ⟨QX.1, QX.2.1, QX.2.2, QY.1, QY.2.1, QY.2.2⟩))
      (first
        | (go_at_call 38; refine (HC1.out _ (IsPres.next I3h.out (Below.refl _ _).drew)).mono ?_; rintro e w4 ⟨rfl, hb4⟩
           have B4 := Lib.hid (B3h.out.drew.trans (hb4.mono B3h.out.size)); have I4 := Lib.hid (IsPres.next I3h.out ((Below.refl wb.heap.size wb).drew.trans (hb4.mono (Nat.le_refl _)))); have X4 := Lib.hid (X3h.out.drew.next hb4); have Y4 := Lib.hid (Y3h.out.drew.next hb4))
        | (go_at_call 35; refine (HC3.out _ I4.out).mono ?_; rintro e w5 ⟨rfl, hb5⟩
           have B5 := Lib.hid (B4.out.trans (hb5.mono B4.out.size)); have I5 := Lib.hid (IsPres.next I4.out hb5); have X5 := Lib.hid (X4.out.next hb5); have Y5 := Lib.hid (Y4.out.next hb5)))
  · clear x0 x1 x2 y0 y1 y2 hb4 hb5 HC5
    obtain ⟨x0, x1, x2⟩ := X5.out.drew.cells
    obtain ⟨y0, y1, y2⟩ := Y5.out.drew.cells
    go_wp2_with fail
    go_region_held3 (fun w' => w'.cell? ⟨tb, 0, none⟩ = some (.string s) ∧ w'.cell? ⟨tb, 1, none⟩ = some (.string p) ∧ w'.cell? ⟨tb, 2, none⟩ = some (.string o) ∧ w'.cell? ⟨fb, 0, none⟩ = some (.string x) ∧ w'.cell? ⟨fb, 1, none⟩ = some (.string y) ∧ w'.cell? ⟨fb, 2, none⟩ = some (.string z))
      (first | go_keep | (have QX := (X5.out.drew.next hb6).cells; have QY := (Y5.out.drew.next hb6).cells; with_reducible exact ⟨QX.1, QX.2.1, QX.2.2, QY.1, QY.2.1, QY.2.2⟩))
      (first | (go_at_call 38; refine (HC1.out _ (IsPres.next I5.out (Below.refl _ _).drew)).mono ?_; rintro e w6 ⟨rfl, hb6⟩; have B6 := Lib.hid (B5.out.drew.trans (hb6.mono B5.out.size))))
    go_wp2_with fail
    go_ret
    exact ⟨rfl, B6.out⟩
  · have H5 := HC5.out hr
    simp only [H5.1] at C4
    have HC4 := Lib.hid C4
    have HR := Lib.hid (And.intro hr H5.2)
    clear x0 x1 x2 y0 y1 y2 hb4 hb5 HC5 HC1 HC2 HC3 H5 C4 hr B4 I4 X4 Y4 X3h Y3h I3h B3h
    go_wp2_with fail
    go_loopw [6] (fun i wr => ∃ k : Nat, k ≤ n ∧ i = .int .i64 k ∧ Hid (Box wr tb (.string s) (.string p) (.string o) 23) ∧ Hid (Box wr fb (.string x) (.string y) (.string z) 23) ∧ Hid (IsPres wr ra n rc ts) ∧ Hid (Below w.heap.size w wr)) (fun i _ => n - (intOf i).toNat)
    case atStart => exact ⟨0, Nat.zero_le _, rfl, X5, Y5, I5, B5⟩
    case round =>
      obtain ⟨k, hk, rfl, hX, hY, hI, hB⟩ := hrel
      clear X5 Y5 I5 B5
      by_cases hlt : k < n
      · obtain ⟨b, off, rfl, hb, _, _, hts, hc⟩ := hI.out.cells (by omega)
        have ht : ts[k]? = some (ts[k]'(by omega)) := List.getElem?_eq_getElem (by omega)
        obtain ⟨c0, c1, m0, m1⟩ := hc k _ ht
        generalize ts[k]'(by omega) = t at ht c0 c1 m0 m1
        clear m0 m1 hc hts
        have hmem := List.mem_of_getElem? ht
        have e1 : (x.toList == t.1.toList) = false := bl_ne (by rw [HR.out.2.1]; exact filled_none HR.out.1 s t hmem)
        have e2 : (y.toList == t.1.toList) = false := bl_ne (by rw [HR.out.2.2.1]; exact filled_none HR.out.1 p t hmem)
        have e3 : (z.toList == t.1.toList) = false := bl_ne (by rw [HR.out.2.2.2]; exact filled_none HR.out.1 o t hmem)
        have hk6 : (0 : Int) ≤ (k : Int) := by omega
        have hk7 : (k : Int) < (n : Int) := by omega
        obtain ⟨x0, x1, x2⟩ := hX.out.cells
        obtain ⟨y0, y1, y2⟩ := hY.out.cells
        by_cases hst : s = t.1
        · have e4 : (s.toList == t.1.toList) = true := by rw [hst]; simp
          have e5 : (x.toList == t.2.toList) = true := by rw [HR.out.2.1, hst, seen_one HR.out.1 ht]; simp
          clear hst ht hmem
          go_wp2_with fail
          go_quiet (fail)
          have X6 := Lib.hid (show Box (wr.drewN nq) tb _ _ _ _ from hX.out)
          have Y6 := Lib.hid (show Box (wr.drewN nq) fb _ _ _ _ from hY.out)
          have B6 := Lib.hid (below_drewN hB.out nq)
          have I6 := Lib.hid (IsPres.next hI.out (below_drewN (Below.refl wr.heap.size wr) nq))
          clear x0 x1 x2 y0 y1 y2 c0 c1 hX hY hB hI
          generalize wr.drewN nq = wd at X6 Y6 B6 I6 ⊢
          go_wp2_with fail
          go_roundw
          case rel => exact ⟨k + 1, by omega, by go_num, X6, Y6, I6, B6⟩
          case measure => simp [intOf]; omega
        · have e4 : (s.toList == t.1.toList) = false := bl_ne hst
          clear hst ht hmem
          go_wp2_with fail
          go_quiet (fail)
          have X6 := Lib.hid (show Box (wr.drewN nq) tb _ _ _ _ from hX.out)
          have Y6 := Lib.hid (show Box (wr.drewN nq) fb _ _ _ _ from hY.out)
          have B6 := Lib.hid (below_drewN hB.out nq)
          have I6 := Lib.hid (IsPres.next hI.out (below_drewN (Below.refl wr.heap.size wr) nq))
          clear x0 x1 x2 y0 y1 y2 c0 c1 hX hY hB hI
          generalize wr.drewN nq = wd at X6 Y6 B6 I6 ⊢
          go_wp2_with fail
          go_roundw
          case rel => exact ⟨k + 1, by omega, by go_num, X6, Y6, I6, B6⟩
          case measure => simp [intOf]; omega
      · obtain ⟨x0, x1, x2⟩ := hX.out.drew.cells
        obtain ⟨y0, y1, y2⟩ := hY.out.drew.cells
        go_wp2_with fail
        go_region_held3 (fun w' => w'.cell? ⟨tb, 0, none⟩ = some (.string s) ∧ w'.cell? ⟨tb, 1, none⟩ = some (.string p) ∧ w'.cell? ⟨tb, 2, none⟩ = some (.string o) ∧ w'.cell? ⟨fb, 0, none⟩ = some (.string x) ∧ w'.cell? ⟨fb, 1, none⟩ = some (.string y) ∧ w'.cell? ⟨fb, 2, none⟩ = some (.string z))
          (first | go_keep | (have QX := (hX.out.drew.next hb6).cells; have QY := (hY.out.drew.next hb6).cells; with_reducible exact ⟨QX.1, QX.2.1, QX.2.2, QY.1, QY.2.1, QY.2.2⟩))
          (first | (go_at_call 37; refine (HC4.out _ (IsPres.next hI.out (Below.refl _ _).drew)).mono ?_; rintro e w6 ⟨rfl, hb6⟩; have B6 := Lib.hid (hB.out.drew.trans (hb6.mono hB.out.size))))
        go_wp2_with fail
        go_ret
        exact ⟨rfl, B6.out⟩
end fnFilled
end Go.Proofs.Ytapcbhpkbdlinaa
