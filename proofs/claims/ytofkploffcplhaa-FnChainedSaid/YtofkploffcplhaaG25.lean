/- What is drawn for Chained: two patches between three graphs. -/
import Derived.Test.YtofkploffcplhaaG22
import Derived.Test.YtofkploffcplhaaG21
import Derived.Test.YtofkploffcplhaaG24
import Derived.Test.YtofkploffcplhaaG16
import Derived.Test.YtofkploffcplhaaG15
namespace Go.Proofs.Ytofkploffcplhaa
open Go.RowKit Go.WideShapes
theorem specPatchOfR {v u : Value} {ts us : List Tri3} {w : World} (h : GotG w v ts) (k : GotG w u us) : Calls Try.prog 16 #[v, u] w fun e w' => ∃ (ok : Bool) (x1 : Option Addr) (n1 c1 : Nat) (x2 : Option Addr) (n2 c2 : Nat) (d1 d2 : List Tri3), e = .returned (.tuple #[.agg #[.slice x1 n1 c1, .slice x2 n2 c2], .bool ok]) ∧ Holds w.heap.size w'.heap.size w' (Own2 w.heap.size w'.heap.size (.slice x1 n1 c1) (.slice x2 n2 c2) d1 d2) ∧ (SmG d1 ∧ SmG d2) ∧ Below w.heap.size w w' := by
  obtain ⟨x, c, rfl, hi, hp, hs⟩ := h
  obtain ⟨y, d, rfl, ki, kp, ks⟩ := k
  refine (specPatchOf x y _ c _ d ts us w hi ki hs.sm ks.sm (by have := hs.1; omega) (by have := ks.1; omega)).mono fun e w' g => ?_
  have s1 := (SmG.patchOf hs ks).1
  have s2 := (SmG.patchOf hs ks).2
  obtain ⟨v1, v2, he, ho, hb⟩ := g
  obtain ⟨x1, n1, c1, rfl⟩ := ownT_shapeD ho.now.1.1
  obtain ⟨x2, n2, c2, rfl⟩ := ownT_shapeD ho.now.2.1.1
  exact ⟨_, x1, n1, c1, x2, n2, c2, _, _, he, ho, ⟨s1, s2⟩, hb⟩
theorem rd_alloc {B g : Nat} {w : World} (h : Rd B w g) (o : Obj) : Rd B (w.alloc o) g := rd_far h ((Below.refl w.heap.size w).alloc (Nat.le_refl _) o)
set_option maxRecDepth 100000 in
set_option maxHeartbeats 6400000 in
theorem drawChained (w : World) (a : Option Addr) (len cap : Nat) (zs : List Int) (hrow : Frame.IsRow .u8 w a len cap zs) :
    Calls Try.prog 34 #[.slice a len cap] w fun e w' => ∃ (v1 v2 u1 u2 : Value) (d1 d2 e1 e2 : List Tri3), e = .returned (.tuple #[.agg #[v1, v2], .agg #[u1, u2]]) ∧ (GotG w' v1 d1 ∧ GotG w' v2 d2) ∧ (GotG w' u1 e1 ∧ GotG w' u2 e2) ∧ Below w.heap.size w w' := by
  obtain ⟨V0, hV0⟩ : ∃ W, w.alloc (.cells #[.slice none 0 0, .slice none 0 0] 29) = W := ⟨_, rfl⟩
  obtain ⟨V, hV⟩ : ∃ W, V0.alloc (.cells #[.slice none 0 0, .slice none 0 0] 29) = W := ⟨_, rfl⟩
  have z0 : V0.heap.size = w.heap.size + 1 := by rw [← hV0]; simp
  have z1 : V.heap.size = w.heap.size + 2 := by rw [← hV]; simp [z0]
  have BV : Hid (Below w.heap.size w V) := Lib.hid (by rw [← hV, ← hV0]; exact ((Below.refl w.heap.size w).alloc (Nat.le_refl _) _).alloc (by simp) _)
  have XV : Hid (Holds w.heap.size (w.heap.size + 1) V (Cells w.heap.size #[.slice none 0 0, .slice none 0 0] 29)) := Lib.hid (by
    have := (cells_new w #[.slice none 0 0, .slice none 0 0] 29).alloc (.cells #[.slice none 0 0, .slice none 0 0] 29)
    rw [hV0, hV] at this; exact this)
  have YV : Hid (Holds (w.heap.size + 1) (w.heap.size + 2) V (Cells (w.heap.size + 1) #[.slice none 0 0, .slice none 0 0] 29)) := Lib.hid (by
    have := cells_new V0 #[.slice none 0 0, .slice none 0 0] 29
    rw [hV, z0] at this; exact this)
  have hrV := isRow_grown hrow (grown_of_below (BV.out.mono (Nat.le_refl _)))
  have HV := Lib.hid (And.intro hV0 hV)
  have hzV := Lib.hid z1
  clear hV0 hV z0 z1 hrow
  go_enter Try.func34, Try.ntmps34
  go_wp2_with fail
  rw [HV.out.1, HV.out.2]
  refine (rdOpen _ _ _ _ _ hrV).mono ?_
  rintro e w1 ⟨rfl, r1, g1⟩
  clear hrV HV
  have hgC : V.heap.size < w1.heap.size := r1.2.1
  go_wp2_with fail
  refine (rdGraph _ _ _ r1 6 (by omega)).mono ?_
  rintro e w2 ⟨va, ts, rfl, s2, o2, r2, g2⟩
  have G2 := Lib.hid (grown_off g1 g2 (fun q e => by cases e; omega))
  have HS := Lib.hid s2
  have HO2 := Lib.hid o2
  have HM := Lib.hid (rdBelow _ _ _ r2 6 (by omega) (by omega))
  obtain ⟨xa, La, ya, rfl⟩ := ownT_shapeD o2
  clear g1 s2 o2 r1
  have hsz := g2.size
  clear g2
  go_wp2_with fail
  refine HM.out.mono ?_
  rintro e w3 ⟨m, hm0, hm1, rfl, r3, g3⟩
  have G3 := Lib.hid (grown_off G2.out g3 (fun q e => by cases e; omega))
  obtain ⟨m, rfl⟩ := Int.eq_ofNat_of_zero_le hm0
  have hm4 : m ≤ 6 := by omega
  have HA3 := Lib.hid (own_rd HO2.out g3 hgC (Nat.le_refl _))
  have HR3 := Lib.hid r3
  have hsz3 : w1.heap.size ≤ w3.heap.size := by have := g3.size; omega
  have HZ3 := Lib.hid hsz3
  clear g3 r3 HM HO2 G2 hm0 hm1 r2 hsz hsz3
  go_wp2_with fail
  go_loopw [6, 7, 8, 9, 10] (fun b c i _ _ wr => ∃ (j : Nat) (v : Value) (us : List Tri3) (v2 : Value) (us2 : List Tri3), j ≤ 6 ∧ i = .int .i64 j ∧ v = c ∧ v2 = b ∧ Hid (SmG us) ∧ Hid (SmG us2) ∧ Hid (OwnT w1.heap.size wr v us) ∧ Hid (OwnT w1.heap.size wr v2 us2) ∧ Hid (OwnT w1.heap.size wr (.slice xa La ya) ts) ∧ Hid (Rd V.heap.size wr V.heap.size) ∧ Hid (V.grownBy wr none) ∧ Hid (w1.heap.size ≤ wr.heap.size)) (fun _ _ i _ _ _ => (intOf i).toNat)
  case atStart => exact ⟨m, _, ts, _, ts, hm4, rfl, rfl, rfl, HS, HS, HA3, HA3, HA3, HR3, G3, HZ3⟩
  case round =>
    obtain ⟨j, v, us, v2, us2, hj, rfl, rfl, rfl, hsm, hsm2, hb, hd, ha, hrd, hg, hz0⟩ := hrel
    clear HA3 HR3 G3 hm4
    obtain ⟨x, L, y, rfl⟩ := ownT_shapeD hb.out
    obtain ⟨xd, Ld, yd, rfl⟩ := ownT_shapeD hd.out
    have HL := Lib.hid (ownT_lenD hb.out)
    have hL81 : L ≤ 81 := by have := hsm.out.1; have := HL.out; omega
    by_cases hj0 : 0 < j
    · have hj1 : (0 : Int) < (j : Int) := by omega
      have HT := Lib.hid (rdTriple _ _ wr hrd.out)
      go_wp2_with fail
      refine HT.out.mono ?_
      rintro e w2 ⟨s, p, o, hs, hp, ho, rfl, r2, g2⟩
      have G2 := Lib.hid (grown_off hg.out g2 (fun q e => by cases e; omega))
      have Z2 := Lib.hid (Nat.le_trans hz0.out g2.size)
      have HB2 := Lib.hid (own_rd hb.out g2 hgC (Nat.le_refl _))
      have HA2 := Lib.hid (own_rd ha.out g2 hgC (Nat.le_refl _))
      have HD2 := Lib.hid (own_rd hd.out g2 hgC (Nat.le_refl _))
      have HR2 := Lib.hid r2
      obtain ⟨x2, y2, hv2, i2, p2⟩ := OwnT.plain HB2.out hsm.out.maxLen
      rw [HL.out] at hv2 i2
      simp only [Value.slice.injEq, true_and] at hv2
      obtain ⟨rfl, rfl⟩ := hv2
      have C := specWith x L y us s p o w2 i2 p2 hsm.out.sm (by omega) (by omega) (by omega)
      have HW := (hsm.out.with_ (t := (s, p, o)) ⟨hs.2, hp, ho⟩).1
      obtain ⟨N3, hN3⟩ : ∃ l, (withT us (s, p, o)).getD [] = l := ⟨_, rfl⟩
      unfold ResPost at C
      rw [hN3] at C HW
      generalize (withT us (s, p, o)).isSome = ok at C
      have HC := Lib.hid C
      have HW3 := Lib.hid HW
      clear hrd hb ha hg g2 r2 i2 p2 C hN3 hs hp ho HT HW hd
      go_wp2_with fail
      refine HC.out.mono ?_
      rintro e w3 ⟨v3, rfl, o3, hb3⟩
      have G3 := Lib.hid (G2.out.trans (grown_of_below hb3))
      have HR3 := Lib.hid (rd_far HR2.out hb3)
      have Z3 := Lib.hid (Nat.le_trans Z2.out hb3.size)
      have HB3 := Lib.hid (own_next HB2.out (grown_of_below hb3))
      have HA3 := Lib.hid (own_next HA2.out (grown_of_below hb3))
      have HD3 := Lib.hid (own_next HD2.out (grown_of_below hb3))
      have HN3 := Lib.hid (own_base (B' := w1.heap.size) o3 Z2.out)
      obtain ⟨p3, q3, r3, rfl⟩ := ownT_shapeD HN3.out
      clear o3 hb3 HC G2 HR2 HB2 HA2 HD2
      by_cases hL0 : 0 < L
      · have hL1 : (0 : Int) < (L : Int) := by omega
        have HN := Lib.hid (rdOnce _ _ _ HR3.out 2 (by omega) (by omega))
        go_wp2_with fail
        refine HN.out.mono ?_
        rintro e w4 ⟨bb, rfl, r4, g4⟩
        have G4 := Lib.hid (grown_off G3.out g4 (fun q e => by cases e; omega))
        have Z4 := Lib.hid (Nat.le_trans Z3.out g4.size)
        have HB4 := Lib.hid (own_rd HB3.out g4 hgC (Nat.le_refl _))
        have HA4 := Lib.hid (own_rd HA3.out g4 hgC (Nat.le_refl _))
        have HD4 := Lib.hid (own_rd HD3.out g4 hgC (Nat.le_refl _))
        have HN4 := Lib.hid (own_rd HN3.out g4 hgC (Nat.le_refl _))
        have HR4 := Lib.hid r4
        clear HN r4 g4 G3 HB3 HA3 HN3 HR3 HD3
        cases bb
        · cases ok
          · have HO7 := Lib.hid (rdOnce _ _ _ HR4.out 3 (by omega) (by omega))
            go_wp2_with fail
            refine HO7.out.mono ?_
            rintro e w7 ⟨bc, rfl, r7, g7⟩
            have G7 := Lib.hid (grown_off G4.out g7 (fun q e => by cases e; omega))
            have Z7 := Lib.hid (Nat.le_trans Z4.out g7.size)
            have HC7 := Lib.hid (own_rd HB4.out g7 hgC (Nat.le_refl _))
            have HA7 := Lib.hid (own_rd HA4.out g7 hgC (Nat.le_refl _))
            have HD7 := Lib.hid (own_rd HD4.out g7 hgC (Nat.le_refl _))
            have HR7 := Lib.hid r7
            clear HO7 r7 g7
            cases bc
            · go_wp2_with fail
              go_roundw
              case rel => exact ⟨j - 1, _, us, _, us2, by omega, by rw [show ((j - 1 : Nat) : Int) = (j : Int) - 1 from by omega], rfl, rfl, hsm, hsm2, HC7, HD7, HA7, HR7, G7, Z7⟩
              case measure => simp [intOf]; omega
            · go_wp2_with fail
              go_roundw
              case rel => exact ⟨j - 1, _, us, _, us, by omega, by rw [show ((j - 1 : Nat) : Int) = (j : Int) - 1 from by omega], rfl, rfl, hsm, hsm, HC7, HC7, HA7, HR7, G7, Z7⟩
              case measure => simp [intOf]; omega
          · have HO7 := Lib.hid (rdOnce _ _ _ HR4.out 3 (by omega) (by omega))
            go_wp2_with fail
            refine HO7.out.mono ?_
            rintro e w7 ⟨bc, rfl, r7, g7⟩
            have G7 := Lib.hid (grown_off G4.out g7 (fun q e => by cases e; omega))
            have Z7 := Lib.hid (Nat.le_trans Z4.out g7.size)
            have HC7 := Lib.hid (own_rd HN4.out g7 hgC (Nat.le_refl _))
            have HA7 := Lib.hid (own_rd HA4.out g7 hgC (Nat.le_refl _))
            have HD7 := Lib.hid (own_rd HD4.out g7 hgC (Nat.le_refl _))
            have HR7 := Lib.hid r7
            clear HO7 r7 g7
            cases bc
            · go_wp2_with fail
              go_roundw
              case rel => exact ⟨j - 1, _, N3, _, us2, by omega, by rw [show ((j - 1 : Nat) : Int) = (j : Int) - 1 from by omega], rfl, rfl, HW3, hsm2, HC7, HD7, HA7, HR7, G7, Z7⟩
              case measure => simp [intOf]; omega
            · go_wp2_with fail
              go_roundw
              case rel => exact ⟨j - 1, _, N3, _, N3, by omega, by rw [show ((j - 1 : Nat) : Int) = (j : Int) - 1 from by omega], rfl, rfl, HW3, HW3, HC7, HC7, HA7, HR7, G7, Z7⟩
              case measure => simp [intOf]; omega
        · have HM := Lib.hid (rdBelow _ _ _ HR4.out (L : Int) (by omega) (by omega))
          go_wp2_with fail
          refine HM.out.mono ?_
          rintro e w5 ⟨m, hm0, hm1, rfl, r5, g5⟩
          obtain ⟨m, rfl⟩ := Int.eq_ofNat_of_zero_le hm0
          have hmL : m < L := by omega
          have G5 := Lib.hid (grown_off G4.out g5 (fun q e => by cases e; omega))
          have Z5 := Lib.hid (Nat.le_trans Z4.out g5.size)
          have HB5 := Lib.hid (own_rd HB4.out g5 hgC (Nat.le_refl _))
          have HA5 := Lib.hid (own_rd HA4.out g5 hgC (Nat.le_refl _))
          have HD5 := Lib.hid (own_rd HD4.out g5 hgC (Nat.le_refl _))
          have HR5 := Lib.hid r5
          obtain ⟨b1, off, u, rfl, c0, c1, c2, k0, k1, k2⟩ := pick_of HB5.out hsm.out HL.out hmL
          obtain ⟨x5, y5, hv5, i5, p5⟩ := OwnT.plain HB5.out hsm.out.maxLen
          rw [HL.out] at hv5 i5
          simp only [Value.slice.injEq, true_and] at hv5
          obtain ⟨rfl, rfl⟩ := hv5
          have C := specWithout _ L y us u.1 u.2.1 u.2.2 w5 i5 p5 hsm.out.sm (by omega) (by omega) (by omega)
          have HW := hsm.out.less (t := (u.1, u.2.1, u.2.2))
          obtain ⟨N6, hN6⟩ : ∃ l, (withoutT us (u.1, u.2.1, u.2.2)).getD [] = l := ⟨_, rfl⟩
          unfold ResPost at C
          rw [hN6] at C HW
          generalize (withoutT us (u.1, u.2.1, u.2.2)).isSome = ok2 at C
          have HC := Lib.hid C
          have HW6 := Lib.hid HW
          clear HM r5 g5 i5 p5 C HW hN6 k0 k1 k2 G4 HB4 HA4 HR4 HD4
          go_wp2_with fail
          refine HC.out.mono ?_
          rintro e w6 ⟨v6, rfl, o6, hb6⟩
          have G6 := Lib.hid (G5.out.trans (grown_of_below hb6))
          have HR6 := Lib.hid (rd_far HR5.out hb6)
          have Z6 := Lib.hid (Nat.le_trans Z5.out hb6.size)
          have HB6 := Lib.hid (own_next HB5.out (grown_of_below hb6))
          have HA6 := Lib.hid (own_next HA5.out (grown_of_below hb6))
          have HD6 := Lib.hid (own_next HD5.out (grown_of_below hb6))
          have HN6 := Lib.hid (own_base (B' := w1.heap.size) o6 Z5.out)
          obtain ⟨p6, q6, r6, rfl⟩ := ownT_shapeD HN6.out
          clear o6 hb6 HC c0 c1 c2 G5 HR5 HB5 HA5 HD5
          cases ok2
          · have HO7 := Lib.hid (rdOnce _ _ _ HR6.out 3 (by omega) (by omega))
            go_wp2_with fail
            refine HO7.out.mono ?_
            rintro e w7 ⟨bc, rfl, r7, g7⟩
            have G7 := Lib.hid (grown_off G6.out g7 (fun q e => by cases e; omega))
            have Z7 := Lib.hid (Nat.le_trans Z6.out g7.size)
            have HC7 := Lib.hid (own_rd HB6.out g7 hgC (Nat.le_refl _))
            have HA7 := Lib.hid (own_rd HA6.out g7 hgC (Nat.le_refl _))
            have HD7 := Lib.hid (own_rd HD6.out g7 hgC (Nat.le_refl _))
            have HR7 := Lib.hid r7
            clear HO7 r7 g7
            cases bc
            · go_wp2_with fail
              go_roundw
              case rel => exact ⟨j - 1, _, us, _, us2, by omega, by rw [show ((j - 1 : Nat) : Int) = (j : Int) - 1 from by omega], rfl, rfl, hsm, hsm2, HC7, HD7, HA7, HR7, G7, Z7⟩
              case measure => simp [intOf]; omega
            · go_wp2_with fail
              go_roundw
              case rel => exact ⟨j - 1, _, us, _, us, by omega, by rw [show ((j - 1 : Nat) : Int) = (j : Int) - 1 from by omega], rfl, rfl, hsm, hsm, HC7, HC7, HA7, HR7, G7, Z7⟩
              case measure => simp [intOf]; omega
          · have HO7 := Lib.hid (rdOnce _ _ _ HR6.out 3 (by omega) (by omega))
            go_wp2_with fail
            refine HO7.out.mono ?_
            rintro e w7 ⟨bc, rfl, r7, g7⟩
            have G7 := Lib.hid (grown_off G6.out g7 (fun q e => by cases e; omega))
            have Z7 := Lib.hid (Nat.le_trans Z6.out g7.size)
            have HC7 := Lib.hid (own_rd HN6.out g7 hgC (Nat.le_refl _))
            have HA7 := Lib.hid (own_rd HA6.out g7 hgC (Nat.le_refl _))
            have HD7 := Lib.hid (own_rd HD6.out g7 hgC (Nat.le_refl _))
            have HR7 := Lib.hid r7
            clear HO7 r7 g7
            cases bc
            · go_wp2_with fail
              go_roundw
              case rel => exact ⟨j - 1, _, N6, _, us2, by omega, by rw [show ((j - 1 : Nat) : Int) = (j : Int) - 1 from by omega], rfl, rfl, HW6, hsm2, HC7, HD7, HA7, HR7, G7, Z7⟩
              case measure => simp [intOf]; omega
            · go_wp2_with fail
              go_roundw
              case rel => exact ⟨j - 1, _, N6, _, N6, by omega, by rw [show ((j - 1 : Nat) : Int) = (j : Int) - 1 from by omega], rfl, rfl, HW6, HW6, HC7, HC7, HA7, HR7, G7, Z7⟩
              case measure => simp [intOf]; omega
      · obtain rfl : L = 0 := by omega
        cases ok
        · have HO7 := Lib.hid (rdOnce _ _ _ HR3.out 3 (by omega) (by omega))
          go_wp2_with fail
          refine HO7.out.mono ?_
          rintro e w7 ⟨bc, rfl, r7, g7⟩
          have G7 := Lib.hid (grown_off G3.out g7 (fun q e => by cases e; omega))
          have Z7 := Lib.hid (Nat.le_trans Z3.out g7.size)
          have HC7 := Lib.hid (own_rd HB3.out g7 hgC (Nat.le_refl _))
          have HA7 := Lib.hid (own_rd HA3.out g7 hgC (Nat.le_refl _))
          have HD7 := Lib.hid (own_rd HD3.out g7 hgC (Nat.le_refl _))
          have HR7 := Lib.hid r7
          clear HO7 r7 g7
          cases bc
          · go_wp2_with fail
            go_roundw
            case rel => exact ⟨j - 1, _, us, _, us2, by omega, by rw [show ((j - 1 : Nat) : Int) = (j : Int) - 1 from by omega], rfl, rfl, hsm, hsm2, HC7, HD7, HA7, HR7, G7, Z7⟩
            case measure => simp [intOf]; omega
          · go_wp2_with fail
            go_roundw
            case rel => exact ⟨j - 1, _, us, _, us, by omega, by rw [show ((j - 1 : Nat) : Int) = (j : Int) - 1 from by omega], rfl, rfl, hsm, hsm, HC7, HC7, HA7, HR7, G7, Z7⟩
            case measure => simp [intOf]; omega
        · have HO7 := Lib.hid (rdOnce _ _ _ HR3.out 3 (by omega) (by omega))
          go_wp2_with fail
          refine HO7.out.mono ?_
          rintro e w7 ⟨bc, rfl, r7, g7⟩
          have G7 := Lib.hid (grown_off G3.out g7 (fun q e => by cases e; omega))
          have Z7 := Lib.hid (Nat.le_trans Z3.out g7.size)
          have HC7 := Lib.hid (own_rd HN3.out g7 hgC (Nat.le_refl _))
          have HA7 := Lib.hid (own_rd HA3.out g7 hgC (Nat.le_refl _))
          have HD7 := Lib.hid (own_rd HD3.out g7 hgC (Nat.le_refl _))
          have HR7 := Lib.hid r7
          clear HO7 r7 g7
          cases bc
          · go_wp2_with fail
            go_roundw
            case rel => exact ⟨j - 1, _, N3, _, us2, by omega, by rw [show ((j - 1 : Nat) : Int) = (j : Int) - 1 from by omega], rfl, rfl, HW3, hsm2, HC7, HD7, HA7, HR7, G7, Z7⟩
            case measure => simp [intOf]; omega
          · go_wp2_with fail
            go_roundw
            case rel => exact ⟨j - 1, _, N3, _, N3, by omega, by rw [show ((j - 1 : Nat) : Int) = (j : Int) - 1 from by omega], rfl, rfl, HW3, HW3, HC7, HC7, HA7, HR7, G7, Z7⟩
            case measure => simp [intOf]; omega
    · obtain rfl : j = 0 := by omega
      have hbel := below_of_grown hg.out
      have B0 := Lib.hid (BV.out.trans (hbel.mono BV.out.size))
      have X0 := Lib.hid (XV.out.next hbel)
      have Y0 := Lib.hid (YV.out.next hbel)
      have HA0 := Lib.hid (got_of ha.out HS.out)
      have HB0 := Lib.hid (got_of hd.out hsm2.out)
      have HC0 := Lib.hid (got_of hb.out hsm.out)
      have RR0 := hrd
      have q0 : w.heap.size + 2 ≤ wr.heap.size ∧ V.heap.size < wr.heap.size := by have := hz0.out; have := hzV.out; omega
      clear hbel BV XV YV ha hd hb hrd hg HL hL81 hsm hsm2 HS hz0 hj hj0
      have CP := Lib.hid (specPatchOfR HA0.out HB0.out)
      go_wp2_with fail
      refine CP.out.mono ?_
      rintro e w8 ⟨okP, x1P, n1P, k1P, x2P, n2P, k2P, d1P, d2P, rfl, ho, hs, hb⟩
      clear HA0
      have qP := hb.size
      have B1 := Lib.hid (B0.out.trans (hb.mono B0.out.size))
      have X1 := Lib.hid (X0.out.next hb)
      have Y1 := Lib.hid (Y0.out.next hb)
      have HB1 := Lib.hid (HB0.out.next hb)
      have HC1 := Lib.hid (HC0.out.next hb)
      clear B0 X0 Y0 HB0 HC0
      have RR1 := Lib.hid (rd_far RR0.out hb)
      clear RR0
      have SP1 := Lib.hid (ho)
      have HSP := Lib.hid hs
      clear ho hs hb CP
      have B2 := Lib.hid (B1.out.alloc B1.out.size (.cells #[.slice x1P n1P k1P, .slice x2P n2P k2P] 29))
      have X2 := Lib.hid (X1.out.alloc (.cells #[.slice x1P n1P k1P, .slice x2P n2P k2P] 29))
      have Y2 := Lib.hid (Y1.out.alloc (.cells #[.slice x1P n1P k1P, .slice x2P n2P k2P] 29))
      have HB2 := Lib.hid (HB1.out.alloc (.cells #[.slice x1P n1P k1P, .slice x2P n2P k2P] 29))
      have HC2 := Lib.hid (HC1.out.alloc (.cells #[.slice x1P n1P k1P, .slice x2P n2P k2P] 29))
      have SP2 := Lib.hid (SP1.out.alloc (.cells #[.slice x1P n1P k1P, .slice x2P n2P k2P] 29))
      clear B1 X1 Y1 HB1 HC1 SP1
      have RR2 := Lib.hid (rd_alloc RR1.out (.cells #[.slice x1P n1P k1P, .slice x2P n2P k2P] 29))
      clear RR1
      have KP2 := Lib.hid (cells_new w8 #[.slice x1P n1P k1P, .slice x2P n2P k2P] 29)
      have CQ := Lib.hid (specPatchOfR HB2.out HC2.out)
      go_wp2_with fail
      generalize hV8 : (w8.alloc (.cells #[.slice x1P n1P k1P, .slice x2P n2P k2P] 29)) = v8 at B2 RR2 CQ X2 Y2 HB2 HC2 SP2 KP2 ⊢
      have q8 : w8.heap.size + 1 = v8.heap.size := by rw [← hV8]; simp
      clear hV8
      refine CQ.out.mono ?_
      rintro e w9 ⟨okQ, x1Q, n1Q, k1Q, x2Q, n2Q, k2Q, d1Q, d2Q, rfl, ho, hs, hb⟩
      clear HB2
      clear HC2
      have qQ := hb.size
      have B3 := Lib.hid (B2.out.trans (hb.mono B2.out.size))
      have X3 := Lib.hid (X2.out.next hb)
      have Y3 := Lib.hid (Y2.out.next hb)
      have SP3 := Lib.hid (SP2.out.next hb)
      have KP3 := Lib.hid (KP2.out.next hb)
      clear B2 X2 Y2 SP2 KP2
      have RR3 := Lib.hid (rd_far RR2.out hb)
      clear RR2
      have SQ3 := Lib.hid (ho)
      have HSQ := Lib.hid hs
      clear ho hs hb CQ
      have B4 := Lib.hid (B3.out.alloc B3.out.size (.cells #[.slice x1Q n1Q k1Q, .slice x2Q n2Q k2Q] 29))
      have X4 := Lib.hid (X3.out.alloc (.cells #[.slice x1Q n1Q k1Q, .slice x2Q n2Q k2Q] 29))
      have Y4 := Lib.hid (Y3.out.alloc (.cells #[.slice x1Q n1Q k1Q, .slice x2Q n2Q k2Q] 29))
      have SP4 := Lib.hid (SP3.out.alloc (.cells #[.slice x1Q n1Q k1Q, .slice x2Q n2Q k2Q] 29))
      have KP4 := Lib.hid (KP3.out.alloc (.cells #[.slice x1Q n1Q k1Q, .slice x2Q n2Q k2Q] 29))
      have SQ4 := Lib.hid (SQ3.out.alloc (.cells #[.slice x1Q n1Q k1Q, .slice x2Q n2Q k2Q] 29))
      clear B3 X3 Y3 SP3 KP3 SQ3
      have RR4 := Lib.hid (rd_alloc RR3.out (.cells #[.slice x1Q n1Q k1Q, .slice x2Q n2Q k2Q] 29))
      clear RR3
      have KQ4 := Lib.hid (cells_new w9 #[.slice x1Q n1Q k1Q, .slice x2Q n2Q k2Q] 29)
      go_wp2_with fail
      generalize hV9 : (w9.alloc (.cells #[.slice x1Q n1Q k1Q, .slice x2Q n2Q k2Q] 29)) = v9 at B4 RR4 X4 Y4 SP4 KP4 SQ4 KQ4 ⊢
      have q9 : w9.heap.size + 1 = v9.heap.size := by rw [← hV9]; simp
      clear hV9
      have HO := rdOnce _ _ _ RR4.out 12 (by omega) (by omega)
      refine HO.mono ?_
      rintro e w10 ⟨bc, rfl, r10, g10⟩
      have HT : Turn V.heap.size (V.heap.size + 1) v9 w10 := .of_grown g10 (fun j h => by cases h; omega)
      have hzv := hzV.out
      have B5 := Lib.hid (B4.out.trans (HT.below B4.out.size (by omega)))
      have X5 := Lib.hid (X4.out.step HT (.inl (by omega)))
      have Y5 := Lib.hid (Y4.out.step HT (.inl (by omega)))
      have SP5 := Lib.hid (SP4.out.step HT (.inr (by omega)))
      have KP5 := Lib.hid (KP4.out.step HT (.inr (by omega)))
      have SQ5 := Lib.hid (SQ4.out.step HT (.inr (by omega)))
      have KQ5 := Lib.hid (KQ4.out.step HT (.inr (by omega)))
      have q10 := g10.size
      clear B4 X4 Y4 SP4 KP4 SQ4 KQ4
      clear HT r10 g10 HO RR4
      cases bc
      · go_wp2_with fail
        have B6 := Lib.hid B5.out.drew
        have X6 := Lib.hid X5.out.drew
        have Y6 := Lib.hid Y5.out.drew
        have SP6 := Lib.hid SP5.out.drew
        have SQ6 := Lib.hid SQ5.out.drew
        have KP6 := Lib.hid KP5.out.drew
        have KQ6 := Lib.hid KQ5.out.drew
        clear B5 X5 Y5 SP5 SQ5 KP5 KQ5
        refine wp_region_held_drew (S := (fun w' => (w'.cell? ⟨w8.heap.size, 0, none⟩ = some (.slice x1P n1P k1P) ∧ w'.cell? ⟨w8.heap.size, 1, none⟩ = some (.slice x2P n2P k2P)) ∧ (w'.cell? ⟨w9.heap.size, 0, none⟩ = some (.slice x1Q n1Q k1Q) ∧ w'.cell? ⟨w9.heap.size, 1, none⟩ = some (.slice x2Q n2Q k2Q)))) (by kernel_rfl) ?_ (fun hHeld => ?_)
        · exact ⟨KP6.out.now.two, KQ6.out.now.two⟩
        generalize hU0 : w10.drew = U0 at B6 X6 Y6 SP6 SQ6 KP6 KQ6 hHeld ⊢
        clear hU0
        refine wpAnyH_take (i := 0) (v := ?_) rfl (by kernel_rfl) (by kernel_rfl) (by kernel_rfl) (fun _ _ _ h => h) (Or.inl ⟨by kernel_rfl, ?_⟩) (by assumption) ?_
        rotate_left
        · intro w hSw; (try dsimp only at hSw); go_simp; try with_reducible rfl
        refine wpAnyH_take (i := 1) (v := ?_) rfl (by kernel_rfl) (by kernel_rfl) (by kernel_rfl) (fun _ _ _ h => h) (Or.inl ⟨by kernel_rfl, ?_⟩) (by assumption) ?_
        rotate_left
        · intro w hSw; (try dsimp only at hSw); go_simp; try with_reducible rfl
        refine wpAnyH_ready (rs := [2]) (by kernel_rfl) (by simp) ?_
        refine AllReadyH.cons rfl (fun KK hK => ?_) AllReadyH.nil
        obtain ⟨y0, y1⟩ := X6.out.now.two
        obtain ⟨f0, f1⟩ := X6.out.now.frees
        clear hHeld
        go_simp
        have TS := turn_set2 U0 w.heap.size (.slice x1P n1P k1P) (.slice x2P n2P k2P)
        have X7 := Lib.hid (cells_set2 X6.out (.slice x1P n1P k1P) (.slice x2P n2P k2P))
        have Y7 := Lib.hid (Y6.out.step TS (.inr (by omega)))
        have SP7 := Lib.hid (SP6.out.step TS (.inr (by omega)))
        have SQ7 := Lib.hid (SQ6.out.step TS (.inr (by omega)))
        have KP7 := Lib.hid (KP6.out.step TS (.inr (by omega)))
        have KQ7 := Lib.hid (KQ6.out.step TS (.inr (by omega)))
        have B7 := Lib.hid (below_two B6.out w.heap.size (by omega) (.slice x1P n1P k1P) (.slice x2P n2P k2P))
        clear TS
        clear B6 X6 Y6 SP6 SQ6 KP6 KQ6
        refine hK.out _ _ ?_ (fun hHeld => ?_)
        · exact ⟨KP7.out.now.two, KQ7.out.now.two⟩
        clear hK KK y0 y1 f0 f1
        generalize hU : World.setCell _ _ _ = U1 at B7 X7 Y7 SP7 SQ7 KP7 KQ7 hHeld ⊢
        clear hU
        refine wpAnyH_ready (rs := [3]) (by kernel_rfl) (by simp) ?_
        refine AllReadyH.cons rfl (fun KK hK => ?_) AllReadyH.nil
        obtain ⟨y0, y1⟩ := Y7.out.now.two
        obtain ⟨f0, f1⟩ := Y7.out.now.frees
        clear hHeld
        go_simp
        have TS := turn_set2 U1 (w.heap.size + 1) (.slice x1Q n1Q k1Q) (.slice x2Q n2Q k2Q)
        have X8 := Lib.hid (X7.out.step TS (.inl (by omega)))
        have Y8 := Lib.hid (cells_set2 Y7.out (.slice x1Q n1Q k1Q) (.slice x2Q n2Q k2Q))
        have SP8 := Lib.hid (SP7.out.step TS (.inr (by omega)))
        have SQ8 := Lib.hid (SQ7.out.step TS (.inr (by omega)))
        have KP8 := Lib.hid (KP7.out.step TS (.inr (by omega)))
        have KQ8 := Lib.hid (KQ7.out.step TS (.inr (by omega)))
        have B8 := Lib.hid (below_two B7.out (w.heap.size + 1) (by omega) (.slice x1Q n1Q k1Q) (.slice x2Q n2Q k2Q))
        clear TS
        clear B7 X7 Y7 SP7 SQ7 KP7 KQ7
        refine hK.out _ _ ?_ (fun hHeld => ?_)
        · exact ⟨KP8.out.now.two, KQ8.out.now.two⟩
        clear hK KK y0 y1 f0 f1
        generalize hU : World.setCell _ _ _ = U2 at B8 X8 Y8 SP8 SQ8 KP8 KQ8 hHeld ⊢
        clear hU
        refine wpAnyH_done (by kernel_rfl) ?_ _
        try simp only [Act.put, List.setIfInBounds_toArray, List.set_cons_zero, List.set_cons_succ, List.getElem_toArray, List.getElem_cons_zero, List.getElem_cons_succ]
        clear hHeld
        obtain ⟨x0, x1⟩ := X8.out.now.two
        obtain ⟨y0, y1⟩ := Y8.out.now.two
        go_wp2_with fail
        refine bodyPost_ret (v := .tuple #[.agg #[.slice x1P n1P k1P, .slice x2P n2P k2P], .agg #[.slice x1Q n1Q k1Q, .slice x2Q n2Q k2Q]]) (by simp [results, Try.results34, go_sem, *]) rfl ⟨_, _, _, _, _, _, _, _, rfl, ⟨got_of SP8.out.now.1.1 HSP.out.1, got_of SP8.out.now.2.1.1 HSP.out.2⟩, ⟨got_of SQ8.out.now.1.1 HSQ.out.1, got_of SQ8.out.now.2.1.1 HSQ.out.2⟩, B8.out⟩
      · go_wp2_with fail
        have B6 := Lib.hid B5.out.drew
        have X6 := Lib.hid X5.out.drew
        have Y6 := Lib.hid Y5.out.drew
        have SP6 := Lib.hid SP5.out.drew
        have SQ6 := Lib.hid SQ5.out.drew
        have KP6 := Lib.hid KP5.out.drew
        have KQ6 := Lib.hid KQ5.out.drew
        clear B5 X5 Y5 SP5 SQ5 KP5 KQ5
        refine wp_region_held_drew (S := (fun w' => (w'.cell? ⟨w8.heap.size, 0, none⟩ = some (.slice x1P n1P k1P) ∧ w'.cell? ⟨w8.heap.size, 1, none⟩ = some (.slice x2P n2P k2P)) ∧ (w'.cell? ⟨w9.heap.size, 0, none⟩ = some (.slice x1Q n1Q k1Q) ∧ w'.cell? ⟨w9.heap.size, 1, none⟩ = some (.slice x2Q n2Q k2Q)))) (by kernel_rfl) ?_ (fun hHeld => ?_)
        · exact ⟨KP6.out.now.two, KQ6.out.now.two⟩
        generalize hU0 : w10.drew = U0 at B6 X6 Y6 SP6 SQ6 KP6 KQ6 hHeld ⊢
        clear hU0
        refine wpAnyH_take (i := 0) (v := ?_) rfl (by kernel_rfl) (by kernel_rfl) (by kernel_rfl) (fun _ _ _ h => h) (Or.inl ⟨by kernel_rfl, ?_⟩) (by assumption) ?_
        rotate_left
        · intro w hSw; (try dsimp only at hSw); go_simp; try with_reducible rfl
        refine wpAnyH_take (i := 1) (v := ?_) rfl (by kernel_rfl) (by kernel_rfl) (by kernel_rfl) (fun _ _ _ h => h) (Or.inl ⟨by kernel_rfl, ?_⟩) (by assumption) ?_
        rotate_left
        · intro w hSw; (try dsimp only at hSw); go_simp; try with_reducible rfl
        refine wpAnyH_ready (rs := [2]) (by kernel_rfl) (by simp) ?_
        refine AllReadyH.cons rfl (fun KK hK => ?_) AllReadyH.nil
        obtain ⟨y0, y1⟩ := X6.out.now.two
        obtain ⟨f0, f1⟩ := X6.out.now.frees
        clear hHeld
        go_simp
        have TS := turn_set2 U0 w.heap.size (.slice x1Q n1Q k1Q) (.slice x2Q n2Q k2Q)
        have X7 := Lib.hid (cells_set2 X6.out (.slice x1Q n1Q k1Q) (.slice x2Q n2Q k2Q))
        have Y7 := Lib.hid (Y6.out.step TS (.inr (by omega)))
        have SP7 := Lib.hid (SP6.out.step TS (.inr (by omega)))
        have SQ7 := Lib.hid (SQ6.out.step TS (.inr (by omega)))
        have KP7 := Lib.hid (KP6.out.step TS (.inr (by omega)))
        have KQ7 := Lib.hid (KQ6.out.step TS (.inr (by omega)))
        have B7 := Lib.hid (below_two B6.out w.heap.size (by omega) (.slice x1Q n1Q k1Q) (.slice x2Q n2Q k2Q))
        clear TS
        clear B6 X6 Y6 SP6 SQ6 KP6 KQ6
        refine hK.out _ _ ?_ (fun hHeld => ?_)
        · exact ⟨KP7.out.now.two, KQ7.out.now.two⟩
        clear hK KK y0 y1 f0 f1
        generalize hU : World.setCell _ _ _ = U1 at B7 X7 Y7 SP7 SQ7 KP7 KQ7 hHeld ⊢
        clear hU
        refine wpAnyH_ready (rs := [3]) (by kernel_rfl) (by simp) ?_
        refine AllReadyH.cons rfl (fun KK hK => ?_) AllReadyH.nil
        obtain ⟨y0, y1⟩ := Y7.out.now.two
        obtain ⟨f0, f1⟩ := Y7.out.now.frees
        clear hHeld
        go_simp
        have TS := turn_set2 U1 (w.heap.size + 1) (.slice x1P n1P k1P) (.slice x2P n2P k2P)
        have X8 := Lib.hid (X7.out.step TS (.inl (by omega)))
        have Y8 := Lib.hid (cells_set2 Y7.out (.slice x1P n1P k1P) (.slice x2P n2P k2P))
        have SP8 := Lib.hid (SP7.out.step TS (.inr (by omega)))
        have SQ8 := Lib.hid (SQ7.out.step TS (.inr (by omega)))
        have KP8 := Lib.hid (KP7.out.step TS (.inr (by omega)))
        have KQ8 := Lib.hid (KQ7.out.step TS (.inr (by omega)))
        have B8 := Lib.hid (below_two B7.out (w.heap.size + 1) (by omega) (.slice x1P n1P k1P) (.slice x2P n2P k2P))
        clear TS
        clear B7 X7 Y7 SP7 SQ7 KP7 KQ7
        refine hK.out _ _ ?_ (fun hHeld => ?_)
        · exact ⟨KP8.out.now.two, KQ8.out.now.two⟩
        clear hK KK y0 y1 f0 f1
        generalize hU : World.setCell _ _ _ = U2 at B8 X8 Y8 SP8 SQ8 KP8 KQ8 hHeld ⊢
        clear hU
        refine wpAnyH_done (by kernel_rfl) ?_ _
        try simp only [Act.put, List.setIfInBounds_toArray, List.set_cons_zero, List.set_cons_succ, List.getElem_toArray, List.getElem_cons_zero, List.getElem_cons_succ]
        clear hHeld
        obtain ⟨x0, x1⟩ := X8.out.now.two
        obtain ⟨y0, y1⟩ := Y8.out.now.two
        go_wp2_with fail
        refine bodyPost_ret (v := .tuple #[.agg #[.slice x1Q n1Q k1Q, .slice x2Q n2Q k2Q], .agg #[.slice x1P n1P k1P, .slice x2P n2P k2P]]) (by simp [results, Try.results34, go_sem, *]) rfl ⟨_, _, _, _, _, _, _, _, rfl, ⟨got_of SQ8.out.now.1.1 HSQ.out.1, got_of SQ8.out.now.2.1.1 HSQ.out.2⟩, ⟨got_of SP8.out.now.1.1 HSP.out.1, got_of SP8.out.now.2.1.1 HSP.out.2⟩, B8.out⟩
end Go.Proofs.Ytofkploffcplhaa
/- With and Without at slices that are held by their triples, and what holds of the two together. -/
namespace Go.Proofs.Ytofkploffcplhaa
open Go.RowKit Go.WideShapes
theorem implWithG {v : Value} {ts : List Tri3} {w : World} (h : GotG w v ts) {s p o : ByteArray} (hs : s.size ≤ 20) (hp : p.size ≤ 20) (ho : o.size ≤ 20) : Calls Try.prog 36 #[v, .agg #[.string s, .string p, .string o]] w (GotRes (withT ts (s, p, o)) w) := by
  obtain ⟨x, c, rfl, hi, hp', hsm⟩ := h
  exact (implWith x _ c ts s p o w hi hsm.sm (by omega) (by omega) (by omega)).mono fun e w' g => gotRes (hsm.with_ (t := (s, p, o)) ⟨hs, hp, ho⟩).1 g
theorem specWithG {v : Value} {ts : List Tri3} {w : World} (h : GotG w v ts) {s p o : ByteArray} (hs : s.size ≤ 20) (hp : p.size ≤ 20) (ho : o.size ≤ 20) : Calls Try.prog 55 #[v, .agg #[.string s, .string p, .string o]] w (GotRes (withT ts (s, p, o)) w) := by
  obtain ⟨x, c, rfl, hi, hp', hsm⟩ := h
  exact (specWith x _ c ts s p o w hi hp' hsm.sm (by omega) (by omega) (by omega)).mono fun e w' g => gotRes (hsm.with_ (t := (s, p, o)) ⟨hs, hp, ho⟩).1 g
theorem specWithoutG {v : Value} {ts : List Tri3} {w : World} (h : GotG w v ts) {s p o : ByteArray} (hs : s.size ≤ 20) (hp : p.size ≤ 20) (ho : o.size ≤ 20) : Calls Try.prog 58 #[v, .agg #[.string s, .string p, .string o]] w (GotRes (withoutT ts (s, p, o)) w) := by
  obtain ⟨x, c, rfl, hi, hp', hsm⟩ := h
  exact (specWithout x _ c ts s p o w hi hp' hsm.sm (by omega) (by omega) (by omega)).mono fun e w' g => gotRes hsm.less g
theorem GotG.shape {w : World} {v : Value} {ts : List Tri3} (h : GotG w v ts) : ∃ x c, v = .slice x ts.length c := by
  obtain ⟨x, c, hv, _⟩ := h
  exact ⟨x, c, hv⟩
theorem with_twice {ts n : List Tri3} {t : Tri3} (h : withT ts t = some n) : withT n t = some n := by
  obtain ⟨h1, h2, rfl, h4⟩ := withT_some h
  have e : putT (putT ts t) t = putT ts t := eq_of_rising (putT_rising (graphOk_rising h4)) (graphOk_rising h4) (fun u => by rw [putT_mem, putT_mem]; exact ⟨fun c => c.elim .inl id, .inr⟩)
  unfold withT
  rw [e, if_pos ⟨h4, h2, graphOk_len h4⟩]
theorem with_swap {ts n x m : List Tri3} {t u : Tri3} (h : withT ts t = some n) (hx : withT n u = some x) (hm : withT ts u = some m) : withT m t = some x := by
  obtain ⟨h1, h2, rfl, h4⟩ := withT_some h
  obtain ⟨x1, x2, rfl, x4⟩ := withT_some hx
  obtain ⟨m1, m2, rfl, m4⟩ := withT_some hm
  have e : putT (putT ts u) t = putT (putT ts t) u := eq_of_rising (putT_rising (graphOk_rising m4)) (graphOk_rising x4) (fun v => by
    simp only [putT_mem]
    exact ⟨fun c => by rcases c with c | c | c <;> simp [c], fun c => by rcases c with c | c | c <;> simp [c]⟩)
  unfold withT
  rw [e, if_pos ⟨m4, h2, graphOk_len x4⟩]
theorem with_less {ts h : List Tri3} {t : Tri3} (e : withT ts t = some h) : withoutT h t = some (lessT h t) ∧ t ∈ h ∧ h.length ≤ ts.length + 1 ∧ (lessT h t).length + 1 = h.length ∧ (∀ u ∈ ts, u ∈ h) ∧ (∀ u ∈ lessT h t, u ∈ ts) ∧ t ∉ lessT h t ∧ graphOk h = true := by
  obtain ⟨h1, h2, rfl, h4⟩ := withT_some e
  have hm : t ∈ putT ts t := putT_mem.2 (.inl rfl)
  refine ⟨by unfold withoutT; rw [if_pos ⟨h4, hm⟩], hm, putT_len ts t, lessT_len_mem (graphOk_rising h4).nodup hm, fun u hu => putT_mem.2 (.inr hu), fun u hu => ?_, fun c => (lessT_mem.1 c).1 rfl, h4⟩
  obtain ⟨a, b⟩ := lessT_mem.1 hu
  exact (putT_mem.1 b).resolve_left a
theorem without_back {ts h : List Tri3} {t : Tri3} (e : withoutT ts t = some h) : withT h t = some ts ∧ t ∉ h ∧ (∀ u ∈ h, u ∈ ts) ∧ graphOk h = true := by
  obtain ⟨h1, h2, rfl, h4⟩ := withoutT_some e
  have e2 : putT (lessT ts t) t = ts := eq_of_rising (putT_rising (graphOk_rising h4)) (graphOk_rising h1) (fun u => by
    rw [putT_mem, lessT_mem]
    constructor
    · rintro (rfl | ⟨_, c⟩)
      · exact h2
      · exact c
    · intro c
      by_cases g : u = t
      · exact .inl g
      · exact .inr ⟨g, c⟩)
  refine ⟨?_, fun c => (lessT_mem.1 c).1 rfl, fun u hu => (lessT_mem.1 hu).2, h4⟩
  unfold withT
  rw [e2, if_pos ⟨h4, graphOk_okT h1 t h2, graphOk_len h1⟩]
end Go.Proofs.Ytofkploffcplhaa
