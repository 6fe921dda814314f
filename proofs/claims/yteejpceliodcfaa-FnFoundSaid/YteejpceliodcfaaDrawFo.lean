/- A drawn store, and a drawn pattern to be found in it. -/
import Derived.Test.YteejpceliodcfaaGotS
import Derived.RegionTactic
namespace Go.Proofs.Yteejpceliodcfaa
open Go.RowKit Go.WideShapes
theorem own_off {B g : Nat} {w : World} {v : Value} {ts : List Tri3} (h : OwnT B w v ts) (hg : g < B) (i : Nat) (u : Value) : OwnT B (w.setCell ⟨g, i, none⟩ u) v ts := by
  refine World.ownsRow.kept h (row := some g) ⟨rfl, rfl, rfl, by simp [World.setCell], fun k _ hne => Below.heap_setCell _ _ _ _ (fun e => hne (by rw [e]))⟩ ?_
  rcases hv : v.ownBlock with _ | q
  · exact .inl rfl
  · refine .inr fun e => ?_
    have := (World.ownsRow.lt h q hv).1
    cases e
    omega
/-- One of the triples, and its cells. -/
theorem pick_of {B L : Nat} {w : World} {x : Option Addr} {y : Nat} {ts : List Tri3} (h : OwnT B w (.slice x L y) ts) (hs : SmG ts) (hL : ts.length = L) {m : Nat} (hm : m < L) :
    ∃ (b off : Nat) (u : Tri3), x = some ⟨b, off, none⟩ ∧ w.cell? ⟨b, off + m * 3, none⟩ = some (.string u.1) ∧ w.cell? ⟨b, off + m * 3 + 1, none⟩ = some (.string u.2.1) ∧ w.cell? ⟨b, off + m * 3 + 2, none⟩ = some (.string u.2.2) ∧ u.1.size ≤ 20 ∧ u.2.1.size ≤ 20 ∧ u.2.2.size ≤ 20 := by
  obtain ⟨x2, y2, hv, i2⟩ := h.is hs.maxLen
  rw [hL] at hv i2
  simp only [Value.slice.injEq, true_and] at hv
  obtain ⟨rfl, rfl⟩ := hv
  obtain ⟨b1, off, rfl, _, _, _, hts, hcs⟩ := i2.cells (by omega)
  have ht : ts[m]? = some (ts[m]'(by omega)) := List.getElem?_eq_getElem (by omega)
  obtain ⟨c0, c1, c2, _⟩ := hcs m _ ht
  exact ⟨b1, off, _, rfl, c0, c1, c2, hs.2 _ (List.mem_of_getElem? ht)⟩
theorem own3_off {B g : Nat} {w w' : World} {v1 v2 v3 : Value} {t1 t2 t3 : List Tri3} (h : Own3 B w v1 v2 v3 t1 t2 t3) (hg : w.grownBy w' (some g)) (hlt : g < B) : Own3 B w' v1 v2 v3 t1 t2 t3 :=
  Own3.kept (u := .slice (some ⟨g, 0, none⟩) 0 0) h hg (fun j hj => by simp [Value.ownBlock] at hj; omega)
set_option maxRecDepth 100000 in
set_option maxHeartbeats 6400000 in
theorem drawFound (w : World) (a : Option Addr) (len cap : Nat) (zs : List Int) (hrow : Frame.IsRow .u8 w a len cap zs) :
    Calls Try.prog 30 #[.slice a len cap] w fun e w' => ∃ (v1 v2 v3 : Value) (t1 t2 t3 : List Tri3) (s p o : ByteArray), e = .returned (.tuple #[.agg #[v1, v2, v3], .agg #[.string s, .string p, .string o]]) ∧ Got3 w' v1 v2 v3 t1 t2 t3 ∧ s.size ≤ 20 ∧ p.size ≤ 20 ∧ o.size ≤ 20 ∧ w.grownBy w' none := by
  obtain ⟨W1, hW1⟩ : ∃ W, (w.alloc (.cells #[.slice none 0 0, .slice none 0 0, .slice none 0 0] 39)).alloc (.cells #[.string ⟨#[]⟩, .string ⟨#[]⟩, .string ⟨#[]⟩] 46) = W := ⟨_, rfl⟩
  have X0 : Box W1 w.heap.size (.slice none 0 0) (.slice none 0 0) (.slice none 0 0) 39 := by rw [← hW1]; exact (Box.new w _ _ _ _).alloc _
  have Y0 : Box W1 (w.heap.size + 1) (.string ⟨#[]⟩) (.string ⟨#[]⟩) (.string ⟨#[]⟩) 46 := by
    rw [← hW1]; have := Box.new (w.alloc (.cells #[.slice none 0 0, .slice none 0 0, .slice none 0 0] 39)) (.string ⟨#[]⟩) (.string ⟨#[]⟩) (.string ⟨#[]⟩) 46
    rwa [World.size_alloc] at this
  have G0 : w.grownBy W1 none := by rw [← hW1]; exact (World.grownBy_alloc _ _ none).trans (World.grownBy_alloc _ _ none)
  have hz : W1.heap.size = w.heap.size + 2 := by rw [← hW1]; simp
  go_enter Try.func30, Try.ntmps30
  go_wp2_with fail
  try rw [hW1]
  clear hW1
  refine (rdOpen _ _ _ _ _ (isRow_grown hrow G0)).mono ?_
  rintro e w1 ⟨rfl, r1, g1⟩
  have X1 := X0.grown g1 (by simp)
  have Y1 := Y0.grown g1 (by simp)
  have G1 := G0.trans g1
  have hlt := r1.2.1
  clear g1 X0 Y0 G0 hrow
  obtain ⟨g, hg⟩ : ∃ g, W1.heap.size = g := ⟨_, rfl⟩
  rw [hg] at r1 hlt hz ⊢
  have hz1 : w.heap.size + 2 ≤ g := by omega
  clear hg hz
  go_wp2_with fail
  refine (rdGraph _ _ _ r1 8 (by omega)).mono ?_
  rintro e w2 ⟨v, ts, rfl, s2, o2, r2, g2⟩
  have X2 := X1.grown g2 (by simp; omega)
  have Y2 := Y1.grown g2 (by simp; omega)
  have G2 : w.grownBy w2 none := grown_off G1 g2 (fun q e => by cases e; omega)
  have hz2 := g2.size
  obtain ⟨x, y, rfl, i2, p2⟩ := OwnT.plain o2 s2.maxLen
  obtain ⟨L, hL⟩ : ∃ L, ts.length = L := ⟨_, rfl⟩
  rw [hL] at i2 o2 ⊢
  have hL81 : L ≤ 81 := by have := s2.1; omega
  have C := specStoreOf x L y ts w2 i2 s2.sm (by omega)
  have HL := Lib.hid hL
  have HS := Lib.hid s2
  have HO := Lib.hid o2
  have HC := Lib.hid C
  clear g2 s2 i2 p2 hL o2 C X1 Y1 G1 r1
  go_wp2_with fail
  refine HC.out.mono ?_
  rintro e w3 ⟨v1, v2, v3, rfl, o3, hb3⟩
  have X3 := X2.next hb3
  have Y3 := Y2.next hb3
  have G3 : w.grownBy w3 none := G2.trans (grown_of_below hb3)
  have O3 : OwnT w1.heap.size w3 (.slice x L y) ts := own_next HO.out (grown_of_below hb3)
  have r3 := rd_far r2 hb3
  have hz3 := hb3.size
  clear hb3 X2 Y2 G2 HO HC r2
  obtain ⟨⟨a1, n1, c1, rfl⟩, ⟨a2, n2, c2, rfl⟩, ⟨a3, n3, c3, rfl⟩⟩ := Own3.slices o3
  obtain ⟨W6, hW6⟩ : ∃ W, w3.alloc (.cells #[.slice a1 n1 c1, .slice a2 n2 c2, .slice a3 n3 c3] 39) = W := ⟨_, rfl⟩
  have X6 := X3.alloc (.cells #[.slice a1 n1 c1, .slice a2 n2 c2, .slice a3 n3 c3] 39)
  have Y6 := Y3.alloc (.cells #[.slice a1 n1 c1, .slice a2 n2 c2, .slice a3 n3 c3] 39)
  have S6 := Box.new w3 (.slice a1 n1 c1) (.slice a2 n2 c2) (.slice a3 n3 c3) 39
  have G6 := G3.trans (World.grownBy_alloc w3 (.cells #[.slice a1 n1 c1, .slice a2 n2 c2, .slice a3 n3 c3] 39) none)
  have o6 := o3.alloc (.cells #[.slice a1 n1 c1, .slice a2 n2 c2, .slice a3 n3 c3] 39)
  have O6 := World.ownsRow.alloc O3 (.cells #[.slice a1 n1 c1, .slice a2 n2 c2, .slice a3 n3 c3] 39)
  have r6 := r3.alloc (.cells #[.slice a1 n1 c1, .slice a2 n2 c2, .slice a3 n3 c3] 39)
  have hz6 : (w3.alloc (.cells #[.slice a1 n1 c1, .slice a2 n2 c2, .slice a3 n3 c3] 39)).heap.size = w3.heap.size + 1 := by simp
  rw [hW6] at X6 Y6 S6 G6 o6 O6 r6 hz6
  have hz7 : w3.heap.size < W6.heap.size := by omega
  clear hz6
  have HX := Lib.hid X6
  have HY := Lib.hid Y6
  have HB := Lib.hid S6
  have HG := Lib.hid G6
  have Ho := Lib.hid o6
  have HO := Lib.hid O6
  clear X3 Y3 G3 O3 o3 r3 X6 Y6 S6 G6 o6 O6
  go_wp2_with fail
  try rw [hW6]
  clear hW6
  have hFR := World.grownBy.refl W6 (some g)
  refine (rdTriple _ _ _ r6).mono ?_
  rintro e wt ⟨s, p, o, ⟨_, hs⟩, hp, ho, rfl, rt, gt⟩
  have T1 := Box.new wt (.string s) (.string p) (.string o) 46
  have F2 := gt.trans (World.grownBy_alloc wt (.cells #[.string s, .string p, .string o] 46) (some g))
  have r2 := rt.alloc (.cells #[.string s, .string p, .string o] 46)
  have hzt := gt.size
  clear gt rt r6 hFR
  by_cases hL0 : 0 < L
  case' pos =>
    have hL1 : (0 : Int) < (L : Int) := by omega
    go_wp2_with fail
    generalize hA : wt.alloc (.cells #[.string s, .string p, .string o] 46) = wz at T1 F2 r2 ⊢
    clear hA
    obtain ⟨tb, htb⟩ : ∃ tb, wt.heap.size = tb := ⟨_, rfl⟩
    rw [htb] at T1 hzt ⊢
    clear htb
    refine (rdOnce _ g _ r2 4 (by omega) (by omega)).mono ?_
    rintro e wz ⟨b, rfl, r, hg⟩
    have T := T1.grown hg (by simp; omega)
    have F := F2.trans hg
    clear hg T1 F2 r2
    cases b
    case' false =>
      go_wp2_with fail
      refine (rdBelow _ _ _ r (L : Int) (by omega) (by omega)).mono ?_
      rintro e w5 ⟨mm, h0, h1, rfl, r5, g5⟩
      obtain ⟨m, rfl⟩ := Int.eq_ofNat_of_zero_le h0
      have F5 := F.trans g5
      have O5 := own_rd HO.out F5 (by omega) (Nat.le_refl _)
      obtain ⟨b1, off, u, rfl, e0, e1, e2, hu⟩ := pick_of O5 HS.out HL.out (show m < L by omega)
      have T5 := T.grown g5 (by simp; omega)
      obtain ⟨d0, d1, d2⟩ := T5.cells
      obtain ⟨k0, k1, k2⟩ := T5.free
      have hm1 : (m : Int) < (L : Int) := h1
      have hb5 := T5.lt
      have T1 := ((T5.set0 (.string u.1)).set1 (.string u.2.1)).setc (.string u.2.2)
      have F2 := grown_setNew (grown_setNew (grown_setNew F5 (a := ⟨tb, 0, none⟩) (by simp; omega) (.string u.1)) (a := ⟨tb, 1, none⟩) (by simp; omega) (.string u.2.1)) (a := ⟨tb, 2, none⟩) (by simp; omega) (.string u.2.2)
      have r2 := ((r5.setFar (a := ⟨tb, 0, none⟩) (by simp; omega) (by simp; omega) (.string u.1)).setFar (a := ⟨tb, 1, none⟩) (by simp; omega) (by simp; omega) (.string u.2.1)).setFar (a := ⟨tb, 2, none⟩) (by simp; omega) (by simp; omega) (.string u.2.2)
      clear r5 g5 T5 T F r F5 O5 hs hp ho
      obtain ⟨u1, u2, u3⟩ := u
      obtain ⟨hs, hp, ho⟩ := hu
      try simp only at hs hp ho T1 F2 r2 e0 e1 e2 ⊢
      go_wp2_with fail
      clear e0 e1 e2 d0 d1 d2 k0 k1 k2 hb5 hm1 h1
      generalize ((w5.setCell ⟨tb, 0, none⟩ (.string u1)).setCell ⟨tb, 1, none⟩ (.string u2)).setCell ⟨tb, 2, none⟩ (.string u3) = wz at T1 F2 r2 ⊢
      obtain ⟨s, rfl⟩ : ∃ z, z = u1 := ⟨_, rfl⟩
      obtain ⟨p, rfl⟩ : ∃ z, z = u2 := ⟨_, rfl⟩
      obtain ⟨o, rfl⟩ : ∃ z, z = u3 := ⟨_, rfl⟩
    case' true =>
      go_wp2_with fail
      have T1 := T
      have F2 := F
      have r2 := r
      clear T F r
  case' neg =>
    have hLn : ¬ (0 : Int) < (L : Int) := by omega
    go_wp2_with fail
    generalize hA : wt.alloc (.cells #[.string s, .string p, .string o] 46) = wz at T1 F2 r2 ⊢
    clear hA
    obtain ⟨tb, htb⟩ : ∃ tb, wt.heap.size = tb := ⟨_, rfl⟩
    rw [htb] at T1 hzt ⊢
    clear htb
  all_goals
    refine (rdOnce _ g _ r2 2 (by omega) (by omega)).mono ?_
    rintro e wz ⟨b, rfl, r, hg⟩
    have T := T1.grown hg (by simp; omega)
    have F := F2.trans hg
    clear hg T1 F2 r2
    cases b
    case' true =>
      obtain ⟨c0, c1, c2⟩ := T.cells
      obtain ⟨f0, f1, f2⟩ := T.free
      have T1 := T.set0 (.string ⟨#[]⟩)
      have F2 := grown_setNew F (a := ⟨tb, 0, none⟩) (by simp; omega) (.string ⟨#[]⟩)
      have r2 := r.setFar (a := ⟨tb, 0, none⟩) (by simp; omega) (by simp; omega) (.string ⟨#[]⟩)
      clear T F r hs
      go_wp2_with fail
      clear c0 c1 c2 f0 f1 f2
      generalize wz.setCell ⟨tb, 0, none⟩ (.string ⟨#[]⟩) = wz at T1 F2 r2 ⊢
      obtain ⟨s', hse⟩ : ∃ z : ByteArray, (⟨#[]⟩ : ByteArray) = z := ⟨_, rfl⟩
      have hs' : s'.size ≤ 20 := by rw [← hse]; decide
      rw [hse] at T1
      clear hse
      obtain ⟨s, rfl⟩ : ∃ z, z = s' := ⟨_, rfl⟩
      have hs := hs'
      clear hs'
    case' false =>
      go_wp2_with fail
      have T1 := T
      have F2 := F
      have r2 := r
      clear T F r
    all_goals
      refine (rdOnce _ g _ r2 2 (by omega) (by omega)).mono ?_
      rintro e wz ⟨b, rfl, r, hg⟩
      have T := T1.grown hg (by simp; omega)
      have F := F2.trans hg
      clear hg T1 F2 r2
      cases b
      case' true =>
        obtain ⟨c0, c1, c2⟩ := T.cells
        obtain ⟨f0, f1, f2⟩ := T.free
        have T1 := T.set1 (.string ⟨#[]⟩)
        have F2 := grown_setNew F (a := ⟨tb, 1, none⟩) (by simp; omega) (.string ⟨#[]⟩)
        have r2 := r.setFar (a := ⟨tb, 1, none⟩) (by simp; omega) (by simp; omega) (.string ⟨#[]⟩)
        clear T F r hp
        go_wp2_with fail
        clear c0 c1 c2 f0 f1 f2
        generalize wz.setCell ⟨tb, 1, none⟩ (.string ⟨#[]⟩) = wz at T1 F2 r2 ⊢
        obtain ⟨p', hse⟩ : ∃ z : ByteArray, (⟨#[]⟩ : ByteArray) = z := ⟨_, rfl⟩
        have hp' : p'.size ≤ 20 := by rw [← hse]; decide
        rw [hse] at T1
        clear hse
        obtain ⟨p, rfl⟩ : ∃ z, z = p' := ⟨_, rfl⟩
        have hp := hp'
        clear hp'
      case' false =>
        go_wp2_with fail
        have T1 := T
        have F2 := F
        have r2 := r
        clear T F r
      all_goals
        refine (rdOnce _ g _ r2 2 (by omega) (by omega)).mono ?_
        rintro e wz ⟨b, rfl, r, hg⟩
        have T := T1.grown hg (by simp; omega)
        have F := F2.trans hg
        clear hg T1 F2 r2
        cases b
        case' true =>
          obtain ⟨c0, c1, c2⟩ := T.cells
          obtain ⟨f0, f1, f2⟩ := T.free
          have T1 := T.setc (.string ⟨#[]⟩)
          have F2 := grown_setNew F (a := ⟨tb, 2, none⟩) (by simp; omega) (.string ⟨#[]⟩)
          have r2 := r.setFar (a := ⟨tb, 2, none⟩) (by simp; omega) (by simp; omega) (.string ⟨#[]⟩)
          clear T F r ho
          go_wp2_with fail
          clear c0 c1 c2 f0 f1 f2
          generalize wz.setCell ⟨tb, 2, none⟩ (.string ⟨#[]⟩) = wz at T1 F2 r2 ⊢
          obtain ⟨o', hse⟩ : ∃ z : ByteArray, (⟨#[]⟩ : ByteArray) = z := ⟨_, rfl⟩
          have ho' : o'.size ≤ 20 := by rw [← hse]; decide
          rw [hse] at T1
          clear hse
          obtain ⟨o, rfl⟩ : ∃ z, z = o' := ⟨_, rfl⟩
          have ho := ho'
          clear ho'
        case' false =>
          go_wp2_with fail
          have T1 := T
          have F2 := F
          have r2 := r
          clear T F r
        all_goals
          have S := HB.out.grown F2 (by simp; omega)
          have X := HX.out.grown F2 (by simp; omega)
          have Y := HY.out.grown F2 (by simp; omega)
          obtain ⟨z0, z1, z2⟩ := S.cells
          obtain ⟨d0, d1, d2⟩ := T1.cells
          obtain ⟨f0, f1, f2⟩ := X.free
          obtain ⟨k0, k1, k2⟩ := Y.free
          obtain ⟨x0, x1, x2⟩ := X.cells
          obtain ⟨y0, y1, y2⟩ := Y.cells
          have hX := X.lt
          have hY := Y.lt
          clear S X Y
          have Q := got3_of (Own3.set3 (Own3.set3 (own3_off Ho.out F2 (by omega)) (g := w.heap.size) (by omega) (.slice a1 n1 c1) (.slice a2 n2 c2) (.slice a3 n3 c3)) (g := w.heap.size + 1) (by omega) (.string s) (.string p) (.string o)) HS.out.st0 HS.out.st1 HS.out.st2
          have G := grown_off HG.out F2 (fun q e => by cases e; omega)
          go_region
          clear z0 z1 z2 d0 d1 d2 f0 f1 f2 k0 k1 k2 T1 r2 F2 HX HY HB HO HG Ho
          go_wp2_with fail
          refine bodyPost_ret (v := .tuple #[.agg #[.slice a1 n1 c1, .slice a2 n2 c2, .slice a3 n3 c3], .agg #[.string s, .string p, .string o]]) (by simp [results, Try.results30, go_sem, x0, x1, x2, y0, y1, y2]) rfl ⟨_, _, _, st0 ts, st1 ts, st2 ts, s, p, o, rfl, Got3.next Q (Below.refl _ _).drew, hs, hp, ho, ?_⟩
          exact grown_drew (grown_setNew (grown_setNew (grown_setNew (grown_setNew (grown_setNew (grown_setNew G (by simp) _) (by simp) _) (by simp) _) (by simp) _) (by simp) _) (by simp) _)
end Go.Proofs.Yteejpceliodcfaa
