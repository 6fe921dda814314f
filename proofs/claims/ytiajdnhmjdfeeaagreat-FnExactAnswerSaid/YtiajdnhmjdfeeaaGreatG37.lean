/- A query of a call's own that is marked. -/
import Derived.Test.YtiajdnhmjdfeeaaGreatG34
import Derived.Test.YtiajdnhmjdfeeaaGreatG09
import Derived.Test.YtiajdnhmjdfeeaaGreatG12
namespace Go.Proofs.YtiajdnhmjdfeeaaGreat
open Go.RowKit Go.WideShapes
theorem Turn.more {B C : Nat} {w w1 w2 : World} {row : Option Nat} (T : Turn B C w w1) (g : w1.grownBy w2 row) (hr : ∀ j, row = some j → B ≤ j ∧ j < C) : Turn B C w w2 :=
  ⟨g.os.trans T.os, g.tape.trans T.tape, g.output.trans T.output, Nat.le_trans T.size g.size, fun k hk hd => (g.block k (by have := T.size; omega) (fun e => by have := hr k e.symm; omega)).trans (T.block k hk hd)⟩
theorem row_far {B e k n : Nat} {v : Value} {xs : List Value} {w w' : World} {row : Option Nat} (h : w.ownsRow B e k v n xs) (g : w.grownBy w' row) (hne : ∀ j, v.ownBlock = some j → row ≠ some j) : w'.ownsRow B e k v n xs :=
  World.ownsRow.kept h g (by
    rcases hv : v.ownBlock with _ | j
    · exact .inl rfl
    · exact .inr (fun e => hne j hv e.symm))
set_option maxRecDepth 100000 in
set_option maxHeartbeats 1600000 in
theorem markQry (B C : Nat) (p0 p1 p2 : Option Addr) (n0 n1 n2 r0 r1 r2 : Nat) (t0 : List ByteArray) (t1 t2 : List Tri3) (w : World) (h : OwnQry B C (.slice p0 n0 r0) (.slice p1 n1 r1) (.slice p2 n2 r2) t0 t1 t2 w) (hC : C ≤ w.heap.size) (s : n0 ≤ 1048576 ∧ n1 ≤ 1048576 ∧ n2 ≤ 1048576) (l : t0.length = n0 ∧ t1.length = n1 ∧ t2.length = n2) (k0 : Nat) (hk0 : 0 < k0) (hk1 : k0 ≤ 4000000) :
    Calls Tryz.prog 18 #[.agg #[.slice p0 n0 r0, .slice p1 n1 r1, .slice p2 n2 r2], .int .i64 k0] w fun e w' => e = .returned (.int .i64 ((k0 + (n0 + 3 * n1 + 3 * n2) : Nat) : Int)) ∧
      OwnQry B C (.slice p0 n0 r0) (.slice p1 n1 r1) (.slice p2 n2 r2) (marksS k0 n0) (marksK (k0 + n0) n1) (marksK (k0 + n0 + 3 * n1) n2) w' ∧ Turn B C w w' := by
  obtain ⟨⟨o0, s0⟩, ⟨o1, s1⟩, ⟨o2, s2⟩, h01, h02, h12⟩ := h
  obtain ⟨l0, l1, l2⟩ := l
  have lt0 := fun j hj => World.ownsRow.lt o0 j hj
  have lt1 := fun j hj => World.ownsRow.lt o1 j hj
  have lt2 := fun j hj => World.ownsRow.lt o2 j hj
  have X0 := cells_new w #[.slice p0 n0 r0, .slice p1 n1 r1, .slice p2 n2 r2] 34
  have T0 : Turn B C w (w.alloc (.cells #[.slice p0 n0 r0, .slice p1 n1 r1, .slice p2 n2 r2] 34)) := ⟨rfl, rfl, rfl, by simp, fun k hk _ => Below.heap_alloc _ _ _ hk⟩
  have G0 := World.grownBy_alloc w (.cells #[.slice p0 n0 r0, .slice p1 n1 r1, .slice p2 n2 r2] 34) none
  have M0 := Lib.hid (markStrS B _ t0 _ (row_far o0 G0 (fun j _ e => by cases e)) (by omega) k0 hk0 hk1)
  have O1 : OwnT B _ _ t1 := row_far o1 G0 (fun j _ e => by cases e)
  have O2 : OwnT B _ _ t2 := row_far o2 G0 (fun j _ e => by cases e)
  rw [l0] at M0
  have HL := Lib.hid (And.intro l1 l2)
  obtain ⟨k1, hk1'⟩ : ∃ k, k0 + n0 = k := ⟨_, rfl⟩
  obtain ⟨k2, hk2'⟩ : ∃ k, k1 + 3 * n1 = k := ⟨_, rfl⟩
  have hb1' : 0 < k1 ∧ k1 ≤ 40000000 := by omega
  have hb2' : 0 < k2 ∧ k2 ≤ 40000000 := by omega
  have HK : Hid (k0 + (n0 + 3 * n1 + 3 * n2) = k2 + 3 * n2) := Lib.hid (by omega)
  rw [hk1'] at M0 ⊢
  rw [hk2', HK.out]
  have HK2 := Lib.hid hk2'
  have x0 := X0.now.at 0
  clear o0 o1 o2 l0 l1 l2 hk1' hk2' G0
  go_enter Tryz.func18, Tryz.ntmps18
  go_wp2_with fail
  refine M0.out.mono ?_
  rintro e w1 ⟨rfl, m0, g1⟩
  have T1 := T0.more g1 (fun j hj => ⟨(lt0 j hj).1, s0 j hj⟩)
  have X1 := X0.step (.of_grown (D := B) (E := C) g1 (fun j hj => ⟨(lt0 j hj).1, s0 j hj⟩)) (.inr hC)
  have P1 : OwnT B w1 (.slice p1 n1 r1) t1 := row_far O1 g1 (fun j h e => h01 j e h)
  have P2 : OwnT B w1 (.slice p2 n2 r2) t2 := row_far O2 g1 (fun j h e => h02 j e h)
  have M1 := markTriK B _ t1 _ P1 (by rw [HL.out.1]; omega) k1 hb1'.1 (by omega)
  rw [HL.out.1, HK2.out] at M1
  have HM1 := Lib.hid M1
  have x1 := X1.now.at 1
  clear g1 X0 T0 O1 O2 M0 M1 P1 x0
  go_wp2_with fail
  refine HM1.out.mono ?_
  rintro e w2 ⟨rfl, m1, g2⟩
  have T2 := T1.more g2 (fun j hj => ⟨(lt1 j hj).1, s1 j hj⟩)
  have X2 := X1.step (.of_grown (D := B) (E := C) g2 (fun j hj => ⟨(lt1 j hj).1, s1 j hj⟩)) (.inr hC)
  have Q0 : OwnS B w2 (.slice p0 n0 r0) (marksS k0 n0) := row_far m0 g2 (fun j h e => h01 j h e)
  have Q2 : OwnT B w2 (.slice p2 n2 r2) t2 := row_far P2 g2 (fun j h e => h12 j e h)
  have M2 := markTriK B _ t2 _ Q2 (by rw [HL.out.2]; omega) k2 hb2'.1 (by omega)
  rw [HL.out.2] at M2
  have HM2 := Lib.hid M2
  have x2 := X2.now.at 2
  clear g2 X1 T1 HM1 M2 P2 Q2 x1 m0
  go_wp2_with fail
  refine HM2.out.mono ?_
  rintro e w3 ⟨rfl, m2, g3⟩
  have T3 := T2.more g3 (fun j hj => ⟨(lt2 j hj).1, s2 j hj⟩)
  have Q0' : OwnS B w3 (.slice p0 n0 r0) (marksS k0 n0) := row_far Q0 g3 (fun j h e => h02 j h e)
  have Q1' : OwnT B w3 (.slice p1 n1 r1) (marksK k1 n1) := row_far m1 g3 (fun j h e => h12 j h e)
  have HR := Lib.hid (show OwnQry B C (.slice p0 n0 r0) (.slice p1 n1 r1) (.slice p2 n2 r2) (marksS k0 n0) (marksK k1 n1) (marksK k2 n2) w3 from ⟨⟨Q0', s0⟩, ⟨Q1', s1⟩, ⟨m2, s2⟩, h01, h02, h12⟩)
  have HT := Lib.hid T3
  clear g3 X2 T2 HM2 m1 m2 Q0 Q0' Q1' x2
  go_wp2_with fail
  go_ret
  exact ⟨rfl, HR.out, HT.out⟩
theorem exMarkQ {B C : Nat} {p0 p1 p2 : Option Addr} {n0 n1 n2 r0 r1 r2 : Nat} {t0 : List ByteArray} {t1 t2 : List Tri3} {w : World} (h : Holds B C w (OwnQry B C (.slice p0 n0 r0) (.slice p1 n1 r1) (.slice p2 n2 r2) t0 t1 t2)) (s : n0 ≤ 1048576 ∧ n1 ≤ 1048576 ∧ n2 ≤ 1048576) (l : t0.length = n0 ∧ t1.length = n1 ∧ t2.length = n2) (k0 : Nat) (hk0 : 0 < k0) (hk1 : k0 ≤ 4000000) :
    Calls Tryz.prog 18 #[.agg #[.slice p0 n0 r0, .slice p1 n1 r1, .slice p2 n2 r2], .int .i64 k0] w fun e w' => e = .returned (.int .i64 ((k0 + (n0 + 3 * n1 + 3 * n2) : Nat) : Int)) ∧
      Holds B C w' (OwnQry B C (.slice p0 n0 r0) (.slice p1 n1 r1) (.slice p2 n2 r2) (marksS k0 n0) (marksK (k0 + n0) n1) (marksK (k0 + n0 + 3 * n1) n2)) ∧ Turn B C w w' :=
  (markQry B C p0 p1 p2 n0 n1 n2 r0 r1 r2 t0 t1 t2 w h.now h.le s l k0 hk0 hk1).mono fun _ _ ⟨he, ho, ht⟩ => ⟨he, ⟨ownQry_lives, Nat.le_trans h.le ht.size, ho⟩, ht⟩
end Go.Proofs.YtiajdnhmjdfeeaaGreat
