/- A disk of a call's own that is marked, and its second look. -/
import Derived.Test.YtamnlifdfhmbnaaG18
import Derived.Test.YtamnlifdfhmbnaaG10
import Derived.Test.YtamnlifdfhmbnaaG12
namespace Go.Proofs.Ytamnlifdfhmbnaa
open Go.RowKit Go.WideShapes
theorem Turn.moreDk {B C : Nat} {w w1 w2 : World} {row : Option Nat} (T : Turn B C w w1) (g : w1.grownBy w2 row) (hr : ∀ j, row = some j → B ≤ j ∧ j < C) : Turn B C w w2 :=
  ⟨g.os.trans T.os, g.tape.trans T.tape, g.output.trans T.output, Nat.le_trans T.size g.size, fun k hk hd => (g.block k (by have := T.size; omega) (fun e => by have := hr k e.symm; omega)).trans (T.block k hk hd)⟩
theorem row_farDk {B e k n : Nat} {v : Value} {xs : List Value} {w w' : World} {row : Option Nat} (h : w.ownsRow B e k v n xs) (g : w.grownBy w' row) (hne : ∀ j, v.ownBlock = some j → row ≠ some j) : w'.ownsRow B e k v n xs :=
  World.ownsRow.kept h g (by
    rcases hv : v.ownBlock with _ | j
    · exact .inl rfl
    · exact .inr (fun e => hne j hv e.symm))
set_option maxRecDepth 100000 in
set_option maxHeartbeats 1600000 in
theorem markDk (B C : Nat) (p0 p1 p2 : Option Addr) (n0 n1 n2 r0 r1 r2 : Nat) (t0 t1 : List Pre2) (t2 : List OpV) (w : World) (h : OwnDk B C (.slice p0 n0 r0) (.slice p1 n1 r1) (.slice p2 n2 r2) t0 t1 t2 w) (hC : C ≤ w.heap.size) (s : n0 ≤ 1048576 ∧ n1 ≤ 1048576 ∧ n2 ≤ 1048576) (l : t0.length = n0 ∧ t1.length = n1 ∧ t2.length = n2) (k0 : Nat) (hk0 : 0 < k0) (hk1 : k0 ≤ 4000000) :
    Calls Try.prog 30 #[.agg #[.slice p0 n0 r0, .slice p1 n1 r1, .slice p2 n2 r2], .int .i64 k0] w fun e w' => e = .returned (.int .i64 ((k0 + (2 * n0 + 2 * n1 + 4 * n2) : Nat) : Int)) ∧
      OwnDk B C (.slice p0 n0 r0) (.slice p1 n1 r1) (.slice p2 n2 r2) (marksPKFi k0 n0) (marksPKFi (k0 + 2 * n0) n1) (marksOp (k0 + 2 * n0 + 2 * n1) n2) w' ∧ Turn B C w w' := by
  obtain ⟨⟨o0, s0⟩, ⟨o1, s1⟩, ⟨o2, s2⟩, h01, h02, h12⟩ := h
  obtain ⟨l0, l1, l2⟩ := l
  have lt0 := fun j hj => World.ownsRow.lt o0 j hj
  have lt1 := fun j hj => World.ownsRow.lt o1 j hj
  have lt2 := fun j hj => World.ownsRow.lt o2 j hj
  have X0 := cells_new w #[.slice p0 n0 r0, .slice p1 n1 r1, .slice p2 n2 r2] 27
  have T0 : Turn B C w (w.alloc (.cells #[.slice p0 n0 r0, .slice p1 n1 r1, .slice p2 n2 r2] 27)) := ⟨rfl, rfl, rfl, by simp, fun k hk _ => Below.heap_alloc _ _ _ hk⟩
  have G0 := World.grownBy_alloc w (.cells #[.slice p0 n0 r0, .slice p1 n1 r1, .slice p2 n2 r2] 27) none
  have M0 := Lib.hid (markPairKFi B _ t0 _ (row_farDk o0 G0 (fun j _ e => by cases e)) (by omega) k0 hk0 (by omega))
  have O1 : OwnPFi B _ _ t1 := row_farDk o1 G0 (fun j _ e => by cases e)
  have O2 : OwnOp B _ _ t2 := row_farDk o2 G0 (fun j _ e => by cases e)
  rw [l0] at M0
  have HL := Lib.hid (And.intro l1 l2)
  obtain ⟨k1, hk1'⟩ : ∃ k, k0 + 2 * n0 = k := ⟨_, rfl⟩
  obtain ⟨k2, hk2'⟩ : ∃ k, k1 + 2 * n1 = k := ⟨_, rfl⟩
  have hb1' : 0 < k1 ∧ k1 ≤ 40000000 := by omega
  have hb2' : 0 < k2 ∧ k2 ≤ 40000000 := by omega
  have HK : Hid (k0 + (2 * n0 + 2 * n1 + 4 * n2) = k2 + 4 * n2) := Lib.hid (by omega)
  rw [hk1'] at M0 ⊢
  rw [hk2', HK.out]
  have HK2 := Lib.hid hk2'
  have x0 := X0.now.at 0
  clear o0 o1 o2 l0 l1 l2 hk1' hk2' G0
  go_enter Try.func30, Try.ntmps30
  go_wp2_with fail
  refine M0.out.mono ?_
  rintro e w1 ⟨rfl, m0, g1⟩
  have T1 := T0.moreDk g1 (fun j hj => ⟨(lt0 j hj).1, s0 j hj⟩)
  have X1 := X0.step (.of_grown (D := B) (E := C) g1 (fun j hj => ⟨(lt0 j hj).1, s0 j hj⟩)) (.inr hC)
  have P1 : OwnPFi B w1 (.slice p1 n1 r1) t1 := row_farDk O1 g1 (fun j h e => h01 j e h)
  have P2 : OwnOp B w1 (.slice p2 n2 r2) t2 := row_farDk O2 g1 (fun j h e => h02 j e h)
  have M1 := markPairKFi B _ t1 _ P1 (by rw [HL.out.1]; omega) k1 hb1'.1 (by omega)
  rw [HL.out.1, HK2.out] at M1
  have HM1 := Lib.hid M1
  have x1 := X1.now.at 1
  clear g1 X0 T0 O1 O2 M0 M1 P1 x0
  go_wp2_with fail
  refine HM1.out.mono ?_
  rintro e w2 ⟨rfl, m1, g2⟩
  have T2 := T1.moreDk g2 (fun j hj => ⟨(lt1 j hj).1, s1 j hj⟩)
  have X2 := X1.step (.of_grown (D := B) (E := C) g2 (fun j hj => ⟨(lt1 j hj).1, s1 j hj⟩)) (.inr hC)
  have Q0 : OwnPFi B w2 (.slice p0 n0 r0) (marksPKFi k0 n0) := row_farDk m0 g2 (fun j h e => h01 j h e)
  have Q2 : OwnOp B w2 (.slice p2 n2 r2) t2 := row_farDk P2 g2 (fun j h e => h12 j e h)
  have M2 := markDops B _ t2 _ Q2 (by rw [HL.out.2]; omega) k2 hb2'.1 (by omega)
  rw [HL.out.2] at M2
  have HM2 := Lib.hid M2
  have x2 := X2.now.at 2
  clear g2 X1 T1 HM1 M2 P2 Q2 x1 m0
  go_wp2_with fail
  refine HM2.out.mono ?_
  rintro e w3 ⟨rfl, m2, g3⟩
  have T3 := T2.moreDk g3 (fun j hj => ⟨(lt2 j hj).1, s2 j hj⟩)
  have Q0' : OwnPFi B w3 (.slice p0 n0 r0) (marksPKFi k0 n0) := row_farDk Q0 g3 (fun j h e => h02 j h e)
  have Q1' : OwnPFi B w3 (.slice p1 n1 r1) (marksPKFi k1 n1) := row_farDk m1 g3 (fun j h e => h12 j h e)
  have HR := Lib.hid (show OwnDk B C (.slice p0 n0 r0) (.slice p1 n1 r1) (.slice p2 n2 r2) (marksPKFi k0 n0) (marksPKFi k1 n1) (marksOp k2 n2) w3 from ⟨⟨Q0', s0⟩, ⟨Q1', s1⟩, ⟨m2, s2⟩, h01, h02, h12⟩)
  have HT := Lib.hid T3
  clear g3 X2 T2 HM2 m1 m2 Q0 Q0' Q1' x2
  go_wp2_with fail
  go_ret
  exact ⟨rfl, HR.out, HT.out⟩
theorem exMarkDk {B C : Nat} {p0 p1 p2 : Option Addr} {n0 n1 n2 r0 r1 r2 : Nat} {t0 t1 : List Pre2} {t2 : List OpV} {w : World} (h : Holds B C w (OwnDk B C (.slice p0 n0 r0) (.slice p1 n1 r1) (.slice p2 n2 r2) t0 t1 t2)) (s : n0 ≤ 1048576 ∧ n1 ≤ 1048576 ∧ n2 ≤ 1048576) (l : t0.length = n0 ∧ t1.length = n1 ∧ t2.length = n2) (k0 : Nat) (hk0 : 0 < k0) (hk1 : k0 ≤ 4000000) :
    Calls Try.prog 30 #[.agg #[.slice p0 n0 r0, .slice p1 n1 r1, .slice p2 n2 r2], .int .i64 k0] w fun e w' => e = .returned (.int .i64 ((k0 + (2 * n0 + 2 * n1 + 4 * n2) : Nat) : Int)) ∧
      Holds B C w' (OwnDk B C (.slice p0 n0 r0) (.slice p1 n1 r1) (.slice p2 n2 r2) (marksPKFi k0 n0) (marksPKFi (k0 + 2 * n0) n1) (marksOp (k0 + 2 * n0 + 2 * n1) n2)) ∧ Turn B C w w' :=
  (markDk B C p0 p1 p2 n0 n1 n2 r0 r1 r2 t0 t1 t2 w h.now h.le s l k0 hk0 hk1).mono fun _ _ ⟨he, ho, ht⟩ => ⟨he, ⟨ownDk_lives, Nat.le_trans h.le ht.size, ho⟩, ht⟩
set_option maxRecDepth 100000 in
set_option maxHeartbeats 1600000 in
theorem heldDk (a0 a1 a2 : Option Addr) (n0 n1 n2 c0 c1 c2 : Nat) (w : World) (k0 : Nat) (h : IsDk w a0 a1 a2 n0 n1 n2 c0 c1 c2 (marksPKFi k0 n0) (marksPKFi (k0 + 2 * n0) n1) (marksOp (k0 + 2 * n0 + 2 * n1) n2)) (s : n0 ≤ 1048576 ∧ n1 ≤ 1048576 ∧ n2 ≤ 1048576) (hk0 : 0 < k0) (hk1 : k0 ≤ 4000000) :
    Calls Try.prog 31 #[.agg #[.slice a0 n0 c0, .slice a1 n1 c1, .slice a2 n2 c2], .int .i64 k0] w fun e w' => e = .returned (.int .i64 ((k0 + (2 * n0 + 2 * n1 + 4 * n2) : Nat) : Int)) ∧ Below w.heap.size w w' := by
  have B0 := (Below.refl w.heap.size w).alloc (Nat.le_refl _) (.cells #[.slice a0 n0 c0, .slice a1 n1 c1, .slice a2 n2 c2] 27)
  have X0 := cells_new w #[.slice a0 n0 c0, .slice a1 n1 c1, .slice a2 n2 c2] 27
  obtain ⟨s0, s1, s2⟩ := s
  have M0 := Lib.hid (heldPairKFi a0 n0 c0 _ k0 (h.next B0).1 s0 hk0 (by omega))
  have M1 := fun W (hW : Below w.heap.size w W) => heldPairKFi a1 n1 c1 W (k0 + 2 * n0) (h.next hW).2.1 s1 (by omega) (by omega)
  have M2 := fun W (hW : Below w.heap.size w W) => heldDops a2 n2 c2 W (k0 + 2 * n0 + 2 * n1) (h.next hW).2.2 s2 (by omega) (by omega)
  have HK : Hid (k0 + (2 * n0 + 2 * n1 + 4 * n2) = k0 + 2 * n0 + 2 * n1 + 4 * n2) := Lib.hid (by omega)
  rw [HK.out]
  obtain ⟨k1, hk1'⟩ : ∃ k, k0 + 2 * n0 = k := ⟨_, rfl⟩
  rw [hk1'] at M0 M1 M2 ⊢
  obtain ⟨k2, hk2'⟩ : ∃ k, k1 + 2 * n1 = k := ⟨_, rfl⟩
  rw [hk2'] at M1 M2 ⊢
  obtain ⟨k3, hk3'⟩ : ∃ k, k2 + 4 * n2 = k := ⟨_, rfl⟩
  rw [hk3'] at M2 ⊢
  have HM1 := Lib.hid M1
  have HM2 := Lib.hid M2
  have x0 := X0.now.at 0
  have p1 : ¬ (k1 : Int) < 0 := by omega
  have p2 : ¬ (k2 : Int) < 0 := by omega
  have p3 : ¬ (k3 : Int) < 0 := by omega
  clear M1 M2 h hk1' hk2' hk3' HK
  go_enter Try.func31, Try.ntmps31
  go_wp2_with fail
  refine M0.out.mono ?_
  rintro e w1 ⟨rfl, hb1⟩
  have B1 := B0.trans (hb1.mono B0.size)
  have X1 := X0.next hb1
  have x1 := X1.now.at 1
  clear hb1 X0 B0 x0
  go_wp2_with fail
  refine (HM1.out _ B1).mono ?_
  rintro e w2 ⟨rfl, hb2⟩
  have B2 := B1.trans (hb2.mono B1.size)
  have X2 := X1.next hb2
  have x2 := X2.now.at 2
  clear hb2 X1 B1 x1
  go_wp2_with fail
  refine (HM2.out _ B2).mono ?_
  rintro e w3 ⟨rfl, hb3⟩
  have B3 := B2.trans (hb3.mono B2.size)
  clear hb3 X2 B2 x2
  go_wp2_with fail
  go_ret
  exact ⟨rfl, B3⟩
theorem exHeldDk {B C : Nat} {p0 p1 p2 : Option Addr} {n0 n1 n2 r0 r1 r2 : Nat} {w : World} {k0 : Nat} (h : Holds B C w (OwnDk B C (.slice p0 n0 r0) (.slice p1 n1 r1) (.slice p2 n2 r2) (marksPKFi k0 n0) (marksPKFi (k0 + 2 * n0) n1) (marksOp (k0 + 2 * n0 + 2 * n1) n2))) (s : n0 ≤ 1048576 ∧ n1 ≤ 1048576 ∧ n2 ≤ 1048576) (hk0 : 0 < k0) (hk1 : k0 ≤ 1000000) :
    Calls Try.prog 31 #[.agg #[.slice p0 n0 r0, .slice p1 n1 r1, .slice p2 n2 r2], .int .i64 k0] w fun e w' => e = .returned (.int .i64 ((k0 + (2 * n0 + 2 * n1 + 4 * n2) : Nat) : Int)) ∧ Below w.heap.size w w' :=
  heldDk p0 p1 p2 n0 n1 n2 r0 r1 r2 w k0 (h.now.readDk ⟨marksPK_smallFi _ _ s.1 (by omega), marksPK_smallFi _ _ s.2.1 (by have := s.1; omega), marksOp_small _ _ s.2.2 (by have := s.1; have := s.2.1; omega)⟩ ⟨marksPK_lenFi _ _, marksPK_lenFi _ _, marksOp_len _ _⟩) s hk0 (by omega)
end Go.Proofs.Ytamnlifdfhmbnaa
