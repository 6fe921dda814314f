/- The exact laws' comparison of two stores, their marks and second look. -/
import Derived.Test.YtapcbhpkbdlinaaStoQ
import Derived.Test.YtapcbhpkbdlinaaMarkK
namespace Go.Proofs.Ytapcbhpkbdlinaa
open Go.RowKit Go.WideShapes
set_option maxRecDepth 100000 in
set_option maxHeartbeats 1600000 in
theorem eqStore3 (a1 a2 a3 b1 b2 b3 : Option Addr) (n1 n2 n3 c1 c2 c3 m1 m2 m3 d1 d2 d3 : Nat) (t1 t2 t3 : List Tri3) (w : World) (i1 : IsTris w a1 n1 c1 t1) (i2 : IsTris w a2 n2 c2 t2) (i3 : IsTris w a3 n3 c3 t3)
    (j1 : IsTris w b1 m1 d1 t1) (j2 : IsTris w b2 m2 d2 t2) (j3 : IsTris w b3 m3 d3 t3) (l1 : n1 ≤ 1048576) (l2 : n2 ≤ 1048576) (l3 : n3 ≤ 1048576) :
    Calls Try.prog 43 #[.agg #[.slice a1 n1 c1, .slice a2 n2 c2, .slice a3 n3 c3], .agg #[.slice b1 m1 d1, .slice b2 m2 d2, .slice b3 m3 d3]] w fun e w' => e = .returned (.bool true) ∧ Below w.heap.size w w' := by
  have B0 := ((Below.refl w.heap.size w).alloc (Nat.le_refl _) (.cells #[.slice a1 n1 c1, .slice a2 n2 c2, .slice a3 n3 c3] 56)).alloc (by simp) (.cells #[.slice b1 m1 d1, .slice b2 m2 d2, .slice b3 m3 d3] 56)
  have X0 := (Box.new w (.slice a1 n1 c1) (.slice a2 n2 c2) (.slice a3 n3 c3) 56).alloc (.cells #[.slice b1 m1 d1, .slice b2 m2 d2, .slice b3 m3 d3] 56)
  have Y0 := Box.new (w.alloc (.cells #[.slice a1 n1 c1, .slice a2 n2 c2, .slice a3 n3 c3] 56)) (.slice b1 m1 d1) (.slice b2 m2 d2) (.slice b3 m3 d3) 56
  rw [World.size_alloc] at Y0
  have C1 := Lib.hid (eqTriS a1 b1 n1 c1 m1 d1 t1 _ (i1.next B0) (j1.next B0) l1)
  have I2 := Lib.hid (And.intro i2 j2)
  have I3 := Lib.hid (And.intro i3 j3)
  clear i1 i2 i3 j1 j2 j3
  go_enter Try.func43, Try.ntmps43
  go_wp2_with fail
  refine C1.out.mono ?_
  rintro e w1 ⟨rfl, hb1⟩
  have B1 := B0.trans (hb1.mono B0.size)
  have X1 := X0.next hb1
  have Y1 := Y0.next hb1
  obtain ⟨x0, x1, x2⟩ := X1.cells
  obtain ⟨y0, y1, y2⟩ := Y1.cells
  have C2 := Lib.hid (eqTriS a2 b2 n2 c2 m2 d2 t2 _ (I2.out.1.next B1) (I2.out.2.next B1) l2)
  clear hb1 B0 X0 Y0 C1
  go_wp2_with fail
  refine C2.out.mono ?_
  rintro e w2 ⟨rfl, hb2⟩
  have B2 := B1.trans (hb2.mono B1.size)
  have X2 := X1.next hb2
  have Y2 := Y1.next hb2
  clear x0 x1 x2 y0 y1 y2
  obtain ⟨x0, x1, x2⟩ := X2.cells
  obtain ⟨y0, y1, y2⟩ := Y2.cells
  have C3 := Lib.hid (eqTriS a3 b3 n3 c3 m3 d3 t3 _ (I3.out.1.next B2) (I3.out.2.next B2) l3)
  clear hb2 B1 X1 Y1 C2
  go_wp2_with fail
  refine C3.out.mono ?_
  rintro e w3 ⟨rfl, hb3⟩
  have B3 := B2.trans (hb3.mono B2.size)
  clear hb3 x0 x1 x2 y0 y1 y2 X2 Y2 B2 C3
  go_wp2_with fail
  go_ret
  exact ⟨rfl, B3⟩
theorem own_far {B : Nat} {w w' : World} {v u : Value} {ts : List Tri3} (h : OwnT B w v ts) (hg : w.grownBy w' u.ownBlock) (hne : ∀ j, u.ownBlock = some j → v.ownBlock ≠ some j) : OwnT B w' v ts :=
  World.ownsRow.kept h hg (by
    rcases hv : v.ownBlock with _ | i
    · exact .inl rfl
    · exact .inr (fun e => hne i e.symm hv))
/-- All blocks but these three slices' are as they were. -/
def Else3 (w w' : World) (v1 v2 v3 : Value) : Prop := ∀ g, g < w.heap.size → v1.ownBlock ≠ some g → v2.ownBlock ≠ some g → v3.ownBlock ≠ some g → w'.heap[g]? = w.heap[g]?
theorem Own3.lt {B : Nat} {w : World} {v1 v2 v3 : Value} {t1 t2 t3 : List Tri3} (h : Own3 B w v1 v2 v3 t1 t2 t3) : ∀ j, v1.ownBlock = some j ∨ v2.ownBlock = some j ∨ v3.ownBlock = some j → B ≤ j ∧ j < w.heap.size := by
  obtain ⟨B1, B2, h1, h2, o1, o2, o3, s1, s2⟩ := h
  intro j hj
  rcases hj with hj | hj | hj
  · exact World.ownsRow.lt o1 j hj
  · have := World.ownsRow.lt o2 j hj; exact ⟨by omega, this.2⟩
  · have := World.ownsRow.lt o3 j hj; exact ⟨by omega, this.2⟩
def Is3 (w : World) (a1 a2 a3 : Option Addr) (n1 n2 n3 c1 c2 c3 : Nat) (t1 t2 t3 : List Tri3) : Prop := IsTris w a1 n1 c1 t1 ∧ IsTris w a2 n2 c2 t2 ∧ IsTris w a3 n3 c3 t3
theorem Is3.next {w w' : World} {a1 a2 a3 : Option Addr} {n1 n2 n3 c1 c2 c3 : Nat} {t1 t2 t3 : List Tri3} (h : Is3 w a1 a2 a3 n1 n2 n3 c1 c2 c3 t1 t2 t3) (hb : Below w.heap.size w w') : Is3 w' a1 a2 a3 n1 n2 n3 c1 c2 c3 t1 t2 t3 := ⟨h.1.next hb, h.2.1.next hb, h.2.2.next hb⟩
def SmV (ts : List Tri3) : Prop := ∀ t ∈ ts, t.1.size ≤ maxLen ∧ t.2.1.size ≤ maxLen ∧ t.2.2.size ≤ maxLen
theorem Own3.is {B : Nat} {w : World} {v1 v2 v3 : Value} {t1 t2 t3 : List Tri3} (h : Own3 B w v1 v2 v3 t1 t2 t3) (m1 : SmV t1) (m2 : SmV t2) (m3 : SmV t3) :
    ∃ a1 c1 a2 c2 a3 c3, v1 = .slice a1 t1.length c1 ∧ v2 = .slice a2 t2.length c2 ∧ v3 = .slice a3 t3.length c3 ∧ Is3 w a1 a2 a3 t1.length t2.length t3.length c1 c2 c3 t1 t2 t3 := by
  obtain ⟨B1, B2, h1, h2, o1, o2, o3, s1, s2⟩ := h
  obtain ⟨a1, c1, e1, i1⟩ := o1.is m1
  obtain ⟨a2, c2, e2, i2⟩ := o2.is m2
  obtain ⟨a3, c3, e3, i3⟩ := o3.is m3
  exact ⟨a1, c1, a2, c2, a3, c3, e1, e2, e3, i1, i2, i3⟩
theorem Own3.kept {B : Nat} {w w' : World} {v1 v2 v3 u : Value} {t1 t2 t3 : List Tri3} (h : Own3 B w v1 v2 v3 t1 t2 t3) (hg : w.grownBy w' u.ownBlock) (hu : ∀ j, u.ownBlock = some j → j < B) : Own3 B w' v1 v2 v3 t1 t2 t3 := by
  obtain ⟨B1, B2, h1, h2, o1, o2, o3, s1, s2⟩ := h
  exact ⟨B1, B2, h1, h2, own_far o1 hg (fun j hj hv => by have := hu j hj; have := (World.ownsRow.lt o1 j hv).1; omega),
    own_far o2 hg (fun j hj hv => by have := hu j hj; have := (World.ownsRow.lt o2 j hv).1; omega), own_far o3 hg (fun j hj hv => by have := hu j hj; have := (World.ownsRow.lt o3 j hv).1; omega), s1, s2⟩
theorem Own3.alloc {B : Nat} {w : World} {v1 v2 v3 : Value} {t1 t2 t3 : List Tri3} (h : Own3 B w v1 v2 v3 t1 t2 t3) (o : Obj) : Own3 B (w.alloc o) v1 v2 v3 t1 t2 t3 := h.next (World.grownBy_alloc w o none)
set_option maxRecDepth 100000 in
set_option maxHeartbeats 1600000 in
theorem markStore3 (B : Nat) (v1 v2 v3 : Value) (t1 t2 t3 : List Tri3) (w : World) (h : Own3 B w v1 v2 v3 t1 t2 t3) (hB : B ≤ w.heap.size) (l1 : t1.length ≤ 1048576) (l2 : t2.length ≤ 1048576) (l3 : t3.length ≤ 1048576) (k0 : Nat) (hk0 : 0 < k0) (hk1 : k0 ≤ 1000000) :
    Calls Try.prog 44 #[.agg #[v1, v2, v3], .int .i64 k0] w fun e w' => e = .returned (.int .i64 ((k0 + 3 * t1.length + 3 * t2.length + 3 * t3.length : Nat) : Int)) ∧
      Own3 B w' v1 v2 v3 (marksK k0 t1.length) (marksK (k0 + 3 * t1.length) t2.length) (marksK (k0 + 3 * t1.length + 3 * t2.length) t3.length) ∧ Below B w w' ∧ Else3 w w' v1 v2 v3 := by
  obtain ⟨⟨p1, q1, r1, rfl⟩, ⟨p2, q2, r2, rfl⟩, ⟨p3, q3, r3, rfl⟩⟩ := h.slices
  obtain ⟨C1, C2, hC1, hC2, o1, o2, o3, s1, s2⟩ := h
  have lt1 := fun j hj => World.ownsRow.lt o1 j hj
  have lt2 := fun j hj => World.ownsRow.lt o2 j hj
  have lt3 := fun j hj => World.ownsRow.lt o3 j hj
  have B0 := (Below.refl B w).alloc hB (.cells #[.slice p1 q1 r1, .slice p2 q2 r2, .slice p3 q3 r3] 56)
  have X0 := Box.new w (.slice p1 q1 r1) (.slice p2 q2 r2) (.slice p3 q3 r3) 56
  have g0 := World.grownBy_alloc w (.cells #[.slice p1 q1 r1, .slice p2 q2 r2, .slice p3 q3 r3] 56) none
  have M1 := Lib.hid (markTriK B _ t1 _ (own_next o1 g0) (by omega) k0 hk0 (by omega))
  have O2 := own_next o2 g0
  have O3 := own_next o3 g0
  obtain ⟨N1, hN1⟩ : ∃ N, t1.length = N := ⟨_, rfl⟩
  obtain ⟨N2, hN2⟩ : ∃ N, t2.length = N := ⟨_, rfl⟩
  obtain ⟨N3, hN3⟩ : ∃ N, t3.length = N := ⟨_, rfl⟩
  rw [hN1] at M1 l1 ⊢
  rw [hN2] at l2 ⊢
  rw [hN3] at l3 ⊢
  have HN2 := Lib.hid hN2
  have HN3 := Lib.hid hN3
  obtain ⟨k1, hk1'⟩ : ∃ k, k0 + 3 * N1 = k := ⟨_, rfl⟩
  obtain ⟨k2, hk2'⟩ : ∃ k, k1 + 3 * N2 = k := ⟨_, rfl⟩
  rw [hk1'] at M1 ⊢
  rw [hk2'] at ⊢
  have hb1' : 0 < k1 ∧ k1 ≤ 5000000 := by omega
  have hb2' : 0 < k2 ∧ k2 ≤ 9000000 := by omega
  have HK2 := Lib.hid hk2'
  clear hN1 hN2 hN3 hk1' hk2' o1 o2 o3 g0
  go_enter Try.func44, Try.ntmps44
  go_wp2_with fail
  refine M1.out.mono ?_
  rintro e w1 ⟨rfl, m1, g1⟩
  have E1 : Hid (∀ g, g < w.heap.size → (Value.slice p1 q1 r1).ownBlock ≠ some g → w1.heap[g]? = w.heap[g]?) := Lib.hid (fun g hg n1 => by
    rw [g1.block g (by have := X0.lt; omega) (fun e => n1 e.symm)]; exact Below.heap_alloc _ _ g hg)
  have B1 := B0.grown g1 (Nat.le_trans hB B0.size) (fun j hj => (lt1 j hj).1)
  have X1 := X0.grown g1 (fun e => by have := (lt1 _ e.symm).2; omega)
  have P2 := own_far O2 g1 (fun j hj hv => by have := s1 j hj; have := (lt2 j hv).1; omega)
  have P3 := own_far O3 g1 (fun j hj hv => by have := s1 j hj; have := (lt3 j hv).1; omega)
  have M2 := markTriK C1 _ t2 _ P2 (by rw [HN2.out]; omega) k1 hb1'.1 (by omega)
  rw [HN2.out, HK2.out] at M2
  have HM2 := Lib.hid M2
  obtain ⟨x0, x1, x2⟩ := X1.cells
  clear g1 X0 B0 O2 O3 M1 M2 P2
  go_wp2_with fail
  refine HM2.out.mono ?_
  rintro e w2 ⟨rfl, m2, g2⟩
  have E2 : Hid (∀ g, g < w.heap.size → (Value.slice p1 q1 r1).ownBlock ≠ some g → (Value.slice p2 q2 r2).ownBlock ≠ some g → w2.heap[g]? = w.heap[g]?) := Lib.hid (fun g hg n1 n2 => by
    rw [g2.block g (by have := X1.lt; omega) (fun e => n2 e.symm), E1.out g hg n1])
  have B2 := B1.grown g2 (Nat.le_trans hB B1.size) (fun j hj => by have := (lt2 j hj).1; omega)
  have X2 := X1.grown g2 (fun e => by have := (lt2 _ e.symm).2; omega)
  have R1 := own_far m1 g2 (fun j hj hv => by have := s1 j hv; have := (lt2 j hj).1; omega)
  have R3 := own_far P3 g2 (fun j hj hv => by have := s2 j hj; have := (lt3 j hv).1; omega)
  have M3 := markTriK C2 _ t3 _ R3 (by rw [HN3.out]; omega) k2 hb2'.1 (by omega)
  rw [HN3.out] at M3
  have HM3 := Lib.hid M3
  clear x0 x1 x2
  obtain ⟨x0, x1, x2⟩ := X2.cells
  clear g2 X1 B1 P3 m1 HM2 M3 R3
  go_wp2_with fail
  refine HM3.out.mono ?_
  rintro e w3 ⟨rfl, m3, g3⟩
  have B3 := B2.grown g3 (Nat.le_trans hB B2.size) (fun j hj => by have := (lt3 j hj).1; omega)
  have S1 := own_far R1 g3 (fun j hj hv => by have := s1 j hv; have := (lt3 j hj).1; omega)
  have S2 := own_far m2 g3 (fun j hj hv => by have := s2 j hv; have := (lt3 j hj).1; omega)
  have HE : Hid (Else3 w w3 (.slice p1 q1 r1) (.slice p2 q2 r2) (.slice p3 q3 r3)) := Lib.hid (fun g hg n1 n2 n3 => by
    rw [g3.block g (by have := X2.lt; omega) (fun e => n3 e.symm), E2.out g hg n1 n2])
  have F : Hid (Own3 B w3 (.slice p1 q1 r1) (.slice p2 q2 r2) (.slice p3 q3 r3) (marksK k0 N1) (marksK k1 N2) (marksK k2 N3)) := Lib.hid ⟨C1, C2, hC1, hC2, S1, S2, m3, s1, s2⟩
  clear g3 x0 x1 x2 X2 B2 HM3 R1 S1 S2 m2 m3
  go_wp2_with fail
  go_ret
  exact ⟨rfl, F.out, B3, HE.out⟩
set_option maxRecDepth 100000 in
set_option maxHeartbeats 1600000 in
theorem heldStore3 (a1 a2 a3 : Option Addr) (n1 n2 n3 c1 c2 c3 : Nat) (w : World) (k0 : Nat) (i1 : IsTris w a1 n1 c1 (marksK k0 n1)) (i2 : IsTris w a2 n2 c2 (marksK (k0 + 3 * n1) n2)) (i3 : IsTris w a3 n3 c3 (marksK (k0 + 3 * n1 + 3 * n2) n3))
    (l1 : n1 ≤ 80) (l2 : n2 ≤ 80) (l3 : n3 ≤ 80) (hk0 : 0 < k0) (hk1 : k0 ≤ 1000000) :
    Calls Try.prog 45 #[.agg #[.slice a1 n1 c1, .slice a2 n2 c2, .slice a3 n3 c3], .int .i64 k0] w fun e w' => e = .returned (.int .i64 ((k0 + 3 * n1 + 3 * n2 + 3 * n3 : Nat) : Int)) ∧ Below w.heap.size w w' := by
  have B0 := (Below.refl w.heap.size w).alloc (Nat.le_refl _) (.cells #[.slice a1 n1 c1, .slice a2 n2 c2, .slice a3 n3 c3] 56)
  have X0 := Box.new w (.slice a1 n1 c1) (.slice a2 n2 c2) (.slice a3 n3 c3) 56
  have C1' := heldTriK a1 n1 c1 _ k0 (i1.next B0) (by omega) hk0 (by omega)
  obtain ⟨k1, hk1'⟩ : ∃ k, k0 + 3 * n1 = k := ⟨_, rfl⟩
  rw [hk1'] at C1' i2 i3 ⊢
  obtain ⟨k2, hk2'⟩ : ∃ k, k1 + 3 * n2 = k := ⟨_, rfl⟩
  rw [hk2'] at i3 ⊢
  have hb1' : 0 < k1 ∧ k1 ≤ 1001000 := by omega
  have hb2' : 0 < k2 ∧ k2 ≤ 1002000 := by omega
  have HK2 := Lib.hid hk2'
  have hz1 : ¬ (k1 : Int) < 0 := by omega
  have hz2 : ¬ (k2 : Int) < 0 := by omega
  have hz3 : ¬ ((k2 + 3 * n3 : Nat) : Int) < 0 := by omega
  obtain ⟨k3, hk3'⟩ : ∃ k, k2 + 3 * n3 = k := ⟨_, rfl⟩
  have HK3 := Lib.hid hk3'
  rw [hk3'] at hz3 ⊢
  have C1 := Lib.hid C1'
  have I2 := Lib.hid i2
  have I3 := Lib.hid i3
  clear C1' hk1' hk2' hk3' i1 i2 i3
  go_enter Try.func45, Try.ntmps45
  go_wp2_with fail
  refine C1.out.mono ?_
  rintro e w1 ⟨rfl, hb1⟩
  have B1 := B0.trans (hb1.mono B0.size)
  have X1 := X0.next hb1
  obtain ⟨x0, x1, x2⟩ := X1.cells
  have C2' := heldTriK a2 n2 c2 _ k1 (I2.out.next B1) (by omega) hb1'.1 (by omega)
  rw [HK2.out] at C2'
  have C2 := Lib.hid C2'
  clear C2' hb1 B0 X0 C1
  go_wp2_with fail
  refine C2.out.mono ?_
  rintro e w2 ⟨rfl, hb2⟩
  have B2 := B1.trans (hb2.mono B1.size)
  have X2 := X1.next hb2
  clear x0 x1 x2
  obtain ⟨x0, x1, x2⟩ := X2.cells
  have C3' := heldTriK a3 n3 c3 _ k2 (I3.out.next B2) (by omega) hb2'.1 (by omega)
  rw [HK3.out] at C3'
  have C3 := Lib.hid C3'
  clear C3' hb2 B1 X1 C2
  go_wp2_with fail
  refine C3.out.mono ?_
  rintro e w3 ⟨rfl, hb3⟩
  have B3 := B2.trans (hb3.mono B2.size)
  clear hb3 x0 x1 x2 X2 B2 C3
  go_wp2_with fail
  go_ret
  exact ⟨rfl, B3⟩
end Go.Proofs.Ytapcbhpkbdlinaa
