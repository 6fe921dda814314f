/- A query's answer: the specification.; Drawn graphs with queries.; Each way to choose two triples that agree is a row: plain facts. -/
import Derived.Test.YtiajdnhmjdfeeaaGreatK40
import Derived.Test.YtiajdnhmjdfeeaaGreatK19
import Derived.Test.YtiajdnhmjdfeeaaGreatK20
import Derived.Test.YtiajdnhmjdfeeaaGreatK24
import Derived.Test.YtiajdnhmjdfeeaaGreatK38
namespace Go.Proofs.YtiajdnhmjdfeeaaGreat
open Go.RowKit Go.WideShapes
set_option maxRecDepth 100000 in
set_option maxHeartbeats 6400000 in
theorem specAnswer (a : Option Addr) (la ca : Nat) (gs : List Tri3) (a0 a1 a2 : Option Addr) (n0 n1 n2 c0 c1 c2 : Nat) (vs : List ByteArray) (t1 t2 : List Tri3) (w : World) (ha : IsTris w a la ca gs) (h : IsQry w a0 a1 a2 n0 n1 n2 c0 c1 c2 vs t1 t2) (hga : SmT gs) (s0 : ∀ t ∈ vs, t.size ≤ 1048576) (s1 : SmT t1) (s2 : SmT t2) (l0 : n0 ≤ 1048576) :
    Calls Tryz.prog 10 #[.slice a la ca, .agg #[.slice a0 n0 c0, .slice a1 n1 c1, .slice a2 n2 c2]] w fun e w' => ∃ x n c, e = .returned (.tuple #[.slice x n c, .bool (ansOk gs vs t1 t2)]) ∧ IsRows w' x n c (ansR gs vs t1 t2) ∧ Below w.heap.size w w' := by
  have B0 := Lib.hid ((Below.refl w.heap.size w).alloc (Nat.le_refl _) (.cells #[.slice a0 n0 c0, .slice a1 n1 c1, .slice a2 n2 c2] 34))
  have X0 := Lib.hid (cells_new w #[.slice a0 n0 c0, .slice a1 n1 c1, .slice a2 n2 c2] 34)
  have I0 := Lib.hid (h.next ((Below.refl w.heap.size w).alloc (Nat.le_refl _) (.cells #[.slice a0 n0 c0, .slice a1 n1 c1, .slice a2 n2 c2] 34)))
  have A0 := Lib.hid (ha.next ((Below.refl w.heap.size w).alloc (Nat.le_refl _) (.cells #[.slice a0 n0 c0, .slice a1 n1 c1, .slice a2 n2 c2] 34)))
  have HS1 := Lib.hid s1
  have HS2 := Lib.hid s2
  have HGA := Lib.hid hga
  have HS0 := Lib.hid s0
  have HT2 := Lib.hid h.2.2.len
  have HLA := Lib.hid ha.len
  have HT1 := Lib.hid h.2.1.len
  obtain ⟨bb, hbb⟩ : ∃ q, ansOk gs vs t1 t2 = q := ⟨_, rfl⟩
  obtain ⟨R, hR⟩ : ∃ q, ansR gs vs t1 t2 = q := ⟨_, rfl⟩
  have HBB := Lib.hid hbb
  have HRR := Lib.hid hR
  rw [hbb, hR]
  clear h ha s0 s1 s2 hga hbb hR
  cases hg : graphOk gs
  · have HF : Hid (bb = false ∧ R = []) := Lib.hid (by rw [← HBB.out, ← HRR.out]; exact ans_none (ansRows_g hg))
    have Cg := fun (W : World) (hi : IsTris W a la ca gs) => specGraphOk a la ca gs W hi HGA.out.sm
    rw [hg] at Cg
    have HG := Lib.hid Cg
    clear Cg
    clear hg
    go_enter Tryz.func10, Tryz.ntmps10
    obtain ⟨xv0, xv1, xv2⟩ := X0.out.now.tre
    go_wp2_with fail
    refine (HG.out _ A0.out).mono ?_
    rintro e w1 ⟨rfl, hb⟩
    clear xv0 xv1 xv2
    have B1 := Lib.hid (B0.out.trans (hb.mono B0.out.size))
    have X1 := Lib.hid (X0.out.next hb)
    have I1 := Lib.hid (I0.out.next hb)
    have A1 := Lib.hid (A0.out.next hb)
    clear hb B0 X0 I0 A0
    obtain ⟨xv0, xv1, xv2⟩ := X1.out.now.tre
    go_wp2_with fail
    go_ret2
    exact ⟨none, 0, 0, by rw [HF.out.1]; rfl, by rw [HF.out.2]; exact isRows_nil _, B1.out⟩
  cases hq : queryOk vs t1 t2
  · have HF : Hid (bb = false ∧ R = []) := Lib.hid (by rw [← HBB.out, ← HRR.out]; exact ans_none (ansRows_q hq))
    have Cq := fun (W : World) (hi : IsQry W a0 a1 a2 n0 n1 n2 c0 c1 c2 vs t1 t2) => specQueryOk a0 a1 a2 n0 n1 n2 c0 c1 c2 vs t1 t2 W hi HS1.out.sm HS2.out.sm l0
    rw [hq] at Cq
    have HQ := Lib.hid Cq
    clear Cq
    have Cg := fun (W : World) (hi : IsTris W a la ca gs) => specGraphOk a la ca gs W hi HGA.out.sm
    rw [hg] at Cg
    have HG := Lib.hid Cg
    clear Cg
    clear hq hg
    go_enter Tryz.func10, Tryz.ntmps10
    obtain ⟨xv0, xv1, xv2⟩ := X0.out.now.tre
    go_wp2_with fail
    refine (HG.out _ A0.out).mono ?_
    rintro e w1 ⟨rfl, hb⟩
    clear xv0 xv1 xv2
    have B1 := Lib.hid (B0.out.trans (hb.mono B0.out.size))
    have X1 := Lib.hid (X0.out.next hb)
    have I1 := Lib.hid (I0.out.next hb)
    have A1 := Lib.hid (A0.out.next hb)
    clear hb B0 X0 I0 A0
    obtain ⟨xv0, xv1, xv2⟩ := X1.out.now.tre
    go_wp2_with fail
    refine (HQ.out _ I1.out).mono ?_
    rintro e w2 ⟨rfl, hb⟩
    clear xv0 xv1 xv2
    have B2 := Lib.hid (B1.out.trans (hb.mono B1.out.size))
    have X2 := Lib.hid (X1.out.next hb)
    have I2 := Lib.hid (I1.out.next hb)
    have A2 := Lib.hid (A1.out.next hb)
    clear hb B1 X1 I1 A1
    obtain ⟨xv0, xv1, xv2⟩ := X2.out.now.tre
    go_wp2_with fail
    go_ret2
    exact ⟨none, 0, 0, by rw [HF.out.1]; rfl, by rw [HF.out.2]; exact isRows_nil _, B2.out⟩
  have Cq := fun (W : World) (hi : IsQry W a0 a1 a2 n0 n1 n2 c0 c1 c2 vs t1 t2) => specQueryOk a0 a1 a2 n0 n1 n2 c0 c1 c2 vs t1 t2 W hi HS1.out.sm HS2.out.sm l0
  rw [hq] at Cq
  have HQ := Lib.hid Cq
  clear Cq
  have HBG := Lib.hid (queryOk_bgp hq)
  obtain ⟨rs, hrs⟩ : ∃ q, solR gs t1 = q := ⟨_, rfl⟩
  have HRS := Lib.hid hrs
  have HSM : Hid (SmR rs) := Lib.hid (by rw [← hrs]; exact solR_sm HGA.out HS1.out)
  have Cg := fun (W : World) (hi : IsTris W a la ca gs) => specGraphOk a la ca gs W hi HGA.out.sm
  rw [hg] at Cg
  have HG := Lib.hid Cg
  clear Cg
  obtain ⟨e1, e2⟩ := solOk_yes (gs := gs) (ls := t1) (by rw [hg, HBG.out.1]; rfl)
  have Cs := fun (W : World) (hx : IsTris W a la ca gs) (hy : IsTris W a1 n1 c1 t1) => specSolve a a1 none la ca n1 c1 0 0 gs t1 [] W hx hy (isPres_nil W) (by rw [← HLA.out]; exact (graphOk_iff.1 hg).1) (by rw [← HT1.out]; exact (bgpOk_iff.1 HBG.out.1).1) (by omega) HGA.out HS1.out (fun u hu => by simp at hu)
  unfold SolvePost at Cs
  rw [← e1, ← e2, hrs] at Cs
  clear e1 e2
  clear hrs
  cases hs : solOk gs t1
  · have HF : Hid (bb = false ∧ R = []) := Lib.hid (by rw [← HBB.out, ← HRR.out]; exact ans_none (ansRows_s hs))
    rw [hs] at Cs
    have HS := Lib.hid Cs
    clear Cs hs hq hg
    go_enter Tryz.func10, Tryz.ntmps10
    obtain ⟨xv0, xv1, xv2⟩ := X0.out.now.tre
    go_wp2_with fail
    refine (HG.out _ A0.out).mono ?_
    rintro e w1 ⟨rfl, hb⟩
    clear xv0 xv1 xv2
    have B1 := Lib.hid (B0.out.trans (hb.mono B0.out.size))
    have X1 := Lib.hid (X0.out.next hb)
    have I1 := Lib.hid (I0.out.next hb)
    have A1 := Lib.hid (A0.out.next hb)
    clear hb B0 X0 I0 A0
    obtain ⟨xv0, xv1, xv2⟩ := X1.out.now.tre
    go_wp2_with fail
    refine (HQ.out _ I1.out).mono ?_
    rintro e w2 ⟨rfl, hb⟩
    clear xv0 xv1 xv2
    have B2 := Lib.hid (B1.out.trans (hb.mono B1.out.size))
    have X2 := Lib.hid (X1.out.next hb)
    have I2 := Lib.hid (I1.out.next hb)
    have A2 := Lib.hid (A1.out.next hb)
    clear hb B1 X1 I1 A1
    obtain ⟨xv0, xv1, xv2⟩ := X2.out.now.tre
    go_wp2_with fail
    refine (HS.out _ A2.out I2.out.2.1).mono ?_
    rintro e w3 ⟨rx, rn, rc, rfl, ri, hb⟩
    clear xv0 xv1 xv2
    have B3 := Lib.hid (B2.out.trans (hb.mono B2.out.size))
    have X3 := Lib.hid (X2.out.next hb)
    have I3 := Lib.hid (I2.out.next hb)
    have A3 := Lib.hid (A2.out.next hb)
    clear hb B2 X2 I2 A2
    clear ri
    obtain ⟨xv0, xv1, xv2⟩ := X3.out.now.tre
    go_wp2_with fail
    go_ret2
    exact ⟨none, 0, 0, by rw [HF.out.1]; rfl, by rw [HF.out.2]; exact isRows_nil _, B3.out⟩
  rw [hs] at Cs
  have HS := Lib.hid Cs
  clear Cs
  by_cases hn2 : n2 = 0
  · have HF : Hid (bb = projOk rs vs ∧ R = projR rs vs) := Lib.hid (by rw [← HBB.out, ← HRR.out, ← HRS.out]; exact ans_some (ansRows_0 hq hs (by rw [HT2.out]; exact hn2)))
    have HP := Lib.hid (fun (x : Option Addr) (n c : Nat) (W : World) (hx : IsRows W x n c rs) (hy : IsStrs W a0 n0 c0 vs) => specProjected x a0 n c n0 c0 rs vs W hx hy HSM.out HS0.out l0)
    have hz : ¬ 0 < n2 := by omega
    clear hq hs hn2 hg
    go_enter Tryz.func10, Tryz.ntmps10
    obtain ⟨xv0, xv1, xv2⟩ := X0.out.now.tre
    go_wp2_with fail
    refine (HG.out _ A0.out).mono ?_
    rintro e w1 ⟨rfl, hb⟩
    clear xv0 xv1 xv2
    have B1 := Lib.hid (B0.out.trans (hb.mono B0.out.size))
    have X1 := Lib.hid (X0.out.next hb)
    have I1 := Lib.hid (I0.out.next hb)
    have A1 := Lib.hid (A0.out.next hb)
    clear hb B0 X0 I0 A0
    obtain ⟨xv0, xv1, xv2⟩ := X1.out.now.tre
    go_wp2_with fail
    refine (HQ.out _ I1.out).mono ?_
    rintro e w2 ⟨rfl, hb⟩
    clear xv0 xv1 xv2
    have B2 := Lib.hid (B1.out.trans (hb.mono B1.out.size))
    have X2 := Lib.hid (X1.out.next hb)
    have I2 := Lib.hid (I1.out.next hb)
    have A2 := Lib.hid (A1.out.next hb)
    clear hb B1 X1 I1 A1
    obtain ⟨xv0, xv1, xv2⟩ := X2.out.now.tre
    go_wp2_with fail
    refine (HS.out _ A2.out I2.out.2.1).mono ?_
    rintro e w3 ⟨rx, rn, rc, rfl, ri, hb⟩
    clear xv0 xv1 xv2
    have B3 := Lib.hid (B2.out.trans (hb.mono B2.out.size))
    have X3 := Lib.hid (X2.out.next hb)
    have I3 := Lib.hid (I2.out.next hb)
    have A3 := Lib.hid (A2.out.next hb)
    clear hb B2 X2 I2 A2
    have Y3 := Lib.hid ri
    clear ri
    obtain ⟨xv0, xv1, xv2⟩ := X3.out.now.tre
    go_wp2_with fail
    refine (HP.out _ _ _ _ Y3.out I3.out.1.1).mono ?_
    rintro e wz ⟨ra, rn2, rc2, rfl, rj, hb⟩
    clear xv0 xv1 xv2
    have BZ := Lib.hid (B3.out.trans (hb.mono B3.out.size))
    have HO := Lib.hid rj
    clear rj
    clear hb B3 X3 I3 A3 Y3
    go_wp2_with fail
    go_ret2
    exact ⟨_, _, _, by rw [HF.out.1]; rfl, by rw [HF.out.2]; exact HO.out, BZ.out⟩
  have hz : 0 < n2 := by omega
  have hn3 : ¬ t2.length = 0 := by rw [HT2.out]; exact hn2
  have Cx := fun (x : Option Addr) (n c : Nat) (W : World) (hx : IsTris W a la ca gs) (hr : IsRows W x n c rs) (hy : IsTris W a2 n2 c2 t2) => specExtended a x a2 la ca n c n2 c2 gs rs t2 W hx hr hy HGA.out HSM.out HS2.out
  unfold ExtPost at Cx
  cases hx : extOk gs rs t2
  · have HF : Hid (bb = false ∧ R = []) := Lib.hid (by rw [← HBB.out, ← HRR.out]; exact ans_none (ansRows_y hn3 (by rw [HRS.out]; exact hx)))
    rw [hx] at Cx
    have HX := Lib.hid Cx
    clear Cx hx hq hs hn2 hn3 hg
    go_enter Tryz.func10, Tryz.ntmps10
    obtain ⟨xv0, xv1, xv2⟩ := X0.out.now.tre
    go_wp2_with fail
    refine (HG.out _ A0.out).mono ?_
    rintro e w1 ⟨rfl, hb⟩
    clear xv0 xv1 xv2
    have B1 := Lib.hid (B0.out.trans (hb.mono B0.out.size))
    have X1 := Lib.hid (X0.out.next hb)
    have I1 := Lib.hid (I0.out.next hb)
    have A1 := Lib.hid (A0.out.next hb)
    clear hb B0 X0 I0 A0
    obtain ⟨xv0, xv1, xv2⟩ := X1.out.now.tre
    go_wp2_with fail
    refine (HQ.out _ I1.out).mono ?_
    rintro e w2 ⟨rfl, hb⟩
    clear xv0 xv1 xv2
    have B2 := Lib.hid (B1.out.trans (hb.mono B1.out.size))
    have X2 := Lib.hid (X1.out.next hb)
    have I2 := Lib.hid (I1.out.next hb)
    have A2 := Lib.hid (A1.out.next hb)
    clear hb B1 X1 I1 A1
    obtain ⟨xv0, xv1, xv2⟩ := X2.out.now.tre
    go_wp2_with fail
    refine (HS.out _ A2.out I2.out.2.1).mono ?_
    rintro e w3 ⟨rx, rn, rc, rfl, ri, hb⟩
    clear xv0 xv1 xv2
    have B3 := Lib.hid (B2.out.trans (hb.mono B2.out.size))
    have X3 := Lib.hid (X2.out.next hb)
    have I3 := Lib.hid (I2.out.next hb)
    have A3 := Lib.hid (A2.out.next hb)
    clear hb B2 X2 I2 A2
    have Y3 := Lib.hid ri
    clear ri
    obtain ⟨xv0, xv1, xv2⟩ := X3.out.now.tre
    go_wp2_with fail
    refine (HX.out _ _ _ _ A3.out Y3.out I3.out.2.2).mono ?_
    rintro e w4 ⟨rx2, rn2, rc2, rfl, rj, hb⟩
    clear xv0 xv1 xv2
    have B4 := Lib.hid (B3.out.trans (hb.mono B3.out.size))
    have X4 := Lib.hid (X3.out.next hb)
    have I4 := Lib.hid (I3.out.next hb)
    have A4 := Lib.hid (A3.out.next hb)
    have Y4 := Lib.hid (Y3.out.next hb)
    clear hb B3 X3 I3 A3 Y3
    clear rj
    obtain ⟨xv0, xv1, xv2⟩ := X4.out.now.tre
    go_wp2_with fail
    go_ret2
    exact ⟨none, 0, 0, by rw [HF.out.1]; rfl, by rw [HF.out.2]; exact isRows_nil _, B4.out⟩
  · obtain ⟨us, hus⟩ : ∃ q, extR gs rs t2 = q := ⟨_, rfl⟩
    have HSU : Hid (SmR us) := Lib.hid (by rw [← hus]; exact extR_sm HGA.out HSM.out HS2.out)
    have HF : Hid (bb = projOk us vs ∧ R = projR us vs) := Lib.hid (by rw [← HBB.out, ← HRR.out, ← hus, ← HRS.out]; exact ans_some (ansRows_x hq hs hn3 (by rw [HRS.out]; exact hx)))
    rw [hx, hus] at Cx
    have HX := Lib.hid Cx
    have HP := Lib.hid (fun (x : Option Addr) (n c : Nat) (W : World) (hx : IsRows W x n c us) (hy : IsStrs W a0 n0 c0 vs) => specProjected x a0 n c n0 c0 us vs W hx hy HSU.out HS0.out l0)
    clear Cx hx hq hs hn2 hn3 hus hg
    go_enter Tryz.func10, Tryz.ntmps10
    obtain ⟨xv0, xv1, xv2⟩ := X0.out.now.tre
    go_wp2_with fail
    refine (HG.out _ A0.out).mono ?_
    rintro e w1 ⟨rfl, hb⟩
    clear xv0 xv1 xv2
    have B1 := Lib.hid (B0.out.trans (hb.mono B0.out.size))
    have X1 := Lib.hid (X0.out.next hb)
    have I1 := Lib.hid (I0.out.next hb)
    have A1 := Lib.hid (A0.out.next hb)
    clear hb B0 X0 I0 A0
    obtain ⟨xv0, xv1, xv2⟩ := X1.out.now.tre
    go_wp2_with fail
    refine (HQ.out _ I1.out).mono ?_
    rintro e w2 ⟨rfl, hb⟩
    clear xv0 xv1 xv2
    have B2 := Lib.hid (B1.out.trans (hb.mono B1.out.size))
    have X2 := Lib.hid (X1.out.next hb)
    have I2 := Lib.hid (I1.out.next hb)
    have A2 := Lib.hid (A1.out.next hb)
    clear hb B1 X1 I1 A1
    obtain ⟨xv0, xv1, xv2⟩ := X2.out.now.tre
    go_wp2_with fail
    refine (HS.out _ A2.out I2.out.2.1).mono ?_
    rintro e w3 ⟨rx, rn, rc, rfl, ri, hb⟩
    clear xv0 xv1 xv2
    have B3 := Lib.hid (B2.out.trans (hb.mono B2.out.size))
    have X3 := Lib.hid (X2.out.next hb)
    have I3 := Lib.hid (I2.out.next hb)
    have A3 := Lib.hid (A2.out.next hb)
    clear hb B2 X2 I2 A2
    have Y3 := Lib.hid ri
    clear ri
    obtain ⟨xv0, xv1, xv2⟩ := X3.out.now.tre
    go_wp2_with fail
    refine (HX.out _ _ _ _ A3.out Y3.out I3.out.2.2).mono ?_
    rintro e w4 ⟨rx, rn, rc, rfl, ri, hb⟩
    clear xv0 xv1 xv2
    have B4 := Lib.hid (B3.out.trans (hb.mono B3.out.size))
    have X4 := Lib.hid (X3.out.next hb)
    have I4 := Lib.hid (I3.out.next hb)
    have A4 := Lib.hid (A3.out.next hb)
    have Y4 := Lib.hid (Y3.out.next hb)
    clear hb B3 X3 I3 A3 Y3
    clear Y4
    have Y4 := Lib.hid ri
    clear ri
    obtain ⟨xv0, xv1, xv2⟩ := X4.out.now.tre
    go_wp2_with fail
    refine (HP.out _ _ _ _ Y4.out I4.out.1.1).mono ?_
    rintro e wz ⟨ra, rn2, rc2, rfl, rj, hb⟩
    clear xv0 xv1 xv2
    have BZ := Lib.hid (B4.out.trans (hb.mono B4.out.size))
    have HO := Lib.hid rj
    clear rj
    clear hb B4 X4 I4 A4 Y4
    go_wp2_with fail
    go_ret2
    exact ⟨_, _, _, by rw [HF.out.1]; rfl, by rw [HF.out.2]; exact HO.out, BZ.out⟩
end Go.Proofs.YtiajdnhmjdfeeaaGreat
namespace Go.Proofs.YtiajdnhmjdfeeaaGreat
open Go.RowKit Go.WideShapes Go.Maps
theorem ownT_off {B : Nat} {w w' : World} {v : Value} {ts : List Tri3} {row : Option Nat} (h : OwnT B w v ts) (gx : w.grownBy w' row) (hr : ∀ j, row = some j → j < B) : OwnT B w' v ts := by
  have hlt := fun j hj => (World.ownsRow.lt h j hj).1
  refine World.ownsRow.kept h gx ?_
  rcases hob : Value.ownBlock v with _ | j
  · exact .inl rfl
  · refine .inr fun e => ?_
    have h1 := hlt j hob
    have h2 := hr j e.symm
    omega
theorem ownS_strs {B : Nat} {w : World} {a : Option Addr} {n c : Nat} {ts : List ByteArray} (h : OwnS B w (.slice a n c) ts) : IsStrs w a n c ts := by
  obtain ⟨x, y, e, hi⟩ := h.is
  simp only [Value.slice.injEq] at e
  obtain ⟨rfl, rfl, rfl⟩ := e
  exact hi
theorem ownT_tris {B : Nat} {w : World} {a : Option Addr} {n c : Nat} {ts : List Tri3} (h : OwnT B w (.slice a n c) ts) (hm : ∀ t ∈ ts, t.1.size ≤ maxLen ∧ t.2.1.size ≤ maxLen ∧ t.2.2.size ≤ maxLen) : IsTris w a n c ts := by
  obtain ⟨x, y, e, hi⟩ := h.is hm
  simp only [Value.slice.injEq] at e
  obtain ⟨rfl, rfl, rfl⟩ := e
  exact hi
/-- What is known of a drawn query. -/
def SmQ3 (vs : List ByteArray) (t1 t2 : List Tri3) : Prop := (vs.length ≤ 4 ∧ ∀ x ∈ vs, x.size ≤ 20) ∧ (t1.length ≤ 3 ∧ SmA t1) ∧ (t2.length ≤ 3 ∧ SmA t2)
set_option maxRecDepth 100000 in
set_option maxHeartbeats 3200000 in
theorem drawAnswer (w : World) (a : Option Addr) (len cap : Nat) (zs : List Int) (hrow : Frame.IsRow .u8 w a len cap zs) :
    Calls Tryz.prog 22 #[.slice a len cap] w fun e w' => ∃ (v : Value) (ts : List Tri3) (a0 a1 a2 : Option Addr) (n0 n1 n2 c0 c1 c2 : Nat) (vs : List ByteArray) (t1 t2 : List Tri3), e = .returned (.tuple #[v, .agg #[.slice a0 n0 c0, .slice a1 n1 c1, .slice a2 n2 c2]]) ∧ GotG w' v ts ∧ IsQry w' a0 a1 a2 n0 n1 n2 c0 c1 c2 vs t1 t2 ∧ SmQ3 vs t1 t2 ∧ w.grownBy w' none := by
  obtain ⟨W1, hW1⟩ : ∃ W, w.alloc (.cells #[.slice none 0 0, .slice none 0 0, .slice none 0 0] 34) = W := ⟨_, rfl⟩
  have g0 : w.grownBy W1 none := by rw [← hW1]; exact World.grownBy_alloc w _ none
  have z1 : W1.heap.size = w.heap.size + 1 := by rw [← hW1]; simp
  have Y0 : Hid (Holds w.heap.size (w.heap.size + 1) W1 (Cells w.heap.size #[.slice none 0 0, .slice none 0 0, .slice none 0 0] 34)) := Lib.hid (by rw [← hW1]; exact cells_new w _ _)
  have HR := Lib.hid (isRow_grown hrow g0)
  have HW := Lib.hid hW1
  have G0 := Lib.hid g0
  clear hrow g0 hW1
  go_enter Tryz.func22, Tryz.ntmps22
  go_wp2_with fail
  rw [HW.out]
  refine (rdOpen _ _ _ _ _ HR.out).mono ?_
  rintro e w1 ⟨rfl, r1, g1⟩
  rw [z1] at r1
  have l1 := r1.2.1
  have Y1 := Lib.hid (hold_off Y0.out g1 (fun j e => by cases e))
  have G1 := Lib.hid (grown_off G0.out g1 (fun j e => by cases e))
  have hz1 := g1.size
  clear g1 Y0 G0
  go_wp2_with fail
  refine (rdGraph _ _ _ r1 9 (by omega)).mono ?_
  rintro e w2 ⟨v, ts, rfl, s2, o2, r2, g2⟩
  have G2 := Lib.hid (grown_off G1.out g2 (fun j e => by cases e; omega))
  have Y2 := Lib.hid (hold_off Y1.out g2 (fun j e => by cases e; omega))
  clear g2 r1 Y1 G1
  go_wp2_with fail
  refine (rdQuery _ w1.heap.size _ _ r2 v ts o2 l1 s2).mono ?_
  rintro e w3 ⟨a0, a1, a2, n0, n1, n2, c0, c1, c2, vs, t1, t2, rfl, hv, h1, h2, ov, o1, o3, r3, g3⟩
  have hz2 : w.heap.size < w2.heap.size := by have := Y2.out.le; omega
  have Y3 := hold_off Y2.out g3 (fun j e => by cases e; omega)
  have hlw : w.heap.size < w1.heap.size := by omega
  have G3 := Lib.hid (grown_off G2.out g3 (fun j e => by cases e; omega))
  have ow := Lib.hid (ownT_off o2 g3 (fun j e => by cases e; omega))
  have HV := Lib.hid ov
  have H1 := Lib.hid o1
  have H2 := Lib.hid o3
  have HQ : Hid (SmQ3 vs t1 t2) := Lib.hid ⟨hv, h1, h2⟩
  have HS := Lib.hid s2
  obtain ⟨y0, y1, y2⟩ := Y3.now.tre
  obtain ⟨f0, f1, f2⟩ := Y3.now.freeQ
  clear g3 r2 r3 Y2 G2 o2 ov o1 o3 hv h1 h2 s2
  go_wp2_with fail
  have E : ∀ (W : World), (∀ k, k ≠ w.heap.size → W.heap[k]? = w3.heap[k]?) → w3.heap.size = W.heap.size → W.os = w3.os → W.tape = w3.tape → W.output = w3.output → w3.grownBy W (some w.heap.size) := fun W hk hz ho ht hp => ⟨ho, ht, hp, Nat.le_of_eq hz, fun k _ hne => hk k (fun e => hne (by rw [e]))⟩
  have gx : w3.grownBy (((w3.setCell ⟨w.heap.size, 0, none⟩ (.slice a0 n0 c0)).setCell ⟨w.heap.size, 1, none⟩ (.slice a1 n1 c1)).setCell ⟨w.heap.size, 2, none⟩ (.slice a2 n2 c2)) (some w.heap.size) :=
    E _ (fun k hk => by rw [Below.heap_setCell _ _ _ _ hk, Below.heap_setCell _ _ _ _ hk, Below.heap_setCell _ _ _ _ hk]) (by simp [World.setCell]) rfl rfl rfl
  have fT := got_of (ownT_off ow.out gx (fun j e => by cases e; omega)) HS.out
  have fV := ownS_strs (ownS_off HV.out gx (fun j e => by cases e; omega))
  have f1' := ownT_tris (ownT_off H1.out gx (fun j e => by cases e; omega)) (fun t ht => by have := HQ.out.2.1.2 t ht; unfold maxLen; omega)
  have f2' := ownT_tris (ownT_off H2.out gx (fun j e => by cases e; omega)) (fun t ht => by have := HQ.out.2.2.2 t ht; unfold maxLen; omega)
  refine bodyPost_ret (v := .tuple #[v, .agg #[.slice a0 n0 c0, .slice a1 n1 c1, .slice a2 n2 c2]]) (by simp [results, Tryz.results22, go_sem, *]) rfl ⟨v, ts, a0, a1, a2, n0, n1, n2, c0, c1, c2, vs, t1, t2, rfl, fT, ⟨⟨fV, fun t ht => by have := HQ.out.1.2 t ht; unfold maxLen; omega⟩, f1', f2'⟩, HQ.out, grown_setNew (grown_setNew (grown_setNew G3.out (Nat.le_refl _) _) (Nat.le_refl _) _) (Nat.le_refl _) _⟩
end Go.Proofs.YtiajdnhmjdfeeaaGreat
namespace Go.Proofs.YtiajdnhmjdfeeaaGreat
open Go.RowKit Go.WideShapes Go.Maps Go.Sort Go.Shelf
theorem ltP_asymm {t u : Pre2} (h : LtP t u) : ¬ LtP u t := by
  unfold LtP at *
  intro g
  rw [ltb_asymm _ _ h] at g
  cases g
theorem ascP_nodup {g : List Pre2} (h : AscP g) : g.Nodup := List.Pairwise.imp (fun {a b} h e => by subst e; exact ltP_asymm h h) h
theorem asc_ext {g h : RowV} (hg : Asc g) (hh : Asc h) (hm : ∀ u, u ∈ g ↔ u ∈ h) : g = h := by
  have hg := asc_iff.1 hg
  have hh := asc_iff.1 hh
  exact List.Perm.eq_of_pairwise (le := LtP) (fun x y _ _ h1 h2 => absurd h2 (ltP_asymm h1)) hg hh ((List.perm_ext_iff_of_nodup (ascP_nodup hg) (ascP_nodup hh)).2 hm)
/-- Two pairs of one name that differ. -/
def Clash (S : Pre2 → Prop) : Prop := ∃ x y : Pre2, S x ∧ S y ∧ x.1 = y.1 ∧ x ≠ y
/-- Just these pairs, in order. -/
def JustP (h : RowV) (S : Pre2 → Prop) : Prop := Asc h ∧ ∀ u, u ∈ h ↔ S u
theorem JustP.one {h k : RowV} {S : Pre2 → Prop} (a : JustP h S) (b : JustP k S) : h = k := asc_ext a.1 b.1 (fun u => (a.2 u).trans (b.2 u).symm)
def newS (p t : ByteArray) (u : Pre2) : Prop := isVarK p.data.toList = true ∧ u = (p, t)
def FitS (p t : ByteArray) : Prop := isVarK p.data.toList = false → p = t
def newT (p t : Tri3) (u : Pre2) : Prop := newS p.1 t.1 u ∨ newS p.2.1 t.2.1 u ∨ newS p.2.2 t.2.2 u
def FitT (p t : Tri3) : Prop := FitS p.1 t.1 ∧ FitS p.2.1 t.2.1 ∧ FitS p.2.2 t.2.2
/-- How many pairs of triples agree: of all first ones up to i; of a first row with the second ones up to k. -/
def cntA (gs : List Tri3) (p q : Tri3) (i : Nat) : Nat := (joinM gs q (joinM (gs.take i) p [[]])).length
def cntB (gs : List Tri3) (q : Tri3) (o : Option RowV) (k : Nat) : Nat := (joinM (gs.take k) q o.toList).length
end Go.Proofs.YtiajdnhmjdfeeaaGreat
