/- FnExactTripleText returns true at every triple: both functions write the same text; one of over 2^20 bytes is passed over by the law itself. -/
import Derived.Test.YtinmjbgljgljkaaFrame
import Derived.Test.YtinmjbgljgljkaaTri2
import Derived.Test.YtinmjbgljgljkaaExactT
namespace Go.Proofs.Ytinmjbgljgljkaa
open Go.ChangeShapes Go.WideShapes Go.ChangeAt Go.RowKit
open Go.ChangeMaps (open_string shut_string)
namespace fnExactTripleText
set_option maxRecDepth 100000 in
set_option maxHeartbeats 800000 in
theorem walk (s p o : ByteArray) (w : World) (hs : s.size ≤ maxLen) (hp : p.size ≤ maxLen) (ho : o.size ≤ maxLen) :
    Calls Try.prog 10 #[.agg #[.string s, .string p, .string o]] w fun e w' => e = .returned (.bool true) ∧ Below w.heap.size w w' := by
  unfold maxLen at hs hp ho
  by_cases hb : (s.size : Int) + p.size + o.size ≤ 1048576
  rotate_left
  · have SZ := szTri s p o 1048576 (by omega) (by omega) hs hp ho
    rw [szT_no hb] at SZ
    have D := Lib.hid SZ
    clear SZ
    go_enter Try.func10, Try.ntmps10
    go_wp2_with fail
    refine (D.out _).mono ?_
    rintro e w1 ⟨rfl, hb1⟩
    go_wp2_with fail
    go_ret
    exact ⟨rfl, ((Below.refl _ _).alloc (Nat.le_refl _) _).trans (hb1.mono (by simp))⟩
  · have SZ := szTri s p o 1048576 (by omega) (by omega) hs hp ho
    rw [szT_yes hb] at SZ
    have D := Lib.hid SZ
    clear SZ
    have hl : ¬ (1048576 : Int) - s.size - p.size - o.size < 0 := by omega
    have hs2 : s.size ≤ 2097152 := by omega
    have hp2 : p.size ≤ 2097152 := by omega
    have ho2 : o.size ≤ 2097152 := by omega
    have C1 := Lib.hid (specTripleText s p o hs2 hp2 ho2)
    have C2 := Lib.hid (implTripleText s p o hs2 hp2 ho2)
    generalize bs (triText s.data.toList p.data.toList o.data.toList) = r at C1 C2
    go_enter Try.func10, Try.ntmps10
    go_wp2_with fail
    refine (D.out _).mono ?_
    rintro e w1 ⟨rfl, hb1⟩
    have c0 : w1.cell? ⟨w.heap.size, 0, none⟩ = some (.string s) := by rw [hb1.cell (by simp)]; simp
    have c1 : w1.cell? ⟨w.heap.size, 1, none⟩ = some (.string p) := by rw [hb1.cell (by simp)]; simp
    have c2 : w1.cell? ⟨w.heap.size, 2, none⟩ = some (.string o) := by rw [hb1.cell (by simp)]; simp
    have B1 := ((Below.refl _ _).alloc (Nat.le_refl _) _).trans (hb1.mono (by simp))
    clear hb1
    go_wp2_with fail
    refine (toTri s p o _).mono ?_
    rintro e w2 ⟨rfl, hb2⟩
    have B2 := B1.trans (hb2.mono B1.size)
    have l1 : w.heap.size < w1.heap.size := World.block_lt_of_cell? _ _ c0
    have d0 : w2.cell? ⟨w.heap.size, 0, none⟩ = some (.string s) := (hb2.cell (p := ⟨w.heap.size, 0, none⟩) l1).trans c0
    have d1 : w2.cell? ⟨w.heap.size, 1, none⟩ = some (.string p) := (hb2.cell (p := ⟨w.heap.size, 1, none⟩) l1).trans c1
    have d2 : w2.cell? ⟨w.heap.size, 2, none⟩ = some (.string o) := (hb2.cell (p := ⟨w.heap.size, 2, none⟩) l1).trans c2
    clear hb2 B1 c0 c1 c2 l1
    go_wp2_with fail
    refine (C1.out _).mono ?_
    rintro e w3 ⟨rfl, hb3⟩
    have B3 := B2.trans (hb3.mono B2.size)
    have l2 : w.heap.size < w2.heap.size := World.block_lt_of_cell? _ _ d0
    have e0 : w3.cell? ⟨w.heap.size, 0, none⟩ = some (.string s) := (hb3.cell (p := ⟨w.heap.size, 0, none⟩) l2).trans d0
    have e1 : w3.cell? ⟨w.heap.size, 1, none⟩ = some (.string p) := (hb3.cell (p := ⟨w.heap.size, 1, none⟩) l2).trans d1
    have e2 : w3.cell? ⟨w.heap.size, 2, none⟩ = some (.string o) := (hb3.cell (p := ⟨w.heap.size, 2, none⟩) l2).trans d2
    clear hb3 B2 d0 d1 d2 l2
    go_wp2_with fail
    refine (toTri s p o _).mono ?_
    rintro e w4 ⟨rfl, hb4⟩
    have B4 := B3.trans (hb4.mono B3.size)
    clear hb4 B3 e0 e1 e2
    go_wp2_with fail
    refine (C2.out _).mono ?_
    rintro e w5 ⟨rfl, hb5⟩
    have B5 := B4.trans (hb5.mono B4.size)
    clear hb5 B4
    go_wp2_with fail
    go_ret
    exact ⟨rfl, B5⟩
end fnExactTripleText
namespace fnExactTripleText
set_option maxRecDepth 100000 in
theorem lifted (os : Os) (started : os.Started) (H : Type) (enc : TypeId × Value → H) :
    ReturnsInHanded {} Try.checked os 10 .any (Rows.fnExactTripleTextSpec.pre6 enc Try.prog Try.f10 Rows.fnExactTripleTextRow.domain false) (Rows.fnExactTripleTextSpec.post enc Try.prog Try.f10 false true false false) := by
  refine returnsInHanded_of_change (C := Try.checked) Frame.own started (by kernel_rfl) Try.func10
    (ChangeSpec.witness6 (enc := enc) (C := Try.checked) false ⟨#[], #[.agg #[.string ByteArray.empty, .string ByteArray.empty, .string ByteArray.empty]], []⟩ 8 (by kernel_rfl) (by kernel_rfl) (by kernel_rfl) (by kernel_rfl)) ?_
  intro W base args ds gs before hval0 hW hcnd _
  have hval : ∀ (j : Nat) t v, Try.f10.params[j]? = some t → args[j]? = some v → Value.okWide Try.prog W .any base t v := hval0
  have hW' := hW
  obtain ⟨p, q, hA0, hV, rfl, hfz, hnd⟩ := hW
  have hA : DataW.TrodAll enc Try.prog W 0 (fun _ => true) true Try.f10.params.toList args.toList ds p := hA0
  rw [Try.params10] at hA hval
  obtain ⟨v0, vs0, d0, ds0, p0, q0, hargs, rfl, rfl, h0, r0⟩ := trodAll_cons hA
  obtain ⟨rfl, rfl, rfl⟩ := trodAll_nil r0
  obtain rfl : args = #[v0] := by cases args; simp_all
  obtain ⟨rfl, rfl⟩ := trodVars_none hV
  have k0 := h0
  have lt0 : ∀ x ∈ p0, x.block < W.heap.size := by obtain ⟨m, hm⟩ := k0; exact DataW.trod_lt m _ _ _ hm
  obtain ⟨c00, c01, c02, y00, y01, y02, m0, rfl, e0, f0, g00, g01, g02⟩ := Joins.open_agg3 Try.underlying46 (by kernel_rfl) Frame.cells3 (hval 0 46 v0 rfl rfl) h0
  obtain ⟨s0, e00, _, w00⟩ := DataW.trod_string Try.underlying9 g00
  obtain ⟨p0', e01, _, w01⟩ := DataW.trod_string Try.underlying9 g01
  obtain ⟨o0, e02, _, w02⟩ := DataW.trod_string Try.underlying9 g02
  simp only [List.cons.injEq, and_true] at e00 e01 e02
  subst e00 e01 e02
  clear hA0 hval0
  refine (walk s0 p0' o0 W w00 w01 w02).mono fun e W' ⟨he, bel⟩ => ?_
  subst he
  exact ⟨_, rfl, _, _, _, [], _, [], hW', trodAll_mk1 (shut_bool Try.underlying4 _), (trodAll_cons_mk (Below.trod Frame.laidOut (by kernel_rfl) (of_decide_eq_true (by kernel_rfl)) k0 bel lt0) trodAll_mk0), rfl, bel.frame _, fun h => by cases h⟩
theorem proved : Rows.FnExactTripleTextSaid :=
  OpenClaim.holds_of_wide 10 Try.f10 rfl rfl rfl rfl rfl rfl rfl ⟨rfl, rfl, rfl, rfl, rfl⟩ rfl rfl rfl rfl rfl (by kernel_rfl) Try.func10 (by kernel_rfl)
    (of_decide_eq_true (by kernel_rfl)) (by unfold Func.isWrapper; first | (rw [if_pos (by decide +kernel)]; kernel_rfl) | (rw [if_neg (by decide +kernel)]; exact ⟨rfl, rfl⟩))
    (fun os started H enc _ => lifted os started H enc)
end fnExactTripleText
theorem fnExactTripleText_holds : Rows.FnExactTripleTextSaid := fnExactTripleText.proved
end Go.Proofs.Ytinmjbgljgljkaa
