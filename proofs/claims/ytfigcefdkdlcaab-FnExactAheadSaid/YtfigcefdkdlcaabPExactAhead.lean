/- FnExactAhead returns true at every two triples: both functions tell alike which is ahead; triples of over 2^20 bytes are passed over by the law itself. -/
import Derived.Test.YtfigcefdkdlcaabFrame
import Derived.Test.YtfigcefdkdlcaabTri2
import Derived.Test.YtfigcefdkdlcaabExactT
import Derived.Deep.RegionHeld3
import Derived.Deep.RegionWith
namespace Go.Proofs.Ytfigcefdkdlcaab
open Go.ChangeShapes Go.WideShapes Go.ChangeAt Go.RowKit
open Go.ChangeMaps (open_string shut_string)
namespace fnExactAhead
set_option maxRecDepth 100000 in
set_option maxHeartbeats 1600000 in
theorem walk (s p o s' p' o' : ByteArray) (w : World) (hs : s.size ≤ maxLen) (hp : p.size ≤ maxLen) (ho : o.size ≤ maxLen) (hs' : s'.size ≤ maxLen) (hp' : p'.size ≤ maxLen) (ho' : o'.size ≤ maxLen) :
    Calls Try.prog 8 #[.agg #[.string s, .string p, .string o], .agg #[.string s', .string p', .string o']] w fun e w' => e = .returned (.bool true) ∧ Below w.heap.size w w' := by
  unfold maxLen at hs hp ho hs' hp' ho'
  by_cases hb : (s.size : Int) + p.size + o.size ≤ 1048576
  rotate_left
  · have SZ := szTri s p o 1048576 (by omega) (by omega) hs hp ho
    rw [szT_no hb] at SZ
    have D := Lib.hid SZ
    clear SZ
    go_enter Try.func8, Try.ntmps8
    go_wp2_with fail
    refine (D.out _).mono ?_
    rintro e w1 ⟨rfl, hb1⟩
    go_wp2_with fail
    go_ret
    exact ⟨rfl, (((Below.refl _ _).alloc (Nat.le_refl _) _).alloc (by simp) _).trans (hb1.mono (by simp; omega))⟩
  have SZ := szTri s p o 1048576 (by omega) (by omega) hs hp ho
  rw [szT_yes hb] at SZ
  have D := Lib.hid SZ
  clear SZ
  have l0 : (0 : Int) ≤ 1048576 - s.size - p.size - o.size := by omega
  have l1 : (1048576 : Int) - s.size - p.size - o.size ≤ 1048576 := by omega
  have hl : ¬ (1048576 : Int) - s.size - p.size - o.size < 0 := by omega
  have SZ2 := szTri s' p' o' _ l0 l1 hs' hp' ho'
  have X0 := (Box.new w (.string s) (.string p) (.string o) 27).alloc (.cells #[.string s', .string p', .string o'] 27)
  have Y0 := Box.new (w.alloc (.cells #[.string s, .string p, .string o] 27)) (.string s') (.string p') (.string o') 27
  have B0 := ((Below.refl w.heap.size w).alloc (Nat.le_refl _) (.cells #[.string s, .string p, .string o] 27)).alloc (by simp) (.cells #[.string s', .string p', .string o'] 27)
  have hz : (w.alloc (.cells #[.string s, .string p, .string o] 27)).heap.size = w.heap.size + 1 := by simp
  rw [hz] at Y0
  clear hz
  by_cases hc : (s'.size : Int) + p'.size + o'.size ≤ 1048576 - s.size - p.size - o.size
  rotate_left
  · rw [szT_no hc] at SZ2
    have D2 := Lib.hid SZ2
    clear SZ2
    go_enter Try.func8, Try.ntmps8
    go_wp2_with fail
    refine (D.out _).mono ?_
    rintro e w1 ⟨rfl, hb1⟩
    have Y1 := Y0.next hb1
    have B1 := B0.trans (hb1.mono B0.size)
    obtain ⟨c3, c4, c5⟩ := Y1.cells
    clear hb1 X0 Y0 B0
    go_wp2_with fail
    refine (D2.out _).mono ?_
    rintro e w2 ⟨rfl, hb2⟩
    have B2 := B1.trans (hb2.mono B1.size)
    clear hb2 B1 c3 c4 c5
    go_wp2_with fail
    go_ret
    exact ⟨rfl, B2⟩
  rw [szT_yes hc] at SZ2
  have D2 := Lib.hid SZ2
  clear SZ2
  have hl2 : ¬ (1048576 : Int) - s.size - p.size - o.size - s'.size - p'.size - o'.size < 0 := by omega
  have C1 := Lib.hid (specAhead s p o s' p' o')
  have C2 := Lib.hid (implAhead s p o s' p' o')
  generalize aheadL s.data.toList p.data.toList o.data.toList s'.data.toList p'.data.toList o'.data.toList = r at C1 C2
  go_enter Try.func8, Try.ntmps8
  go_wp2_with fail
  refine (D.out _).mono ?_
  rintro e w1 ⟨rfl, hb1⟩
  have X1 := X0.next hb1
  have Y1 := Y0.next hb1
  have B1 := B0.trans (hb1.mono B0.size)
  obtain ⟨c0, c1, c2⟩ := X1.cells
  obtain ⟨c3, c4, c5⟩ := Y1.cells
  clear hb1 X0 Y0 B0
  go_wp2_with fail
  refine (D2.out _).mono ?_
  clear c0 c1 c2 c3 c4 c5
  rintro e w2 ⟨rfl, hb2⟩
  have X2 := X1.next hb2
  have Y2 := Y1.next hb2
  have B2 := B1.trans (hb2.mono B1.size)
  obtain ⟨c0, c1, c2⟩ := X2.cells
  obtain ⟨c3, c4, c5⟩ := Y2.cells
  clear hb2 X1 Y1 B1
  go_wp2_with fail
  go_region_held3 (fun w' => w'.cell? ⟨w.heap.size, 0, none⟩ = some (.string s) ∧ w'.cell? ⟨w.heap.size, 1, none⟩ = some (.string p) ∧ w'.cell? ⟨w.heap.size, 2, none⟩ = some (.string o) ∧ w'.cell? ⟨w.heap.size + 1, 0, none⟩ = some (.string s') ∧ w'.cell? ⟨w.heap.size + 1, 1, none⟩ = some (.string p') ∧ w'.cell? ⟨w.heap.size + 1, 2, none⟩ = some (.string o'))
    (first | go_keep | (go_split_ands; refine ⟨?_, ?_, ?_, ?_, ?_, ?_⟩ <;> (rw [hc1.cell (by first | (simp; done) | exact World.block_lt_of_cell? _ _ (by assumption))]; assumption)) | (go_split_ands; refine ⟨?_, ?_, ?_, ?_, ?_, ?_⟩ <;> (rw [hb1.cell (by first | (simp; done) | exact World.block_lt_of_cell? _ _ (by assumption))]; assumption)) | (go_split_ands; refine ⟨?_, ?_, ?_, ?_, ?_, ?_⟩ <;> (rw [ha1.cell (by first | (simp; done) | exact World.block_lt_of_cell? _ _ (by assumption))]; assumption)))
    (first
      | (go_at_call_of 21 s; refine (toTri s p o _).mono ?_; rintro e wu1 ⟨rfl, ha1⟩)
      | (go_at_call_of 21 s'; refine (toTri s' p' o' _).mono ?_; rintro e wv1 ⟨rfl, hb1⟩)
      | (go_at_call 28; refine (C1.out _).mono ?_; rintro e wx1 ⟨rfl, hc1⟩))
  go_split_ands
  have D3 := ((B2.drew.trans (ha1.mono B2.size)).trans (hb1.mono (B2.drew.trans (ha1.mono B2.size)).size))
  have B3 := D3.trans (hc1.mono D3.size)
  clear ha1 hb1 hc1 D3 B2 X2 Y2
  go_wp2_with fail
  go_region_held3 (fun w' => w'.cell? ⟨w.heap.size, 0, none⟩ = some (.string s) ∧ w'.cell? ⟨w.heap.size, 1, none⟩ = some (.string p) ∧ w'.cell? ⟨w.heap.size, 2, none⟩ = some (.string o) ∧ w'.cell? ⟨w.heap.size + 1, 0, none⟩ = some (.string s') ∧ w'.cell? ⟨w.heap.size + 1, 1, none⟩ = some (.string p') ∧ w'.cell? ⟨w.heap.size + 1, 2, none⟩ = some (.string o'))
    (first | go_keep | (go_split_ands; refine ⟨?_, ?_, ?_, ?_, ?_, ?_⟩ <;> (rw [hc2.cell (by first | (simp; done) | exact World.block_lt_of_cell? _ _ (by assumption))]; assumption)) | (go_split_ands; refine ⟨?_, ?_, ?_, ?_, ?_, ?_⟩ <;> (rw [hb2.cell (by first | (simp; done) | exact World.block_lt_of_cell? _ _ (by assumption))]; assumption)) | (go_split_ands; refine ⟨?_, ?_, ?_, ?_, ?_, ?_⟩ <;> (rw [ha2.cell (by first | (simp; done) | exact World.block_lt_of_cell? _ _ (by assumption))]; assumption)))
    (first
      | (go_at_call_of 21 s; refine (toTri s p o _).mono ?_; rintro e wu2 ⟨rfl, ha2⟩)
      | (go_at_call_of 21 s'; refine (toTri s' p' o' _).mono ?_; rintro e wv2 ⟨rfl, hb2⟩)
      | (go_at_call 29; refine (C2.out _).mono ?_; rintro e wx2 ⟨rfl, hc2⟩))
  go_split_ands
  have D4 := ((B3.drew.trans (ha2.mono B3.size)).trans (hb2.mono (B3.drew.trans (ha2.mono B3.size)).size))
  have B4 := D4.trans (hc2.mono D4.size)
  clear ha2 hb2 hc2 D4 B3
  go_wp2_with fail
  go_ret
  exact ⟨rfl, B4⟩
end fnExactAhead
namespace fnExactAhead
set_option maxRecDepth 100000 in
theorem lifted (os : Os) (started : os.Started) (H : Type) (enc : TypeId × Value → H) :
    ReturnsInHanded {} Try.checked os 8 .any (Rows.fnExactAheadSpec.pre6 enc Try.prog Try.f8 Rows.fnExactAheadRow.domain false) (Rows.fnExactAheadSpec.post enc Try.prog Try.f8 false true false false) := by
  refine returnsInHanded_of_change (C := Try.checked) Frame.own started (by kernel_rfl) Try.func8
    (ChangeSpec.witness6 (enc := enc) (C := Try.checked) false ⟨#[], #[.agg #[.string ByteArray.empty, .string ByteArray.empty, .string ByteArray.empty], .agg #[.string ByteArray.empty, .string ByteArray.empty, .string ByteArray.empty]], []⟩ 8 (by kernel_rfl) (by kernel_rfl) (by kernel_rfl) (by kernel_rfl)) ?_
  intro W base args ds gs before hval0 hW hcnd _
  have hval : ∀ (j : Nat) t v, Try.f8.params[j]? = some t → args[j]? = some v → Value.okWide Try.prog W .any base t v := hval0
  have hW' := hW
  obtain ⟨p, q, hA0, hV, rfl, hfz, hnd⟩ := hW
  have hA : DataW.TrodAll enc Try.prog W 0 (fun _ => true) true Try.f8.params.toList args.toList ds p := hA0
  rw [Try.params8] at hA hval
  obtain ⟨v0, vs0, d0, ds0, p0, q0, hargs, rfl, rfl, h0, r0⟩ := trodAll_cons hA
  obtain ⟨v1, vs1, d1, ds1, p1, q1, rfl, rfl, rfl, h1, r1⟩ := trodAll_cons r0
  obtain ⟨rfl, rfl, rfl⟩ := trodAll_nil r1
  obtain rfl : args = #[v0, v1] := by cases args; simp_all
  obtain ⟨rfl, rfl⟩ := trodVars_none hV
  have k0 := h0
  have lt0 : ∀ x ∈ p0, x.block < W.heap.size := by obtain ⟨m, hm⟩ := k0; exact DataW.trod_lt m _ _ _ hm
  obtain ⟨c00, c01, c02, y00, y01, y02, m0, rfl, e0, f0, g00, g01, g02⟩ := Joins.open_agg3 Try.underlying27 (by kernel_rfl) Frame.cells3 (hval 0 27 v0 rfl rfl) h0
  obtain ⟨s0, e00, _, w00⟩ := DataW.trod_string Try.underlying9 g00
  obtain ⟨p0', e01, _, w01⟩ := DataW.trod_string Try.underlying9 g01
  obtain ⟨o0, e02, _, w02⟩ := DataW.trod_string Try.underlying9 g02
  simp only [List.cons.injEq, and_true] at e00 e01 e02
  subst e00 e01 e02
  have k1 := h1
  have lt1 : ∀ x ∈ p1, x.block < W.heap.size := by obtain ⟨m, hm⟩ := k1; exact DataW.trod_lt m _ _ _ hm
  obtain ⟨c10, c11, c12, y10, y11, y12, m1, rfl, e1, f1, g10, g11, g12⟩ := Joins.open_agg3 Try.underlying27 (by kernel_rfl) Frame.cells3 (hval 1 27 v1 rfl rfl) h1
  obtain ⟨s1, e10, _, w10⟩ := DataW.trod_string Try.underlying9 g10
  obtain ⟨p1', e11, _, w11⟩ := DataW.trod_string Try.underlying9 g11
  obtain ⟨o1, e12, _, w12⟩ := DataW.trod_string Try.underlying9 g12
  simp only [List.cons.injEq, and_true] at e10 e11 e12
  subst e10 e11 e12
  clear hA0 hval0
  refine (walk s0 p0' o0 s1 p1' o1 W w00 w01 w02 w10 w11 w12).mono fun e W' ⟨he, bel⟩ => ?_
  subst he
  exact ⟨_, rfl, _, _, _, [], _, [], hW', trodAll_mk1 (shut_bool Try.underlying4 _), (trodAll_cons_mk (Below.trod Frame.laidOut (by kernel_rfl) (of_decide_eq_true (by kernel_rfl)) k0 bel lt0) (trodAll_cons_mk (Below.trod Frame.laidOut (by kernel_rfl) (of_decide_eq_true (by kernel_rfl)) k1 bel lt1) trodAll_mk0)), rfl, bel.frame _, fun h => by cases h⟩
theorem proved : Rows.FnExactAheadSaid :=
  OpenClaim.holds_of_wide 8 Try.f8 rfl rfl rfl rfl rfl rfl rfl ⟨rfl, rfl, rfl, rfl, rfl⟩ rfl rfl rfl rfl rfl (by kernel_rfl) Try.func8 (by kernel_rfl)
    (of_decide_eq_true (by kernel_rfl)) (by unfold Func.isWrapper; first | (rw [if_pos (by decide +kernel)]; kernel_rfl) | (rw [if_neg (by decide +kernel)]; exact ⟨rfl, rfl⟩))
    (fun os started H enc _ => lifted os started H enc)
end fnExactAhead
theorem fnExactAhead_holds : Rows.FnExactAheadSaid := fnExactAhead.proved
end Go.Proofs.Ytfigcefdkdlcaab
