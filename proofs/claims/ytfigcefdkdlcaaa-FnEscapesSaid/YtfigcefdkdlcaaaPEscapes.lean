/- FnEscapes returns true for every code: what is escaped comes back, and the two pieces of a text, escaped, are the text escaped. -/
import Derived.Test.YtfigcefdkdlcaaaFrame
import Derived.Test.YtfigcefdkdlcaaaUnesc
import Derived.Test.YtfigcefdkdlcaaaDrawT
import Derived.Deep.RegionHeld3
namespace Go.Proofs.Ytfigcefdkdlcaaa
open Go.ChangeShapes Go.WideShapes Go.ChangeAt Go.RowKit
open Go.ChangeMaps (open_string shut_string)
namespace fnEscapes
theorem grown_of_below {w w' : World} (h : Below w.heap.size w w') : w.grownBy w' none := ⟨h.os, h.tape, h.output, h.size, fun k hk _ => h.block k hk⟩
theorem below_of_grown {w w' : World} (h : w.grownBy w' none) : Below w.heap.size w w' := ⟨h.os, h.tape, h.output, h.size, fun k hk => h.block k hk (by simp)⟩
theorem grown_drew {a b : World} (h : a.grownBy b none) : a.grownBy b.drew none := ⟨h.os, h.tape, h.output, h.size, h.block⟩
set_option maxHeartbeats 800000 in
theorem walk (a : Option Addr) (len cap : Nat) (zs : List Int) (w : World) (hrow : Frame.IsRow .u8 w a len cap zs) :
    Calls Try.prog 3 #[.slice a len cap] w fun e w' => e = .returned (.bool true) ∧ Below w.heap.size w w' := by
  have hlen : len ≤ 9223372036854775807 := by
    rcases hrow with ⟨_, rfl, _⟩ | ⟨y, _, h1, h2, _⟩
    · omega
    · unfold maxLen at h2; omega
  by_cases hbig : (1048576 : Int) < len
  · go_enter Try.func3, Try.ntmps3
    go_wp2_with go_in
    go_ret
    exact ⟨rfl, Below.refl _ _⟩
  go_enter Try.func3, Try.ntmps3
  go_wp2_with (go_at_call 15; go_in)
  refine (drawEscaped _ _ _ _ _ hrow).mono ?_
  rintro e w1 ⟨s, hs, rfl, hg1⟩
  go_wp2_with fail
  refine (implEscaped s _ (by omega)).mono ?_
  rintro e w2 ⟨rfl, hb2⟩
  have hg2 := hg1.trans (grown_of_below hb2)
  clear hb2
  have hel := (esc_len s.data.toList).2
  rw [size_len] at hel
  obtain ⟨q, hq⟩ : ∃ q : ByteArray, bs (esc s.data.toList) = q := ⟨_, rfl⟩
  have hql : q.size ≤ 24 := by rw [← hq, bs_size]; omega
  have HQ := Lib.hid hq
  rw [hq]
  clear hel hq
  go_wp2_with fail
  have hun : unesc q.data.toList = some s.data.toList := by rw [← HQ.out, bs_toList, unesc_esc]
  have C := implUnescaped q w2 (by omega)
  rw [hun] at C
  simp only [Option.getD_some, Option.isSome_some, bs_of] at C
  clear hun
  refine C.mono ?_
  clear C
  rintro e w3 ⟨rfl, hb3⟩
  have hg3 := hg2.trans (grown_of_below hb3)
  clear hb3
  obtain ⟨k, hk, hks⟩ : ∃ k : Nat, (len : Int) % ((s.size : Int) + 1) = k ∧ k ≤ s.size := by
    have h1 := Int.emod_nonneg (len : Int) (b := (s.size : Int) + 1) (by omega)
    have h2 := Int.emod_lt_of_pos (len : Int) (b := (s.size : Int) + 1) (by omega)
    exact ⟨((len : Int) % ((s.size : Int) + 1)).toNat, by omega, by omega⟩
  go_wp2_with fail
  rw [hk]
  clear hk
  have hkS : (k : Int) ≤ (s.size : Int) := by omega
  have s1 := fun wx => run_slice_string_h (P := Try.prog) wx 9 s Try.underlying9 .i64 (k : Int) (by omega) (by omega)
  have s2 := fun wx => run_slice_string_l (P := Try.prog) wx 9 s Try.underlying9 .i64 (k : Int) (by omega) (by omega)
  simp only [Int.toNat_natCast] at s1 s2
  have z1 : (s.extract 0 k).size ≤ 12 := by simp; omega
  have z2 : (s.extract k s.size).size ≤ 12 := by simp; omega
  have HJ : Hid (bs (esc (s.extract 0 k).data.toList) ++ bs (esc (s.extract k s.size).data.toList) = q) := Lib.hid (by
    rw [← HQ.out]
    apply bs_eq
    rw [app_toList, bs_toList, bs_toList, ext_toList, ext_toList, take_all _ _ (Nat.le_refl _), List.drop_zero, esc_cut])
  generalize s.extract 0 k = sa at *
  generalize s.extract k s.size = sb at *
  have n1 : (bs (esc sa.data.toList)).size ≤ 24 := by have := (esc_len sa.data.toList).2; rw [size_len] at this; rw [bs_size]; omega
  have n2 : (bs (esc sb.data.toList)).size ≤ 24 := by have := (esc_len sb.data.toList).2; rw [size_len] at this; rw [bs_size]; omega
  obtain ⟨qa, hqa⟩ : ∃ qa : ByteArray, bs (esc sa.data.toList) = qa := ⟨_, rfl⟩
  obtain ⟨qb, hqb⟩ : ∃ qb : ByteArray, bs (esc sb.data.toList) = qb := ⟨_, rfl⟩
  rw [hqa] at n1 HJ
  rw [hqb] at n2 HJ
  have HA := Lib.hid hqa
  have HB := Lib.hid hqb
  clear hqa hqb
  have hadd : ∀ wx : World, (Op.stringOp .add qa qb).run Try.prog wx = .ok (.string q) wx := fun wx => by rw [run_string_add_sum wx _ _ (by omega), HJ.out]
  go_region_held3 (fun w' => True ∧ True) (exact ⟨trivial, trivial⟩) (first
    | (go_at_call 19; refine (specEscaped s _ (by omega)).mono ?_; rintro e w4 ⟨rfl, rfl⟩; rw [HQ.out])
    | (go_at_call_of 17 sa; refine (implEscaped sa _ (by omega)).mono ?_; rintro e w5 ⟨rfl, hb5⟩; rw [HA.out]; have hg5 := grown_of_below hb5; clear hb5)
    | (go_at_call_of 17 sb; refine (implEscaped sb _ (by omega)).mono ?_; rintro e w6 ⟨rfl, hb6⟩; rw [HB.out]; have hg6 := grown_of_below hb6; clear hb6))
  go_wp2_with fail
  have hg7 := (hg3.trans (undrew hg5)).trans hg6
  refine (drawUnescaped _ _ _ _ _ (isRow_grown hrow hg7)).mono ?_
  rintro e w7 ⟨u, hu, rfl, hg8⟩
  have hg9 := hg7.trans hg8
  clear hadd s1 s2 hg1 hg2 hg3 hg5 hg6 hg7 hg8 n1 n2 z1 z2 hql
  cases hx : unesc u.data.toList with
  | none =>
    have C1 := implUnescaped u w7 (by omega)
    rw [hx] at C1
    go_wp2_with fail
    refine C1.mono ?_
    clear C1
    rintro e w8 ⟨rfl, hb8⟩
    have hg10 := hg9.trans (grown_of_below hb8)
    have C2 := specUnescaped u w8 (by omega)
    rw [hx] at C2
    clear hb8
    have HX := Lib.hid hx
    clear hx
    go_wp2_with fail
    refine C2.mono ?_
    clear C2
    rintro e w9 ⟨rfl, rfl⟩
    go_wp2_with fail
    go_ret
    exact ⟨rfl, below_of_grown hg10⟩
  | some x =>
    have hxl := unesc_len _ _ hx
    rw [size_len] at hxl
    have hxe := esc_unesc _ _ hx
    have C1 := implUnescaped u w7 (by omega)
    rw [hx] at C1
    have C3 := fun wx => implEscaped (bs x) wx (by rw [bs_size]; omega)
    simp only [bs_toList, hxe, bs_of] at C3
    have C4 := Lib.hid C3
    clear C3
    clear hxe hxl
    have HX := Lib.hid hx
    clear hx
    go_wp2_with fail
    refine C1.mono ?_
    clear C1
    rintro e w8 ⟨rfl, hb8⟩
    have hg10 := hg9.trans (grown_of_below hb8)
    have C2 := specUnescaped u w8 (by omega)
    rw [HX.out] at C2
    clear hb8
    go_wp2_with fail
    refine C2.mono ?_
    clear C2
    rintro e w9 ⟨rfl, rfl⟩
    go_wp2_with fail
    refine (C4.out _).mono ?_
    rintro e w10 ⟨rfl, hb10⟩
    go_wp2_with fail
    go_ret
    exact ⟨rfl, below_of_grown (hg10.trans (grown_of_below hb10))⟩
end fnEscapes
namespace fnEscapes
set_option maxRecDepth 100000 in
theorem lifted (os : Os) (started : os.Started) (H : Type) (enc : TypeId × Value → H) :
    ReturnsInHanded {} Try.checked os 3 .any (Rows.fnEscapesSpec.pre6 enc Try.prog Try.f3 Rows.fnEscapesRow.domain false) (Rows.fnEscapesSpec.post enc Try.prog Try.f3 false true false false) := by
  refine returnsInHanded_of_change (C := Try.checked) Frame.own started (by kernel_rfl) Try.func3
    (ChangeSpec.witness6 (enc := enc) (C := Try.checked) false ⟨#[], #[.slice none 0 0], []⟩ 8 (by kernel_rfl) (by kernel_rfl) (by kernel_rfl) (by kernel_rfl)) ?_
  intro W base args ds gs before hval0 hW hcnd _
  have hval : ∀ (j : Nat) t v, Try.f3.params[j]? = some t → args[j]? = some v → Value.okWide Try.prog W .any base t v := hval0
  have hW' := hW
  obtain ⟨p, q, hA0, hV, rfl, hfz, hnd⟩ := hW
  have hA : DataW.TrodAll enc Try.prog W 0 (fun _ => true) true Try.f3.params.toList args.toList ds p := hA0
  rw [Try.params3] at hA hval
  obtain ⟨v0, vs0, d0, ds0, p0, q0, hargs, rfl, rfl, h0, r0⟩ := trodAll_cons hA
  obtain ⟨rfl, rfl, rfl⟩ := trodAll_nil r0
  obtain rfl : args = #[v0] := by cases args; simp_all
  obtain ⟨rfl, rfl⟩ := trodVars_none hV
  have k0 := h0
  have lt0 : ∀ x ∈ p0, x.block < W.heap.size := by obtain ⟨m, hm⟩ := k0; exact DataW.trod_lt m _ _ _ hm
  obtain ⟨a0, len0, cap0, rfl⟩ := okWide_slice Try.underlying22 (hval 0 22 v0 rfl rfl)
  obtain ⟨z0, w0⟩ : ∃ zs, Frame.IsRow .u8 W a0 len0 cap0 zs := by
    obtain ⟨fuel, hf⟩ := h0
    rcases open_ints Try.underlying22 Try.underlying5 (by kernel_rfl) hf with ⟨hcs, _⟩ | ⟨x, l, c, zs, hcs, _, hl, hm, hz, _, hcell, hwz⟩
    · simp [Value.cells] at hcs
      obtain ⟨rfl, rfl, rfl⟩ := hcs
      exact ⟨[], .inl ⟨rfl, rfl, rfl, rfl⟩⟩
    · simp [Value.cells] at hcs
      obtain ⟨rfl, rfl, rfl⟩ := hcs
      exact ⟨zs, .inr ⟨_, rfl, hl, hm, by simpa using hz, hcell, hwz⟩⟩
  clear hA0 hval0
  refine (walk a0 len0 cap0 z0 W w0).mono fun e W' ⟨he, bel⟩ => ?_
  subst he
  exact ⟨_, rfl, _, _, _, [], _, [], hW', trodAll_mk1 (shut_bool Try.underlying4 _), (trodAll_cons_mk (Below.trod Frame.laidOut (by kernel_rfl) (of_decide_eq_true (by kernel_rfl)) k0 bel lt0) trodAll_mk0), rfl, bel.frame _, fun h => by cases h⟩
theorem proved : Rows.FnEscapesSaid :=
  OpenClaim.holds_of_wide 3 Try.f3 rfl rfl rfl rfl rfl rfl rfl ⟨rfl, rfl, rfl, rfl, rfl⟩ rfl rfl rfl rfl rfl (by kernel_rfl) Try.func3 (by kernel_rfl)
    (of_decide_eq_true (by kernel_rfl)) (by unfold Func.isWrapper; first | (rw [if_pos (by decide +kernel)]; kernel_rfl) | (rw [if_neg (by decide +kernel)]; exact ⟨rfl, rfl⟩))
    (fun os started H enc _ => lifted os started H enc)
end fnEscapes
theorem fnEscapes_holds : Rows.FnEscapesSaid := fnEscapes.proved
end Go.Proofs.Ytfigcefdkdlcaaa
