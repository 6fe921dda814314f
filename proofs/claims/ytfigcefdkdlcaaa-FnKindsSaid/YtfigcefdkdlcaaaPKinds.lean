/- FnKinds returns true for every code: a text in quotes is one of that kind, and has in it what was put in. -/
import Derived.Test.YtfigcefdkdlcaaaFrame
import Derived.Test.YtfigcefdkdlcaaaTextIn
import Derived.Test.YtfigcefdkdlcaaaSpecKO
import Derived.Test.YtfigcefdkdlcaaaDrawT
namespace Go.Proofs.Ytfigcefdkdlcaaa
open Go.ChangeShapes Go.WideShapes Go.ChangeAt Go.RowKit
open Go.ChangeMaps (open_string shut_string)
namespace fnKinds
theorem quoted {l x : List UInt8} (h : textIn l = some x) : 34 :: (esc x ++ [34]) = l := by
  cases l with
  | nil => simp [textIn, shape_nil] at h
  | cons a r =>
    rw [textIn_cons] at h
    split at h
    · rename_i g
      split at h
      · have e := esc_unesc _ _ h
        rw [e, g.1]
        obtain ⟨q, hq⟩ := List.getLast?_eq_some_iff.1 g.2
        rw [hq, List.dropLast_concat]
      · simp at h
    · simp at h
theorem text_len {l x : List UInt8} (h : textIn l = some x) : x.length ≤ l.length := by
  have := quoted h
  have e := (esc_len x).1
  rw [← this]; simp; omega
set_option maxRecDepth 100000 in
set_option maxHeartbeats 800000 in
theorem walk (a : Option Addr) (len cap : Nat) (zs : List Int) (w : World) (hrow : Frame.IsRow .u8 w a len cap zs) :
    Calls Try.prog 4 #[.slice a len cap] w fun e w' => e = .returned (.bool true) ∧ Below w.heap.size w w' := by
  have hlen : len ≤ 9223372036854775807 := by
    rcases hrow with ⟨_, rfl, _⟩ | ⟨y, _, h1, h2, _⟩
    · omega
    · unfold maxLen at h2; omega
  by_cases hbig : (1048576 : Int) < len
  · go_enter Try.func4, Try.ntmps4
    go_wp2_with go_in
    go_ret
    exact ⟨rfl, Below.refl _ _⟩
  go_enter Try.func4, Try.ntmps4
  go_wp2_with (go_at_call 15; go_in)
  refine (drawKindOf _ _ _ _ _ hrow).mono ?_
  rintro e w1 ⟨s, hs, rfl, hg1⟩
  go_wp2_with fail
  refine (implKindOf s (by omega) _).mono ?_
  rintro e w2 ⟨rfl, hb2⟩
  have hg2 := hg1.trans (grown_of_below hb2)
  clear hb2
  go_wp2_with fail
  refine (drawTextIn _ _ _ _ _ (isRow_grown hrow hg2)).mono ?_
  rintro e w3 ⟨t, ht, rfl, hg3'⟩
  have hg3 := hg2.trans hg3'
  clear hg3'
  go_wp2_with fail
  refine (implTextIn t (by omega) _).mono ?_
  rintro e w4 ⟨rfl, hb4⟩
  have hg4 := hg3.trans (grown_of_below hb4)
  clear hb4
  have hk := textIn_kind t.data.toList
  cases hx : textIn t.data.toList with
  | none =>
    have C2 := specTextIn t (by omega) w4
    rw [hx] at hk C2
    have hk2 : ((kindL t.data.toList : Int) == 2) = false := by
      rw [beq_eq_false_iff_ne]; have := of_decide_eq_false hk.symm; omega
    have D2 := Lib.hid C2
    have C3 := implKindOf t (by omega)
    generalize kindL t.data.toList = kt at C3 hk2
    have D3 := Lib.hid C3
    clear hx hk C2 C3
    go_wp2_with fail
    refine D2.out.mono ?_
    rintro e w5 ⟨rfl, rfl⟩
    go_wp2_with fail
    refine (specKindOf s (by omega) _).mono ?_
    rintro e w6 ⟨rfl, hb6⟩
    have hg6 := hg4.trans (grown_of_below hb6)
    clear hb6
    go_wp2_with fail
    refine (D3.out _).mono ?_
    rintro e w7 ⟨rfl, hb7⟩
    go_wp2_with fail
    go_ret
    exact ⟨rfl, below_of_grown (hg6.trans (grown_of_below hb7))⟩
  | some x =>
    have C2 := specTextIn t (by omega) w4
    have hxl := text_len hx
    rw [size_len] at hxl
    have hxq := quoted hx
    rw [hx] at hk C2
    have hk2 : ((kindL t.data.toList : Int) == 2) = true := by
      rw [beq_iff_eq]; have := of_decide_eq_true hk.symm; omega
    have D2 := Lib.hid C2
    have C3 := implKindOf t (by omega)
    generalize kindL t.data.toList = kt at C3 hk2
    have D3 := Lib.hid C3
    have C4 := fun wx => implEscaped (bs x) wx (by rw [bs_size]; omega)
    rw [bs_toList] at C4
    have hel := (esc_len x).2
    have hql : (bs (esc x)).size ≤ 80 := by rw [bs_size]; omega
    have hqq : ({ data := #[34] } ++ bs (esc x) ++ { data := #[34] } : ByteArray) = t := by
      rw [← bs_of t, ← hxq]
      apply bs_eq
      rw [app_toList, app_toList, bs_toList]; rfl
    have HQ := Lib.hid hqq
    have D4 := Lib.hid C4
    clear hx hk C2 C3 C4 hxq hel hqq
    go_wp2_with fail
    refine D2.out.mono ?_
    rintro e w5 ⟨rfl, rfl⟩
    go_wp2_with fail
    refine (specKindOf s (by omega) _).mono ?_
    rintro e w6 ⟨rfl, hb6⟩
    have hg6 := hg4.trans (grown_of_below hb6)
    clear hb6
    go_wp2_with fail
    refine (D3.out _).mono ?_
    rintro e w7 ⟨rfl, hb7⟩
    go_wp2_with fail
    refine (D4.out _).mono ?_
    rintro e w8 ⟨rfl, hb8⟩
    go_wp2_with fail
    go_ret
    exact ⟨by rw [HQ.out]; simp, below_of_grown (hg6.trans ((grown_of_below hb7).trans (grown_of_below hb8)))⟩
end fnKinds
namespace fnKinds
set_option maxRecDepth 100000 in
theorem lifted (os : Os) (started : os.Started) (H : Type) (enc : TypeId × Value → H) :
    ReturnsInHanded {} Try.checked os 4 .any (Rows.fnKindsSpec.pre6 enc Try.prog Try.f4 Rows.fnKindsRow.domain false) (Rows.fnKindsSpec.post enc Try.prog Try.f4 false true false false) := by
  refine returnsInHanded_of_change (C := Try.checked) Frame.own started (by kernel_rfl) Try.func4
    (ChangeSpec.witness6 (enc := enc) (C := Try.checked) false ⟨#[], #[.slice none 0 0], []⟩ 8 (by kernel_rfl) (by kernel_rfl) (by kernel_rfl) (by kernel_rfl)) ?_
  intro W base args ds gs before hval0 hW hcnd _
  have hval : ∀ (j : Nat) t v, Try.f4.params[j]? = some t → args[j]? = some v → Value.okWide Try.prog W .any base t v := hval0
  have hW' := hW
  obtain ⟨p, q, hA0, hV, rfl, hfz, hnd⟩ := hW
  have hA : DataW.TrodAll enc Try.prog W 0 (fun _ => true) true Try.f4.params.toList args.toList ds p := hA0
  rw [Try.params4] at hA hval
  obtain ⟨v0, vs0, d0, ds0, p0, q0, hargs, rfl, rfl, h0, r0⟩ := trodAll_cons hA
  obtain ⟨rfl, rfl, rfl⟩ := trodAll_nil r0
  obtain rfl : args = #[v0] := by cases args; simp_all
  obtain ⟨rfl, rfl⟩ := trodVars_none hV
  have k0 := h0
  have lt0 : ∀ x ∈ p0, x.block < W.heap.size := by obtain ⟨m, hm⟩ := k0; exact DataW.trod_lt m _ _ _ hm
  obtain ⟨a0, len0, cap0, rfl⟩ := okWide_slice Try.underlying22 (hval 0 22 v0 rfl rfl)
  obtain ⟨z0, w0⟩ : ∃ zs, Frame.IsRow .u8 W a0 len0 cap0 zs := by
    obtain ⟨fuel, hf⟩ := h0
    rcases open_ints Try.underlying22 Try.underlying5 (by kernel_rfl) hf with ⟨hcs, _⟩ | ⟨x, l, c, zs, hcs, _, hl, hm, hz, _, hcell, hwz⟩
    · simp [Value.cells] at hcs
      obtain ⟨rfl, rfl, rfl⟩ := hcs
      exact ⟨[], .inl ⟨rfl, rfl, rfl, rfl⟩⟩
    · simp [Value.cells] at hcs
      obtain ⟨rfl, rfl, rfl⟩ := hcs
      exact ⟨zs, .inr ⟨_, rfl, hl, hm, by simpa using hz, hcell, hwz⟩⟩
  clear hA0 hval0
  refine (walk a0 len0 cap0 z0 W w0).mono fun e W' ⟨he, bel⟩ => ?_
  subst he
  exact ⟨_, rfl, _, _, _, [], _, [], hW', trodAll_mk1 (shut_bool Try.underlying4 _), (trodAll_cons_mk (Below.trod Frame.laidOut (by kernel_rfl) (of_decide_eq_true (by kernel_rfl)) k0 bel lt0) trodAll_mk0), rfl, bel.frame _, fun h => by cases h⟩
theorem proved : Rows.FnKindsSaid :=
  OpenClaim.holds_of_wide 4 Try.f4 rfl rfl rfl rfl rfl rfl rfl ⟨rfl, rfl, rfl, rfl, rfl⟩ rfl rfl rfl rfl rfl (by kernel_rfl) Try.func4 (by kernel_rfl)
    (of_decide_eq_true (by kernel_rfl)) (by unfold Func.isWrapper; first | (rw [if_pos (by decide +kernel)]; kernel_rfl) | (rw [if_neg (by decide +kernel)]; exact ⟨rfl, rfl⟩))
    (fun os started H enc _ => lifted os started H enc)
end fnKinds
theorem fnKinds_holds : Rows.FnKindsSaid := fnKinds.proved
end Go.Proofs.Ytfigcefdkdlcaaa
