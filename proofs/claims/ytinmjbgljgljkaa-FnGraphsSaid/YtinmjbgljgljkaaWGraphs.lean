/- The walk of FnGraphs. -/
import Derived.Test.YtinmjbgljgljkaaFrame
import Derived.Test.YtinmjbgljgljkaaDrawGr
import Derived.Test.YtinmjbgljgljkaaReadGM
import Derived.Test.YtinmjbgljgljkaaGraph
namespace Go.Proofs.Ytinmjbgljgljkaa
open Go.RowKit Go.WideShapes
namespace fnGraphs
theorem specOkG {v : Value} {ts : List Tri3} {w : World} (h : GotG w v ts) : Calls Try.prog 21 #[v] w fun e w' => e = .returned (.bool (graphOk ts)) ∧ Below w.heap.size w w' := by
  obtain ⟨x, cap, rfl, h1, _, h2⟩ := h
  exact specGraphOk x _ cap ts w h1 h2.sm
theorem gReadI {s : ByteArray} (hs : s.size ≤ 1048576) {us : List Tri3} (h : resG s.data.toList = some us) (w : World) :
    Calls Try.prog 18 #[.string s] w fun e w' => ∃ v, e = .returned (.tuple #[v, .bool true]) ∧ OwnT w.heap.size w' v us ∧ SmR 1048576 us ∧ Below w.heap.size w w' :=
  (implReadGraph s hs w).mono fun e w' h' => by
    rcases h' with ⟨v, ts, h1, _, h2, h3, h4, h5⟩ | ⟨h1, _⟩
    · rw [h] at h1; cases h1; exact ⟨v, h3, h4, h2, h5⟩
    · rw [h] at h1; cases h1
theorem gReadIN {s : ByteArray} (hs : s.size ≤ 1048576) (h : resG s.data.toList = none) (w : World) :
    Calls Try.prog 18 #[.string s] w fun e w' => e = .returned (.tuple #[.slice none 0 0, .bool false]) ∧ Below w.heap.size w w' :=
  (implReadGraph s hs w).mono fun e w' h' => by
    rcases h' with ⟨v, ts, h1, _⟩ | ⟨_, h2, h3⟩
    · rw [h] at h1; cases h1
    · exact ⟨h2, h3⟩
theorem gReadS {s : ByteArray} (hs : s.size ≤ 1048576) (w : World) :
    Calls Try.prog 24 #[.string s] w fun e w' => ∃ v, e = .returned (.tuple #[v, .bool (resG s.data.toList).isSome]) ∧ Below w.heap.size w w' :=
  (specReadGraph s hs w).mono fun e w' h' => by
    rcases h' with ⟨v, ts, h1, _, _, h3, _, h5⟩ | ⟨h1, h2, h3⟩
    · rw [h1]; exact ⟨v, h3, h5⟩
    · rw [h1]; exact ⟨_, h2, h3⟩
set_option maxRecDepth 100000 in
set_option maxHeartbeats 1600000 in
theorem walk (a : Option Addr) (len cap : Nat) (zs : List Int) (w : World) (hrow : Frame.IsRow .u8 w a len cap zs) :
    Calls Try.prog 3 #[.slice a len cap] w fun e w' => e = .returned (.bool true) ∧ Below w.heap.size w w' := by
  have hlen : len ≤ 9223372036854775807 := by
    rcases hrow with ⟨_, rfl, _⟩ | ⟨y, _, h1, h2, _⟩
    · omega
    · unfold maxLen at h2; omega
  by_cases hbig : (1048576 : Int) < len
  · go_enter Try.func3, Try.ntmps3
    go_wp2_with go_in
    go_ret
    exact ⟨rfl, Below.refl _ _⟩
  go_enter Try.func3, Try.ntmps3
  go_wp2_with (go_at_call 15; go_in)
  refine (drawGraphText _ _ _ _ _ hrow).mono ?_
  rintro e w1 ⟨va, ts, rfl, ha, g1⟩
  have B1 := below_of_grown g1
  have HROW := Lib.hid hrow
  clear g1 hrow hbig hlen
  obtain ⟨q, hq, hql⟩ : ∃ q : ByteArray, bs (graphTextL ts) = q ∧ q.size ≤ 5265 := ⟨_, rfl, by
    obtain ⟨_, _, _, _, _, hs⟩ := ha
    rw [bs_size]; exact text_short hs⟩
  have T1 : Hid (∀ w, GotG w va ts → Calls Try.prog 17 #[va] w fun e w' => e = .returned (.string q) ∧ Below w.heap.size w w') := Lib.hid (fun w h => by rw [← hq]; exact textG h)
  have T2 : Hid (∀ w, GotG w va ts → Calls Try.prog 19 #[va] w fun e w' => e = .returned (.string q) ∧ Below w.heap.size w w') := Lib.hid (fun w h => by rw [← hq]; exact textSG h)
  have HA := Lib.hid ha
  have eqq : (q.toList == q.toList) = true := by simp
  cases hk : graphOk ts
  all_goals
    have O1 : Hid (∀ w, GotG w va ts → Calls Try.prog 20 #[va] w fun e w' => e = .returned (.bool (graphOk ts)) ∧ Below w.heap.size w w') := Lib.hid (fun w h => graphOkG h)
    have O2 : Hid (∀ w, GotG w va ts → Calls Try.prog 21 #[va] w fun e w' => e = .returned (.bool (graphOk ts)) ∧ Below w.heap.size w w') := Lib.hid (fun w h => specOkG h)
    rw [hk] at O1 O2
    obtain ⟨us, hus⟩ : ∃ us, resG q.data.toList = some us ∧ (graphOk ts = true → us = ts) := by
      cases hk' : graphOk ts
      · refine ⟨[], ?_, fun h => by cases h⟩
        rw [← hq, bs_toList]
        unfold graphTextL
        rw [hk', if_neg (by simp), resG_some fin_nil]
        rfl
      · exact ⟨ts, by rw [← hq, bs_toList]; exact resG_text hk', fun _ => rfl⟩
    have R1 := Lib.hid (gReadI (s := q) (by omega) hus.1)
    have HU := Lib.hid hus.2
    clear hus hq ha
    go_wp2_with fail
    refine (T1.out _ HA.out).mono ?_
    rintro e w2 ⟨rfl, hb2⟩
    have HA2 := Lib.hid (HA.out.next hb2)
    have B2 := B1.trans (hb2.mono B1.size)
    clear hb2 B1 HA T1
    go_wp2_with fail
    refine (R1.out _).mono ?_
    rintro e w3 ⟨v5, rfl, o5, _, hb3⟩
    have O5 := Lib.hid o5
    have HA3 := Lib.hid (HA2.out.next hb3)
    have B3 := B2.trans (hb3.mono B2.size)
    clear hb3 B2 HA2 o5 R1
    go_wp2_with fail
    refine (T2.out _ HA3.out).mono ?_
    rintro e w4 ⟨rfl, hb4⟩
    have HA4 := Lib.hid (HA3.out.next hb4)
    have B4 := B3.trans (hb4.mono B3.size)
    have H5 : Hid (graphOk ts = true → GotG w4 v5 ts) := Lib.hid (fun h => GotG.next (got_of (by have := O5.out; rw [HU.out h] at this; exact this) (by obtain ⟨_, _, _, _, _, hs⟩ := HA4.out; exact hs)) hb4)
    clear hb4 B3 HA3 O5 T2 HU
    go_wp2_with fail
    refine (O1.out _ HA4.out).mono ?_
    rintro e w5 ⟨rfl, hb5⟩
    have HA5 := Lib.hid (HA4.out.next hb5)
    have B5 := B4.trans (hb5.mono B4.size)
    have H55 : Hid (graphOk ts = true → GotG w5 v5 ts) := Lib.hid (fun h => (H5.out h).next hb5)
    clear hb5 B4 HA4 H5
    go_wp2_with fail
    refine (O2.out _ HA5.out).mono ?_
    rintro e w6 ⟨rfl, hb6⟩
    have HA6 := Lib.hid (HA5.out.next hb6)
    have B6 := B5.trans (hb6.mono B5.size)
    have H6 : Hid (graphOk ts = true → GotG w6 v5 ts) := Lib.hid (fun h => (H55.out h).next hb6)
    clear hb6 B5 HA5 H55 O2
    go_wp2_with fail
    refine (O1.out _ HA6.out).mono ?_
    rintro e w7 ⟨rfl, hb7⟩
    have HA7 := Lib.hid (HA6.out.next hb7)
    have B7 := B6.trans (hb7.mono B6.size)
    have H7 : Hid (graphOk ts = true → GotG w7 v5 ts) := Lib.hid (fun h => (H6.out h).next hb7)
    clear hb7 B6 HA6 H6 O1
  rotate_left
  · have SM : Hid (∀ w, GotG w v5 ts → GotG w va ts → Calls Try.prog 22 #[v5, va] w fun e w' => e = .returned (.bool true) ∧ Below w.heap.size w w') := Lib.hid (fun w h k => by have := sameG h k; rw [decide_eq_true rfl] at this; exact this)
    have H77 := Lib.hid (H7.out hk)
    clear hk
    go_wp2_with fail
    refine (SM.out _ H77.out HA7.out).mono ?_
    rintro e w8 ⟨rfl, hb8⟩
    have B8 := B7.trans (hb8.mono B7.size)
    clear hb8 B7 HA7 H7 H77 SM
    go_wp2_with fail
    refine (drawReadGraph _ _ _ _ _ (isRow_grown HROW.out (grown_of_below B8))).mono ?_
    rintro e w9 ⟨s, hs, rfl, g9⟩
    have B9 := B8.trans ((below_of_grown g9).mono B8.size)
    have R2 := gReadS (s := s) (by omega)
    clear g9 B8
    cases hr : resG s.data.toList with
    | none =>
      rw [hr] at R2
      have C1 := Lib.hid (gReadIN (s := s) (by omega) hr)
      have C2 : Hid (∀ w, Calls Try.prog 24 #[.string s] w fun e w' => ∃ v, e = .returned (.tuple #[v, .bool false]) ∧ Below w.heap.size w w') := Lib.hid R2
      clear R2 hr
      go_wp2_with fail
      refine (C1.out _).mono ?_
      rintro e w10 ⟨rfl, hb10⟩
      have B10 := B9.trans (hb10.mono B9.size)
      clear hb10 B9 C1
      go_wp2_with fail
      refine (C2.out _).mono ?_
      rintro e w11 ⟨v11, rfl, hb11⟩
      have B11 := B10.trans (hb11.mono B10.size)
      clear hb11 B10 C2
      go_wp2_with fail
      go_ret
      exact ⟨rfl, B11⟩
    | some us' =>
      rw [hr] at R2
      obtain ⟨hg, hx⟩ := text_resG hr
      have C1 := Lib.hid (gReadI (s := s) (by omega) hr)
      have C2 : Hid (∀ w, Calls Try.prog 24 #[.string s] w fun e w' => ∃ v, e = .returned (.tuple #[v, .bool true]) ∧ Below w.heap.size w w') := Lib.hid R2
      have HX : Hid (bs (graphTextL us') = s) := Lib.hid (by rw [hx, bs_of])
      clear R2 hr hg hx
      go_wp2_with fail
      refine (C1.out _).mono ?_
      rintro e w10 ⟨v10, rfl, o10, sm, hb10⟩
      have B10 := B9.trans (hb10.mono B9.size)
      obtain ⟨x10, y10, rfl, i10⟩ := o10.is (fun t ht => by have := sm t ht; unfold maxLen; omega)
      have T3 := fun w h => implGraphText x10 us'.length y10 us' w h (fun t ht => by have := sm t ht; omega)
      rw [HX.out] at T3
      have C3 := Lib.hid T3
      have I10 := Lib.hid i10
      clear hb10 B9 C1 o10 sm T3 i10
      have ess : (s.toList == s.toList) = true := by simp
      generalize us'.length = L at C3 I10 ⊢
      go_wp2_with fail
      refine (C2.out _).mono ?_
      rintro e w11 ⟨v11, rfl, hb11⟩
      have B11 := B10.trans (hb11.mono B10.size)
      have I11 := Lib.hid (IsTris.next I10.out hb11)
      clear hb11 B10 C2 I10
      go_wp2_with fail
      refine (C3.out _ I11.out).mono ?_
      rintro e w12 ⟨rfl, hb12⟩
      have B12 := B11.trans (hb12.mono B11.size)
      clear hb12 B11 I11 C3
      go_wp2_with fail
      go_ret
      exact ⟨rfl, B12⟩
  · have B8 := B7
    clear B7 HA7 H7 hk
    go_wp2_with fail
    refine (drawReadGraph _ _ _ _ _ (isRow_grown HROW.out (grown_of_below B8))).mono ?_
    rintro e w9 ⟨s, hs, rfl, g9⟩
    have B9 := B8.trans ((below_of_grown g9).mono B8.size)
    have R2 := gReadS (s := s) (by omega)
    clear g9 B8
    cases hr : resG s.data.toList with
    | none =>
      rw [hr] at R2
      have C1 := Lib.hid (gReadIN (s := s) (by omega) hr)
      have C2 : Hid (∀ w, Calls Try.prog 24 #[.string s] w fun e w' => ∃ v, e = .returned (.tuple #[v, .bool false]) ∧ Below w.heap.size w w') := Lib.hid R2
      clear R2 hr
      go_wp2_with fail
      refine (C1.out _).mono ?_
      rintro e w10 ⟨rfl, hb10⟩
      have B10 := B9.trans (hb10.mono B9.size)
      clear hb10 B9 C1
      go_wp2_with fail
      refine (C2.out _).mono ?_
      rintro e w11 ⟨v11, rfl, hb11⟩
      have B11 := B10.trans (hb11.mono B10.size)
      clear hb11 B10 C2
      go_wp2_with fail
      go_ret
      exact ⟨rfl, B11⟩
    | some us' =>
      rw [hr] at R2
      obtain ⟨hg, hx⟩ := text_resG hr
      have C1 := Lib.hid (gReadI (s := s) (by omega) hr)
      have C2 : Hid (∀ w, Calls Try.prog 24 #[.string s] w fun e w' => ∃ v, e = .returned (.tuple #[v, .bool true]) ∧ Below w.heap.size w w') := Lib.hid R2
      have HX : Hid (bs (graphTextL us') = s) := Lib.hid (by rw [hx, bs_of])
      clear R2 hr hg hx
      go_wp2_with fail
      refine (C1.out _).mono ?_
      rintro e w10 ⟨v10, rfl, o10, sm, hb10⟩
      have B10 := B9.trans (hb10.mono B9.size)
      obtain ⟨x10, y10, rfl, i10⟩ := o10.is (fun t ht => by have := sm t ht; unfold maxLen; omega)
      have T3 := fun w h => implGraphText x10 us'.length y10 us' w h (fun t ht => by have := sm t ht; omega)
      rw [HX.out] at T3
      have C3 := Lib.hid T3
      have I10 := Lib.hid i10
      clear hb10 B9 C1 o10 sm T3 i10
      have ess : (s.toList == s.toList) = true := by simp
      generalize us'.length = L at C3 I10 ⊢
      go_wp2_with fail
      refine (C2.out _).mono ?_
      rintro e w11 ⟨v11, rfl, hb11⟩
      have B11 := B10.trans (hb11.mono B10.size)
      have I11 := Lib.hid (IsTris.next I10.out hb11)
      clear hb11 B10 C2 I10
      go_wp2_with fail
      refine (C3.out _ I11.out).mono ?_
      rintro e w12 ⟨rfl, hb12⟩
      have B12 := B11.trans (hb12.mono B11.size)
      clear hb12 B11 I11 C3
      go_wp2_with fail
      go_ret
      exact ⟨rfl, B12⟩
end fnGraphs
open Go.ChangeShapes Go.WideShapes Go.ChangeAt Go.RowKit
open Go.ChangeMaps (open_string shut_string)
namespace fnGraphs
set_option maxRecDepth 100000 in
theorem lifted (os : Os) (started : os.Started) (H : Type) (enc : TypeId × Value → H) :
    ReturnsInHanded {} Try.checked os 3 .any (Rows.fnGraphsSpec.pre6 enc Try.prog Try.f3 Rows.fnGraphsRow.domain false) (Rows.fnGraphsSpec.post enc Try.prog Try.f3 false true false false) := by
  refine returnsInHanded_of_change (C := Try.checked) Frame.own started (by kernel_rfl) Try.func3
    (ChangeSpec.witness6 (enc := enc) (C := Try.checked) false ⟨#[], #[.slice none 0 0], []⟩ 8 (by kernel_rfl) (by kernel_rfl) (by kernel_rfl) (by kernel_rfl)) ?_
  intro W base args ds gs before hval0 hW hcnd _
  have hval : ∀ (j : Nat) t v, Try.f3.params[j]? = some t → args[j]? = some v → Value.okWide Try.prog W .any base t v := hval0
  have hW' := hW
  obtain ⟨p, q, hA0, hV, rfl, hfz, hnd⟩ := hW
  have hA : DataW.TrodAll enc Try.prog W 0 (fun _ => true) true Try.f3.params.toList args.toList ds p := hA0
  rw [Try.params3] at hA hval
  obtain ⟨v0, vs0, d0, ds0, p0, q0, hargs, rfl, rfl, h0, r0⟩ := trodAll_cons hA
  obtain ⟨rfl, rfl, rfl⟩ := trodAll_nil r0
  obtain rfl : args = #[v0] := by cases args; simp_all
  obtain ⟨rfl, rfl⟩ := trodVars_none hV
  have k0 := h0
  have lt0 : ∀ x ∈ p0, x.block < W.heap.size := by obtain ⟨m, hm⟩ := k0; exact DataW.trod_lt m _ _ _ hm
  obtain ⟨a0, len0, cap0, rfl⟩ := okWide_slice Try.underlying22 (hval 0 22 v0 rfl rfl)
  obtain ⟨z0, w0⟩ : ∃ zs, Frame.IsRow .u8 W a0 len0 cap0 zs := by
    obtain ⟨fuel, hf⟩ := h0
    rcases open_ints Try.underlying22 Try.underlying5 (by kernel_rfl) hf with ⟨hcs, _⟩ | ⟨x, l, c, zs, hcs, _, hl, hm, hz, _, hcell, hwz⟩
    · simp [Value.cells] at hcs
      obtain ⟨rfl, rfl, rfl⟩ := hcs
      exact ⟨[], .inl ⟨rfl, rfl, rfl, rfl⟩⟩
    · simp [Value.cells] at hcs
      obtain ⟨rfl, rfl, rfl⟩ := hcs
      exact ⟨zs, .inr ⟨_, rfl, hl, hm, by simpa using hz, hcell, hwz⟩⟩
  clear hA0 hval0
  refine (walk a0 len0 cap0 z0 W w0).mono fun e W' ⟨he, bel⟩ => ?_
  subst he
  exact ⟨_, rfl, _, _, _, [], _, [], hW', trodAll_mk1 (shut_bool Try.underlying4 _), (trodAll_cons_mk (Below.trod Frame.laidOut (by kernel_rfl) (of_decide_eq_true (by kernel_rfl)) k0 bel lt0) trodAll_mk0), rfl, bel.frame _, fun h => by cases h⟩
theorem proved : Rows.FnGraphsSaid :=
  OpenClaim.holds_of_wide 3 Try.f3 rfl rfl rfl rfl rfl rfl rfl ⟨rfl, rfl, rfl, rfl, rfl⟩ rfl rfl rfl rfl rfl (by kernel_rfl) Try.func3 (by kernel_rfl)
    (of_decide_eq_true (by kernel_rfl)) (by unfold Func.isWrapper; first | (rw [if_pos (by decide +kernel)]; kernel_rfl) | (rw [if_neg (by decide +kernel)]; exact ⟨rfl, rfl⟩))
    (fun os started H enc _ => lifted os started H enc)
end fnGraphs
theorem fnGraphs_holds : Rows.FnGraphsSaid := fnGraphs.proved
end Go.Proofs.Ytinmjbgljgljkaa
