/- The walk of FnMerged. -/
import Derived.Test.YthnpchcfjkepaaaG00
import Derived.Test.YthnpchcfjkepaaaG27
namespace Go.Proofs.Ythnpchcfjkepaaa
open Go.RowKit Go.WideShapes
abbrev GraC (w : World) (b i : Nat) (v : Value) : Prop := w.cell? ⟨b, i, none⟩ = some v
theorem gra_next {w w' : World} {b i : Nat} {v : Value} (h : GraC w b i v) (hb : Below w.heap.size w w') : GraC w' b i v := (hb.cell (World.block_lt_of_cell? _ _ h)).trans h
namespace fnMerged
def anyHas (ts : List NamV) (t : Tri3) : Bool := ts.any fun r => decide (t ∈ r.2)
theorem anyHas_step {ts : List NamV} {k : Nat} {r : NamV} {t : Tri3} (h : ts[k]? = some r) : anyHas (ts.take (k + 1)) t = (anyHas (ts.take k) t || decide (t ∈ r.2)) := by
  unfold anyHas
  rw [List.take_add_one, h, Option.toList_some, List.any_append]
  simp
theorem merged_ok {ts : List NamV} {u : List Tri3} (h : mergeO ts = some u) : graphOk u = true ∧ (∀ r ∈ ts, inAll r.2 u = true) ∧ ∀ t ∈ u, anyHas ts t = true := by
  obtain ⟨h1, rfl, h3⟩ := mergeO_some h
  refine ⟨graphOk_iff.2 ⟨h3, fun t ht => ?_, mergeL_rising ts⟩, fun r hr => inAll_of fun t ht => mergeL_mem.2 ⟨r, hr, ht⟩, fun t ht => ?_⟩
  · obtain ⟨r, hr, hu⟩ := mergeL_mem.1 ht
    have := dataOk_nam h1 r hr
    unfold namT at this
    rw [Bool.and_eq_true, Bool.and_eq_true] at this
    exact graphOk_okT this.2.1 t hu
  · obtain ⟨r, hr, hu⟩ := mergeL_mem.1 ht
    exact List.any_eq_true.2 ⟨r, hr, decide_eq_true hu⟩
set_option maxRecDepth 100000 in
set_option maxHeartbeats 6400000 in
theorem walk (a : Option Addr) (len cap : Nat) (zs : List Int) (w : World) (hrow : Frame.IsRow .u8 w a len cap zs) :
    Calls Try.prog 3 #[.slice a len cap] w fun e w' => e = .returned (.bool true) ∧ Below w.heap.size w w' := by
  have hlen : len ≤ 9223372036854775807 := by
    rcases hrow with ⟨_, rfl, _⟩ | ⟨y, _, h1, h2, _⟩
    · omega
    · unfold maxLen at h2; omega
  by_cases hbig : (1048576 : Int) < len
  · go_enter Try.func3, Try.ntmps3
    go_wp2_with go_in
    go_ret
    exact ⟨rfl, Below.refl _ _⟩
  go_enter Try.func3, Try.ntmps3
  go_wp2_with (go_at_call 7; go_in)
  refine (drawDataMerged _ _ _ _ _ hrow).mono ?_
  rintro e w1 ⟨va, ts, rfl, ha, g0⟩
  have B1 := Lib.hid (below_of_grown g0)
  obtain ⟨xa, ca, rfl⟩ := ha.shape
  obtain ⟨nt, hnt⟩ : ∃ n, ts.length = n := ⟨_, rfl⟩
  rw [hnt] at ha ⊢
  have HNT := Lib.hid hnt
  have hnt7 : nt ≤ 7 := by have := ha.1.1; omega
  have A1 := Lib.hid ha
  have ST : Hid (∀ (x y : Value) (l : List Tri3) (w : World), GotT w x l → GotT w y l → Calls Try.prog 11 #[x, y] w fun e w' => e = .returned (.bool true) ∧ Below w.heap.size w w') := Lib.hid (fun x y l w h k => by have := sameT h k; rwa [decide_eq_true rfl] at this)
  obtain ⟨r, hr⟩ : ∃ r, mergeO ts = r := ⟨_, rfl⟩
  have I1 : ∀ x w, GotN w x ts → Calls Try.prog 9 #[x] w (GotResT r w) := fun x w h => by rw [← hr]; exact implMergedN h
  have I2 : ∀ x w, GotN w x ts → Calls Try.prog 10 #[x] w (GotResT r w) := fun x w h => by rw [← hr]; exact specMergedN h
  have HR := Lib.hid hr
  clear hrow hbig hlen g0 ha hr hnt
  cases r with
  | none =>
    change ∀ x w, GotN w x ts → Calls Try.prog 9 #[x] w (fun e w' => ∃ z, e = .returned (.tuple #[z, .bool false]) ∧ GotT w' z [] ∧ Below w.heap.size w w') at I1
    change ∀ x w, GotN w x ts → Calls Try.prog 10 #[x] w (fun e w' => ∃ z, e = .returned (.tuple #[z, .bool false]) ∧ GotT w' z [] ∧ Below w.heap.size w w') at I2
    have J1 := Lib.hid I1
    have J2 := Lib.hid I2
    clear I1 I2
    go_wp2_with fail
    refine (J1.out _ _ A1.out).mono ?_
    rintro e w2 ⟨vu, rfl, hu, hb⟩
    have B2 := Lib.hid (B1.out.trans (hb.mono B1.out.size))
    have A2 := Lib.hid (A1.out.next hb)
    clear hb B1 A1
    have U2 := Lib.hid hu
    clear hu
    go_wp2_with fail
    refine (J2.out _ _ A2.out).mono ?_
    rintro e w3 ⟨vw, rfl, hw, hb⟩
    have B3 := Lib.hid (B2.out.trans (hb.mono B2.out.size))
    have A3 := Lib.hid (A2.out.next hb)
    have U3 := Lib.hid (U2.out.next hb)
    clear hb B2 A2 U2
    have V3 := Lib.hid hw
    clear hw
    go_wp2_with fail
    refine (ST.out _ _ _ _ U3.out V3.out).mono ?_
    rintro e w4 ⟨rfl, hb⟩
    have B4 := Lib.hid (B3.out.trans (hb.mono B3.out.size))
    have A4 := Lib.hid (A3.out.next hb)
    have U4 := Lib.hid (U3.out.next hb)
    have V4 := Lib.hid (V3.out.next hb)
    clear hb B3 A3 U3 V3
    go_wp2_with fail
    refine (ST.out _ _ _ _ U4.out V4.out).mono ?_
    rintro e w5 ⟨rfl, hb⟩
    have B5 := Lib.hid (B4.out.trans (hb.mono B4.out.size))
    have A5 := Lib.hid (A4.out.next hb)
    have U5 := Lib.hid (U4.out.next hb)
    have V5 := Lib.hid (V4.out.next hb)
    clear hb B4 A4 U4 V4
    go_wp2_with fail
    go_ret
    exact ⟨rfl, B5.out⟩
  | some u =>
    change ∀ x w, GotN w x ts → Calls Try.prog 9 #[x] w (fun e w' => ∃ z, e = .returned (.tuple #[z, .bool true]) ∧ GotT w' z u ∧ Below w.heap.size w w') at I1
    change ∀ x w, GotN w x ts → Calls Try.prog 10 #[x] w (fun e w' => ∃ z, e = .returned (.tuple #[z, .bool true]) ∧ GotT w' z u ∧ Below w.heap.size w w') at I2
    have J1 := Lib.hid I1
    have J2 := Lib.hid I2
    clear I1 I2
    go_wp2_with fail
    refine (J1.out _ _ A1.out).mono ?_
    rintro e w2 ⟨vu, rfl, hu, hb⟩
    have B2 := Lib.hid (B1.out.trans (hb.mono B1.out.size))
    have A2 := Lib.hid (A1.out.next hb)
    clear hb B1 A1
    have U2 := Lib.hid hu
    clear hu
    go_wp2_with fail
    refine (J2.out _ _ A2.out).mono ?_
    rintro e w3 ⟨vw, rfl, hw, hb⟩
    have B3 := Lib.hid (B2.out.trans (hb.mono B2.out.size))
    have A3 := Lib.hid (A2.out.next hb)
    have U3 := Lib.hid (U2.out.next hb)
    clear hb B2 A2 U2
    have V3 := Lib.hid hw
    clear hw
    go_wp2_with fail
    refine (ST.out _ _ _ _ U3.out V3.out).mono ?_
    rintro e w4 ⟨rfl, hb⟩
    have B4 := Lib.hid (B3.out.trans (hb.mono B3.out.size))
    have A4 := Lib.hid (A3.out.next hb)
    have U4 := Lib.hid (U3.out.next hb)
    have V4 := Lib.hid (V3.out.next hb)
    clear hb B3 A3 U3 V3
    clear V4
    obtain ⟨hg, hin, hany⟩ := merged_ok HR.out
    have HIN := Lib.hid hin
    have HANY := Lib.hid hany
    have GOK : Hid (∀ x w, GotT w x u → Calls Try.prog 14 #[x] w fun e w' => e = .returned (.bool true) ∧ Below w.heap.size w w') := Lib.hid (fun x w h => by have := graphOkT h; rw [hg] at this; exact this)
    obtain ⟨xm, cm, rfl⟩ := U4.out.shape
    obtain ⟨nu, hnu⟩ : ∃ n, u.length = n := ⟨_, rfl⟩
    rw [hnu] at U4 ⊢
    have HNU := Lib.hid hnu
    have hnu81 : nu ≤ 81 := by obtain ⟨_, _, _, _, hs⟩ := U4.out; have := hs.1; omega
    clear hg hin hany hnu HR
    go_wp2_with fail
    go_loopw [8] (fun i wr => ∃ j : Nat, j ≤ nt ∧ i = .int .i64 j ∧ Hid (GotN wr (.slice xa nt ca) ts) ∧ Hid (GotT wr (.slice xm nu cm) u) ∧ Hid (Below w.heap.size w wr)) (fun i _ => nt - (intOf i).toNat)
    case atStart => exact ⟨0, Nat.zero_le _, rfl, A4, U4, B4⟩
    case round =>
      obtain ⟨j, hj, rfl, A0, U0, B0⟩ := hrel
      clear A4 U4 B4
      have hj6 : (0 : Int) ≤ (j : Int) := by omega
      by_cases hlt : j < nt
      · obtain ⟨hsd, _, _, hve, hi⟩ := A0.out
        rw [HNT.out] at hve hi
        simp only [Value.slice.injEq, true_and] at hve
        obtain ⟨rfl, rfl⟩ := hve
        obtain ⟨b, off, rfl, hb, _, _, hts, hc⟩ := hi.cells (by omega)
        have ht : ts[j]? = some (ts[j]'(by omega)) := List.getElem?_eq_getElem (by omega)
        obtain ⟨a1, n1, k1, c0, c1, hz1, m1⟩ := hc j _ ht
        have hzt := hsd.2 _ (List.mem_of_getElem? ht)
        have hmem := List.mem_of_getElem? ht
        generalize ts[j]'(by omega) = r at ht hz1 hzt c0 m1 hmem
        have G0 : Hid (GotT wr (.slice a1 n1 k1) r.2) := Lib.hid ⟨a1, k1, by rw [← hz1.len], by rw [hz1.len]; exact hz1, hzt.2⟩
        have W1 : Hid (∀ x y w, GotT w x r.2 → GotT w y u → Calls Try.prog 12 #[x, y] w fun e w' => e = .returned (.bool true) ∧ Below w.heap.size w w') := Lib.hid (fun x y w h k => by have := withinT h k; rw [HIN.out r hmem] at this; exact this)
        have hj7 : (j : Int) < (nt : Int) := by omega
        clear ht hts hc hz1 hsd hi m1 hzt c0 hmem hb
        go_wp2_with fail
        refine (W1.out _ _ _ G0.out U0.out).mono ?_
        rintro e w1 ⟨rfl, hb⟩
        have B1 := Lib.hid (B0.out.trans (hb.mono B0.out.size))
        have A1 := Lib.hid (A0.out.next hb)
        have U1 := Lib.hid (U0.out.next hb)
        have G1 := Lib.hid (G0.out.next hb)
        clear hb B0 A0 U0 G0
        clear c1
        go_wp2_with fail
        go_roundw
        case rel => exact ⟨j + 1, by omega, by go_num, A1, U1, B1⟩
        case measure => simp [intOf]; omega
      · go_wp2_with fail
        clear hlt hj hj6
        go_loopw [9] (fun i wr => ∃ j : Nat, j ≤ nu ∧ i = .int .i64 j ∧ Hid (GotN wr (.slice xa nt ca) ts) ∧ Hid (GotT wr (.slice xm nu cm) u) ∧ Hid (Below w.heap.size w wr)) (fun i _ => nu - (intOf i).toNat)
        case atStart => exact ⟨0, Nat.zero_le _, rfl, A0, U0, B0⟩
        case round =>
          obtain ⟨i, hi, rfl, A1, U1, B1⟩ := hrel
          clear A0 U0 B0
          have hi6 : (0 : Int) ≤ (i : Int) := by omega
          by_cases hlt : i < nu
          · have hi7 : (i : Int) < (nu : Int) := by omega
            go_wp2_with fail
            obtain ⟨wo, hwo⟩ : ∃ y, wr = y := ⟨_, rfl⟩
            have htu : u[i]? = some (u[i]'(by have := HNU.out; omega)) := List.getElem?_eq_getElem _
            have hav := HANY.out _ (List.mem_of_getElem? htu)
            generalize u[i]'(by have := HNU.out; omega) = t at htu hav
            have HTU := Lib.hid htu
            have HAV := Lib.hid hav
            clear htu hav
            go_loopw [10, 11] (fun th i2 wr => ∃ k : Nat, k ≤ nt ∧ i2 = .int .i64 k ∧ th = .bool (anyHas (ts.take k) t) ∧ Hid (GotN wr (.slice xa nt ca) ts) ∧ Hid (GotT wr (.slice xm nu cm) u) ∧ Hid (Below w.heap.size w wr)) (fun _ i2 _ => nt - (intOf i2).toNat)
            case atStart => exact ⟨0, Nat.zero_le _, rfl, rfl, A1, U1, B1⟩
            case round =>
              obtain ⟨k, hk, rfl, rfl, A0, U0, B0⟩ := hrel
              clear A1 U1 B1 hwo
              have hk6 : (0 : Int) ≤ (k : Int) := by omega
              by_cases hlk : k < nt
              · have hk7 : (k : Int) < (nt : Int) := by omega
                obtain ⟨hsd, _, _, hve, hi⟩ := A0.out
                rw [HNT.out] at hve hi
                simp only [Value.slice.injEq, true_and] at hve
                obtain ⟨rfl, rfl⟩ := hve
                obtain ⟨b, off, rfl, hb, _, _, hts, hc⟩ := hi.cells (by omega)
                have ht : ts[k]? = some (ts[k]'(by omega)) := List.getElem?_eq_getElem (by omega)
                obtain ⟨a1, n1, k1, c0, c1, hz1, m1⟩ := hc k _ ht
                have hzt := hsd.2 _ (List.mem_of_getElem? ht)
                have hmem := List.mem_of_getElem? ht
                generalize ts[k]'(by omega) = r at ht hz1 hzt c0 m1 hmem
                have HST : Hid (anyHas (ts.take (k + 1)) t = (anyHas (ts.take k) t || decide (t ∈ r.2))) := Lib.hid (anyHas_step ht)
                have G0 : Hid (GotT wr (.slice a1 n1 k1) r.2) := Lib.hid ⟨a1, k1, by rw [← hz1.len], by rw [hz1.len]; exact hz1, hzt.2⟩
                clear ht hts hc hz1 hsd hi m1 hzt c0 hmem
                cases hth : anyHas (ts.take k) t
                · rw [hth, Bool.false_or] at HST
                  clear hth
                  obtain ⟨_, _, hue, hui, hus⟩ := U0.out
                  rw [HNU.out] at hue hui
                  simp only [Value.slice.injEq, true_and] at hue
                  obtain ⟨rfl, rfl⟩ := hue
                  obtain ⟨ub, uo, rfl, hub, _, _, _, hcs⟩ := hui.cells (by omega)
                  obtain ⟨d0, d1, d2, mm⟩ := hcs i _ HTU.out
                  obtain ⟨t0, s0, s1⟩ := t
                  simp only at d0 d1 d2
                  have C0 : Hid (GraC wr b (off + k * 2 + 1) (.slice a1 n1 k1) ∧ GraC wr ub (uo + i * 3) (.string t0) ∧ GraC wr ub (uo + i * 3 + 1) (.string s0) ∧ GraC wr ub (uo + i * 3 + 2) (.string s1)) := Lib.hid ⟨c1, d0, d1, d2⟩
                  obtain ⟨bq, hbq⟩ : ∃ q, decide ((t0, s0, s1) ∈ r.2) = q := ⟨_, rfl⟩
                  rw [hbq] at HST
                  have HH : Hid (∀ x w, GotT w x r.2 → Calls Try.prog 13 #[x, .agg #[.string t0, .string s0, .string s1]] w fun e w' => e = .returned (.bool bq) ∧ Below w.heap.size w w') := Lib.hid (fun x w h => by have := hasT h t0 s0 s1; rw [hbq] at this; exact this)
                  have l1 : b < wr.heap.size := hb
                  have l2 : ub < wr.heap.size := hub
                  clear hcs mm hui hus c1 d0 d1 d2 hbq
                  go_wp2_with fail
                  have hb : Below wr.heap.size wr wr.drew := (Below.refl _ _).drew
                  have B1 := Lib.hid B0.out.drew
                  have A1 := Lib.hid (A0.out.next hb)
                  have U1 := Lib.hid (U0.out.next hb)
                  have G1 := Lib.hid (G0.out.next hb)
                  clear hb B0 A0 U0 G0
                  have C1 : Hid (wr.drew.cell? ⟨b, off + k * 2 + 1, none⟩ = some (.slice a1 n1 k1) ∧ wr.drew.cell? ⟨ub, uo + i * 3, none⟩ = some (.string t0) ∧ wr.drew.cell? ⟨ub, uo + i * 3 + 1, none⟩ = some (.string s0) ∧ wr.drew.cell? ⟨ub, uo + i * 3 + 2, none⟩ = some (.string s1)) := Lib.hid C0.out
                  go_region_held3 (fun w' => w'.cell? ⟨b, off + k * 2 + 1, none⟩ = some (.slice a1 n1 k1) ∧ w'.cell? ⟨ub, uo + i * 3, none⟩ = some (.string t0) ∧ w'.cell? ⟨ub, uo + i * 3 + 1, none⟩ = some (.string s0) ∧ w'.cell? ⟨ub, uo + i * 3 + 2, none⟩ = some (.string s1))
                    (first | with_reducible exact C2.out | with_reducible exact C1.out)
                    (first | (go_at_call 13; refine (HH.out _ _ G1.out).mono ?_; rintro e w2 ⟨rfl, hb9⟩; have B2 := Lib.hid (B1.out.trans (hb9.mono B1.out.size)); have A2 := Lib.hid (A1.out.next hb9); have U2 := Lib.hid (U1.out.next hb9); have C2 : Hid (w2.cell? ⟨b, off + k * 2 + 1, none⟩ = some (.slice a1 n1 k1) ∧ w2.cell? ⟨ub, uo + i * 3, none⟩ = some (.string t0) ∧ w2.cell? ⟨ub, uo + i * 3 + 1, none⟩ = some (.string s0) ∧ w2.cell? ⟨ub, uo + i * 3 + 2, none⟩ = some (.string s1)) := Lib.hid ⟨gra_next C1.out.1 hb9, gra_next C1.out.2.1 hb9, gra_next C1.out.2.2.1 hb9, gra_next C1.out.2.2.2 hb9⟩; clear hb9))
                  all_goals
                    go_wp2_with fail
                    go_roundw
                    case rel => exact ⟨k + 1, by omega, by go_num, by rw [HST.out], A2, U2, B2⟩
                    case measure => simp [intOf]; omega
                · rw [hth, Bool.true_or] at HST
                  clear hth G0 c1 hb
                  go_wp2_with fail
                  have hb : Below wr.heap.size wr wr.drew := (Below.refl _ _).drew
                  have B1 := Lib.hid B0.out.drew
                  have A1 := Lib.hid (A0.out.next hb)
                  have U1 := Lib.hid (U0.out.next hb)
                  clear hb B0 A0 U0
                  refine wp_region_any (by kernel_rfl) ?_
                  change wpAny _ _ _ _ _ _ _ (World.drew _)
                  refine wpAny_take (i := 0) (v := ?_) rfl (by kernel_rfl) (by kernel_rfl) (by kernel_rfl) (fun _ _ _ h => h) (Or.inl ⟨by kernel_rfl, ?_⟩) ?_
                  rotate_left
                  · intro w; go_simp; try with_reducible rfl
                  refine wpAny_take (i := 1) (v := ?_) rfl (by kernel_rfl) (by kernel_rfl) (by kernel_rfl) (fun _ _ _ h => h) (Or.inl ⟨by kernel_rfl, ?_⟩) ?_
                  rotate_left
                  · intro w; go_simp; try with_reducible rfl
                  refine wpAny_take (i := 2) (v := undef) rfl (by kernel_rfl) (by kernel_rfl) (by kernel_rfl) (fun _ _ _ h => h) (Or.inr ⟨by kernel_rfl, rfl⟩) ?_
                  refine wpAny_take (i := 3) (v := undef) rfl (by kernel_rfl) (by kernel_rfl) (by kernel_rfl) (fun _ _ _ h => h) (Or.inr ⟨by kernel_rfl, rfl⟩) ?_
                  refine wpAny_take (i := 4) (v := undef) rfl (by kernel_rfl) (by kernel_rfl) (by kernel_rfl) (fun _ _ _ h => h) (Or.inr ⟨by kernel_rfl, rfl⟩) ?_
                  refine wpAny_take (i := 5) (v := undef) rfl (by kernel_rfl) (by kernel_rfl) (by kernel_rfl) (fun _ _ _ h => h) (Or.inr ⟨by kernel_rfl, rfl⟩) ?_
                  refine wpAny_take (i := 6) (v := undef) rfl (by kernel_rfl) (by kernel_rfl) (by kernel_rfl) (fun _ _ _ h => h) (Or.inr ⟨by kernel_rfl, rfl⟩) ?_
                  refine wpAny_take (i := 7) (v := undef) rfl (by kernel_rfl) (by kernel_rfl) (by kernel_rfl) (fun _ _ _ h => h) (Or.inr ⟨by kernel_rfl, rfl⟩) ?_
                  refine wpAny_take (i := 8) (v := undef) rfl (by kernel_rfl) (by kernel_rfl) (by kernel_rfl) (fun _ _ _ h => h) (Or.inr ⟨by kernel_rfl, rfl⟩) ?_
                  refine wpAny_take (i := 9) (v := undef) rfl (by kernel_rfl) (by kernel_rfl) (by kernel_rfl) (fun _ _ _ h => h) (Or.inr ⟨by kernel_rfl, rfl⟩) ?_
                  refine wpAny_take (i := 10) (v := undef) rfl (by kernel_rfl) (by kernel_rfl) (by kernel_rfl) (fun _ _ _ h => h) (Or.inr ⟨by kernel_rfl, rfl⟩) ?_
                  refine wpAny_take (i := 11) (v := undef) rfl (by kernel_rfl) (by kernel_rfl) (by kernel_rfl) (fun _ _ _ h => h) (Or.inr ⟨by kernel_rfl, rfl⟩) ?_
                  refine wpAny_take (i := 12) (v := ?_) rfl (by kernel_rfl) (by kernel_rfl) (by kernel_rfl) (fun _ _ _ h => h) (Or.inl ⟨by kernel_rfl, ?_⟩) ?_
                  rotate_left
                  · intro w; go_simp; try with_reducible rfl
                  refine wpAny_take (i := 13) (v := ?_) rfl (by kernel_rfl) (by kernel_rfl) (by kernel_rfl) (fun _ _ _ h => h) (Or.inl ⟨by kernel_rfl, ?_⟩) ?_
                  rotate_left
                  · intro w; go_simp; try with_reducible rfl
                  refine wpAny_done (by kernel_rfl) ?_ _
                  try simp only [Act.put, List.setIfInBounds_toArray, List.set_cons_zero, List.set_cons_succ, List.getElem_toArray, List.getElem_cons_zero, List.getElem_cons_succ]
                  go_wp2_with fail
                  go_roundw
                  case rel => exact ⟨k + 1, by omega, by go_num, by rw [HST.out], A1, U1, B1⟩
                  case measure => simp [intOf]; omega
              · have HFT : Hid (anyHas (ts.take k) t = true) := Lib.hid (by rw [List.take_of_length_le (by rw [HNT.out]; omega)]; exact HAV.out)
                rw [HFT.out]
                clear HFT
                go_wp2_with fail
                go_roundw
                case rel => exact ⟨i + 1, by omega, by go_num, A0, U0, B0⟩
                case measure => simp [intOf]; omega
          · go_wp2_with fail
            refine (GOK.out _ _ U1.out).mono ?_
            rintro e w2 ⟨rfl, hb⟩
            have B2 := Lib.hid (B1.out.trans (hb.mono B1.out.size))
            have A2 := Lib.hid (A1.out.next hb)
            have U2 := Lib.hid (U1.out.next hb)
            clear hb B1 A1 U1
            go_wp2_with fail
            go_ret
            exact ⟨rfl, B2.out⟩
end fnMerged
end Go.Proofs.Ythnpchcfjkepaaa
