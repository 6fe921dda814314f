/- The walk of FnDataWith. -/
import Derived.Test.YtnjphlaohihbaaaGreatG00
import Derived.Test.YtnjphlaohihbaaaGreatG28
namespace Go.Proofs.YtnjphlaohihbaaaGreat
open Go.RowKit Go.WideShapes
abbrev NamC (w : World) (b i : Nat) (z : ByteArray) (v : Value) : Prop := w.cell? ⟨b, i, none⟩ = some (.string z) ∧ w.cell? ⟨b, i + 1, none⟩ = some v
theorem NamC.next {w w' : World} {b i : Nat} {z : ByteArray} {v : Value} (h : NamC w b i z v) (hb : Below w.heap.size w w') : NamC w' b i z v := ⟨(hb.cell (World.block_lt_of_cell? _ _ h.1)).trans h.1, (hb.cell (World.block_lt_of_cell? _ _ h.2)).trans h.2⟩
namespace fnDataWith
set_option maxRecDepth 100000 in
set_option maxHeartbeats 6400000 in
theorem walk (a : Option Addr) (len cap : Nat) (zs : List Int) (w : World) (hrow : Frame.IsRow .u8 w a len cap zs) :
    Calls Tryz.prog 3 #[.slice a len cap] w fun e w' => e = .returned (.bool true) ∧ Below w.heap.size w w' := by
  have hlen : len ≤ 9223372036854775807 := by
    rcases hrow with ⟨_, rfl, _⟩ | ⟨y, _, h1, h2, _⟩
    · omega
    · unfold maxLen at h2; omega
  by_cases hbig : (1048576 : Int) < len
  · go_enter Tryz.func3, Tryz.ntmps3
    go_wp2_with go_in
    go_ret
    exact ⟨rfl, Below.refl _ _⟩
  go_enter Tryz.func3, Tryz.ntmps3
  go_wp2_with (go_at_call 7; go_in)
  refine (drawDataWith _ _ _ _ _ hrow).mono ?_
  rintro e w0 ⟨va, ts, q, s, p, o, rfl, ha, hq, hs, hp, ho, g0⟩
  have hb0 := below_of_grown g0
  obtain ⟨xa, ca, rfl⟩ := ha.shape
  obtain ⟨nt, hnt⟩ : ∃ n, ts.length = n := ⟨_, rfl⟩
  rw [hnt] at ha ⊢
  have HNT := Lib.hid hnt
  have hnt7 : nt ≤ 7 := by have := ha.1.1; omega
  have B1 := Lib.hid (hb0.alloc hb0.size (.cells #[.string s, .string p, .string o] 26))
  have X1 := Lib.hid (Box.new w0 (.string s) (.string p) (.string o) 26)
  have A1 := Lib.hid (ha.next ((Below.refl w0.heap.size w0).alloc (Nat.le_refl _) (.cells #[.string s, .string p, .string o] 26)))
  have SM : Hid (∀ (x y : Value) (l : List NamV) (w : World), GotN w x l → GotN w y l → Calls Tryz.prog 11 #[x, y] w fun e w' => e = .returned (.bool true) ∧ Below w.heap.size w w') := Lib.hid (fun _ _ _ _ h k => sameDataN h k)
  have ST : Hid (∀ (x y : Value) (l : List Tri3) (w : World), GotT w x l → GotT w y l → Calls Tryz.prog 14 #[x, y] w fun e w' => e = .returned (.bool true) ∧ Below w.heap.size w w') := Lib.hid (fun x y l w h k => by have := sameT h k; rwa [decide_eq_true rfl] at this)
  obtain ⟨r, hr⟩ : ∃ r, dataWith ts q (s, p, o) = r := ⟨_, rfl⟩
  have I1 : ∀ x w, GotN w x ts → Calls Tryz.prog 9 #[x, .string q, .agg #[.string s, .string p, .string o]] w (GotResN r w) := fun x w h => by rw [← hr]; exact implDataWithN h hq hs hp ho
  have I2 : ∀ x w, GotN w x ts → Calls Tryz.prog 10 #[x, .string q, .agg #[.string s, .string p, .string o]] w (GotResN r w) := fun x w h => by rw [← hr]; exact specDataWithN h hq hs hp ho
  have I4 : ∀ P, r = some P → ∀ x w, GotN w x P → Calls Tryz.prog 12 #[x] w fun e w' => e = .returned (.bool true) ∧ Below w.heap.size w w' := fun P e x w h => by
    subst e
    have := dataOkN h
    rw [(dataWith_all hr).1] at this
    exact this
  have I5 : ∀ P, r = some P → ∀ x w, GotT w x (dataGraph P q) → Calls Tryz.prog 17 #[x, .agg #[.string s, .string p, .string o]] w fun e w' => e = .returned (.bool true) ∧ Below w.heap.size w w' := fun P e x w h => by
    subst e
    have := hasT h s p o
    rw [decide_eq_true (dataWith_all hr).2.1] at this
    exact this
  have HD1 : ∀ x w, GotN w x ts → Calls Tryz.prog 12 #[x] w fun e w' => e = .returned (.bool (dataOk ts)) ∧ Below w.heap.size w w' := fun x w h => dataOkN h
  have HD2 : ∀ x w, GotN w x ts → Calls Tryz.prog 13 #[x] w fun e w' => e = .returned (.bool (dataOk ts)) ∧ Below w.heap.size w w' := fun x w h => specOkN h
  obtain ⟨dk, hdk⟩ : ∃ b, dataOk ts = b := ⟨_, rfl⟩
  rw [hdk] at HD1 HD2
  have HDA := Lib.hid HD1
  have HDB := Lib.hid HD2
  have HQ := Lib.hid hq
  have HR := Lib.hid hr
  clear hrow hbig hlen hb0 g0 ha hr hq hs hp ho hnt HD1 HD2 hdk
  cases r with
  | none =>
    change ∀ x w, GotN w x ts → Calls Tryz.prog 9 #[x, .string q, .agg #[.string s, .string p, .string o]] w (fun e w' => ∃ z, e = .returned (.tuple #[z, .bool false]) ∧ GotN w' z [] ∧ Below w.heap.size w w') at I1
    change ∀ x w, GotN w x ts → Calls Tryz.prog 10 #[x, .string q, .agg #[.string s, .string p, .string o]] w (fun e w' => ∃ z, e = .returned (.tuple #[z, .bool false]) ∧ GotN w' z [] ∧ Below w.heap.size w w') at I2
    have J1 := Lib.hid I1
    have J2 := Lib.hid I2
    clear I1 I2 I4 I5
    obtain ⟨xc0, xc1, xc2⟩ := X1.out.cells
    go_wp2_with fail
    refine (J1.out _ _ A1.out).mono ?_
    rintro e w2 ⟨vu, rfl, hu, hb⟩
    clear xc0 xc1 xc2
    have B2 := Lib.hid (B1.out.trans (hb.mono B1.out.size))
    have X2 := Lib.hid (X1.out.next hb)
    have A2 := Lib.hid (A1.out.next hb)
    clear hb B1 X1 A1
    have U2 := Lib.hid hu
    clear hu
    obtain ⟨xc0, xc1, xc2⟩ := X2.out.cells
    go_wp2_with fail
    refine (J2.out _ _ A2.out).mono ?_
    rintro e w3 ⟨vw, rfl, hw, hb⟩
    clear xc0 xc1 xc2
    have B3 := Lib.hid (B2.out.trans (hb.mono B2.out.size))
    have X3 := Lib.hid (X2.out.next hb)
    have A3 := Lib.hid (A2.out.next hb)
    have U3 := Lib.hid (U2.out.next hb)
    clear hb B2 X2 A2 U2
    have V3 := Lib.hid hw
    clear hw
    go_wp2_with fail
    refine (SM.out _ _ _ _ U3.out V3.out).mono ?_
    rintro e w4 ⟨rfl, hb⟩
    have B4 := Lib.hid (B3.out.trans (hb.mono B3.out.size))
    have X4 := Lib.hid (X3.out.next hb)
    have A4 := Lib.hid (A3.out.next hb)
    have U4 := Lib.hid (U3.out.next hb)
    have V4 := Lib.hid (V3.out.next hb)
    clear hb B3 X3 A3 U3 V3
    go_wp2_with fail
    refine (HDA.out _ _ A4.out).mono ?_
    rintro e w5 ⟨rfl, hb⟩
    have B5 := Lib.hid (B4.out.trans (hb.mono B4.out.size))
    have X5 := Lib.hid (X4.out.next hb)
    have A5 := Lib.hid (A4.out.next hb)
    have U5 := Lib.hid (U4.out.next hb)
    have V5 := Lib.hid (V4.out.next hb)
    clear hb B4 X4 A4 U4 V4
    go_wp2_with fail
    refine (HDB.out _ _ A5.out).mono ?_
    rintro e w6 ⟨rfl, hb⟩
    have B6 := Lib.hid (B5.out.trans (hb.mono B5.out.size))
    have X6 := Lib.hid (X5.out.next hb)
    have A6 := Lib.hid (A5.out.next hb)
    have U6 := Lib.hid (U5.out.next hb)
    have V6 := Lib.hid (V5.out.next hb)
    clear hb B5 X5 A5 U5 V5
    clear HR
    cases dk
    all_goals
      go_wp2_with fail
      refine (SM.out _ _ _ _ U6.out V6.out).mono ?_
      rintro e w7 ⟨rfl, hb⟩
      have B7 := Lib.hid (B6.out.trans (hb.mono B6.out.size))
      have X7 := Lib.hid (X6.out.next hb)
      have A7 := Lib.hid (A6.out.next hb)
      have U7 := Lib.hid (U6.out.next hb)
      have V7 := Lib.hid (V6.out.next hb)
      clear hb B6 X6 A6 U6 V6
      go_wp2_with fail
      refine (HDA.out _ _ A7.out).mono ?_
      rintro e w8 ⟨rfl, hb⟩
      have B8 := Lib.hid (B7.out.trans (hb.mono B7.out.size))
      have X8 := Lib.hid (X7.out.next hb)
      have A8 := Lib.hid (A7.out.next hb)
      have U8 := Lib.hid (U7.out.next hb)
      have V8 := Lib.hid (V7.out.next hb)
      clear hb B7 X7 A7 U7 V7
      go_wp2_with fail
      refine (HDB.out _ _ A8.out).mono ?_
      rintro e w9 ⟨rfl, hb⟩
      have B9 := Lib.hid (B8.out.trans (hb.mono B8.out.size))
      have X9 := Lib.hid (X8.out.next hb)
      have A9 := Lib.hid (A8.out.next hb)
      have U9 := Lib.hid (U8.out.next hb)
      have V9 := Lib.hid (V8.out.next hb)
      clear hb B8 X8 A8 U8 V8
      go_wp2_with fail
      go_ret
      exact ⟨rfl, B9.out⟩
  | some P =>
    change ∀ x w, GotN w x ts → Calls Tryz.prog 9 #[x, .string q, .agg #[.string s, .string p, .string o]] w (fun e w' => ∃ z, e = .returned (.tuple #[z, .bool true]) ∧ GotN w' z P ∧ Below w.heap.size w w') at I1
    change ∀ x w, GotN w x ts → Calls Tryz.prog 10 #[x, .string q, .agg #[.string s, .string p, .string o]] w (fun e w' => ∃ z, e = .returned (.tuple #[z, .bool true]) ∧ GotN w' z P ∧ Below w.heap.size w w') at I2
    have J4 := Lib.hid (I4 P rfl)
    have J5 := Lib.hid (I5 P rfl)
    have J1 := Lib.hid I1
    have J2 := Lib.hid I2
    clear I1 I2 I4 I5
    obtain ⟨xc0, xc1, xc2⟩ := X1.out.cells
    go_wp2_with fail
    refine (J1.out _ _ A1.out).mono ?_
    rintro e w2 ⟨vu, rfl, hu, hb⟩
    clear xc0 xc1 xc2
    have B2 := Lib.hid (B1.out.trans (hb.mono B1.out.size))
    have X2 := Lib.hid (X1.out.next hb)
    have A2 := Lib.hid (A1.out.next hb)
    clear hb B1 X1 A1
    have U2 := Lib.hid hu
    clear hu
    obtain ⟨xc0, xc1, xc2⟩ := X2.out.cells
    go_wp2_with fail
    refine (J2.out _ _ A2.out).mono ?_
    rintro e w3 ⟨vw, rfl, hw, hb⟩
    clear xc0 xc1 xc2
    have B3 := Lib.hid (B2.out.trans (hb.mono B2.out.size))
    have X3 := Lib.hid (X2.out.next hb)
    have A3 := Lib.hid (A2.out.next hb)
    have U3 := Lib.hid (U2.out.next hb)
    clear hb B2 X2 A2 U2
    have V3 := Lib.hid hw
    clear hw
    go_wp2_with fail
    refine (SM.out _ _ _ _ U3.out V3.out).mono ?_
    rintro e w4 ⟨rfl, hb⟩
    have B4 := Lib.hid (B3.out.trans (hb.mono B3.out.size))
    have X4 := Lib.hid (X3.out.next hb)
    have A4 := Lib.hid (A3.out.next hb)
    have U4 := Lib.hid (U3.out.next hb)
    have V4 := Lib.hid (V3.out.next hb)
    clear hb B3 X3 A3 U3 V3
    go_wp2_with fail
    refine (HDA.out _ _ A4.out).mono ?_
    rintro e w5 ⟨rfl, hb⟩
    have B5 := Lib.hid (B4.out.trans (hb.mono B4.out.size))
    have X5 := Lib.hid (X4.out.next hb)
    have A5 := Lib.hid (A4.out.next hb)
    have U5 := Lib.hid (U4.out.next hb)
    have V5 := Lib.hid (V4.out.next hb)
    clear hb B4 X4 A4 U4 V4
    go_wp2_with fail
    refine (HDB.out _ _ A5.out).mono ?_
    rintro e w6 ⟨rfl, hb⟩
    have B6 := Lib.hid (B5.out.trans (hb.mono B5.out.size))
    have X6 := Lib.hid (X5.out.next hb)
    have A6 := Lib.hid (A5.out.next hb)
    have U6 := Lib.hid (U5.out.next hb)
    have V6 := Lib.hid (V5.out.next hb)
    clear hb B5 X5 A5 U5 V5
    obtain ⟨_, hdk⟩ : ∃ b, dk = b := ⟨_, rfl⟩
    clear hdk
    have HAL := Lib.hid (dataWith_all HR.out).2.2.1
    have HAM := Lib.hid (dataWith_all HR.out).2.2.2
    clear V6
    cases dk
    all_goals
      go_wp2_with fail
      go_loopw [10] (fun i wr => ∃ j : Nat, j ≤ nt ∧ i = .int .i64 j ∧ Hid (Box wr w0.heap.size (.string s) (.string p) (.string o) 26) ∧ Hid (GotN wr (.slice xa nt ca) ts) ∧ Hid (GotN wr vu P) ∧ Hid (Below w.heap.size w wr)) (fun i _ => nt - (intOf i).toNat)
      case atStart => exact ⟨0, Nat.zero_le _, rfl, X6, A6, U6, B6⟩
      case round =>
        obtain ⟨j, hj, rfl, X0, A0, U0, B0⟩ := hrel
        clear X6 A6 U6 B6
        have hj6 : (0 : Int) ≤ (j : Int) := by omega
        by_cases hlt : j < nt
        · obtain ⟨hsd, _, _, hve, hi⟩ := A0.out
          rw [HNT.out] at hve hi
          simp only [Value.slice.injEq, true_and] at hve
          obtain ⟨rfl, rfl⟩ := hve
          obtain ⟨b, off, rfl, hb, _, _, hts, hc⟩ := hi.cells (by omega)
          have ht : ts[j]? = some (ts[j]'(by omega)) := List.getElem?_eq_getElem (by omega)
          obtain ⟨a1, n1, k1, c0, c1, hz1, m1⟩ := hc j _ ht
          have hzt := hsd.2 _ (List.mem_of_getElem? ht)
          have hmem := List.mem_of_getElem? ht
          generalize ts[j]'(by omega) = r at ht hz1 hzt c0 m1 hmem
          obtain ⟨z, g⟩ := r
          simp only at hz1 hzt c0 hmem m1
          have hj7 : (j : Int) < (nt : Int) := by omega
          have G0 : Hid (GotT wr (.slice a1 n1 k1) g) := Lib.hid ⟨a1, k1, by rw [← hz1.len], by rw [hz1.len]; exact hz1, hzt.2⟩
          have hz20 := hzt.1
          clear ht hts hc hz1 hsd hi m1 hzt
          by_cases hne : z = q
          · have he := bytes_is hne
            have he2 : (z.toList != q.toList) = false := by rw [bne, he]; rfl
            have HB : Hid (Below w.heap.size w wr.drew) := Lib.hid B0.out.drew
            have HX : Hid (Box wr.drew w0.heap.size (.string s) (.string p) (.string o) 26) := X0
            have hbd : Below wr.heap.size wr wr.drew := (Below.refl _ _).drew
            have HA := Lib.hid (A0.out.next hbd)
            have HU := Lib.hid (U0.out.next hbd)
            clear G0 hmem X0 A0 U0 B0 hbd hb
            go_wp2_with fail
            refine wp_region_any (by kernel_rfl) ?_
            change wpAny _ _ _ _ _ _ _ (World.drew _)
            refine wpAny_take (i := 0) (v := ?_) rfl (by kernel_rfl) (by kernel_rfl) (by kernel_rfl) (fun _ _ _ h => h) (Or.inl ⟨by kernel_rfl, ?_⟩) ?_
            rotate_left
            · intro w; go_simp; try with_reducible rfl
            refine wpAny_take (i := 1) (v := ?_) rfl (by kernel_rfl) (by kernel_rfl) (by kernel_rfl) (fun _ _ _ h => h) (Or.inl ⟨by kernel_rfl, ?_⟩) ?_
            rotate_left
            · intro w; go_simp; try with_reducible rfl
            refine wpAny_take (i := 2) (v := ?_) rfl (by kernel_rfl) (by kernel_rfl) (by kernel_rfl) (fun _ _ _ h => h) (Or.inl ⟨by kernel_rfl, ?_⟩) ?_
            rotate_left
            · intro w; go_simp; try with_reducible rfl
            refine wpAny_take (i := 3) (v := ?_) rfl (by kernel_rfl) (by kernel_rfl) (by kernel_rfl) (fun _ _ _ h => h) (Or.inl ⟨by kernel_rfl, ?_⟩) ?_
            rotate_left
            · intro w; go_simp; try with_reducible rfl
            refine wpAny_take (i := 5) (v := ?_) rfl (by kernel_rfl) (by kernel_rfl) (by kernel_rfl) (fun _ _ _ h => h) (Or.inl ⟨by kernel_rfl, ?_⟩) ?_
            rotate_left
            · intro w; go_simp; try with_reducible rfl
            refine wpAny_ready (rs := [4]) (by kernel_rfl) (by simp) ?_
            refine AllReady.cons rfl (fun K hK => ?_) AllReady.nil
            go_simp
            refine hK _ _ ?_
            clear hK K
            refine wpAny_take (i := 6) (v := ?_) rfl (by kernel_rfl) (by kernel_rfl) (by kernel_rfl) (fun _ _ _ h => h) (Or.inl ⟨by kernel_rfl, ?_⟩) ?_
            rotate_left
            · intro w; go_simp; try with_reducible rfl
            refine wpAny_take (i := 7) (v := ?_) rfl (by kernel_rfl) (by kernel_rfl) (by kernel_rfl) (fun _ _ _ h => h) (Or.inl ⟨by kernel_rfl, ?_⟩) ?_
            rotate_left
            · intro w; go_simp; try with_reducible rfl
            refine wpAny_take (i := 8) (v := undef) rfl (by kernel_rfl) (by kernel_rfl) (by kernel_rfl) (fun _ _ _ h => h) (Or.inr ⟨by kernel_rfl, rfl⟩) ?_
            refine wpAny_take (i := 9) (v := undef) rfl (by kernel_rfl) (by kernel_rfl) (by kernel_rfl) (fun _ _ _ h => h) (Or.inr ⟨by kernel_rfl, rfl⟩) ?_
            refine wpAny_take (i := 10) (v := undef) rfl (by kernel_rfl) (by kernel_rfl) (by kernel_rfl) (fun _ _ _ h => h) (Or.inr ⟨by kernel_rfl, rfl⟩) ?_
            refine wpAny_take (i := 11) (v := undef) rfl (by kernel_rfl) (by kernel_rfl) (by kernel_rfl) (fun _ _ _ h => h) (Or.inr ⟨by kernel_rfl, rfl⟩) ?_
            refine wpAny_take (i := 12) (v := undef) rfl (by kernel_rfl) (by kernel_rfl) (by kernel_rfl) (fun _ _ _ h => h) (Or.inr ⟨by kernel_rfl, rfl⟩) ?_
            refine wpAny_take (i := 13) (v := undef) rfl (by kernel_rfl) (by kernel_rfl) (by kernel_rfl) (fun _ _ _ h => h) (Or.inr ⟨by kernel_rfl, rfl⟩) ?_
            refine wpAny_take (i := 14) (v := undef) rfl (by kernel_rfl) (by kernel_rfl) (by kernel_rfl) (fun _ _ _ h => h) (Or.inr ⟨by kernel_rfl, rfl⟩) ?_
            refine wpAny_take (i := 15) (v := undef) rfl (by kernel_rfl) (by kernel_rfl) (by kernel_rfl) (fun _ _ _ h => h) (Or.inr ⟨by kernel_rfl, rfl⟩) ?_
            refine wpAny_take (i := 16) (v := undef) rfl (by kernel_rfl) (by kernel_rfl) (by kernel_rfl) (fun _ _ _ h => h) (Or.inr ⟨by kernel_rfl, rfl⟩) ?_
            refine wpAny_take (i := 17) (v := undef) rfl (by kernel_rfl) (by kernel_rfl) (by kernel_rfl) (fun _ _ _ h => h) (Or.inr ⟨by kernel_rfl, rfl⟩) ?_
            refine wpAny_take (i := 18) (v := undef) rfl (by kernel_rfl) (by kernel_rfl) (by kernel_rfl) (fun _ _ _ h => h) (Or.inr ⟨by kernel_rfl, rfl⟩) ?_
            refine wpAny_take (i := 19) (v := undef) rfl (by kernel_rfl) (by kernel_rfl) (by kernel_rfl) (fun _ _ _ h => h) (Or.inr ⟨by kernel_rfl, rfl⟩) ?_
            refine wpAny_take (i := 20) (v := undef) rfl (by kernel_rfl) (by kernel_rfl) (by kernel_rfl) (fun _ _ _ h => h) (Or.inr ⟨by kernel_rfl, rfl⟩) ?_
            refine wpAny_take (i := 21) (v := undef) rfl (by kernel_rfl) (by kernel_rfl) (by kernel_rfl) (fun _ _ _ h => h) (Or.inr ⟨by kernel_rfl, rfl⟩) ?_
            refine wpAny_take (i := 22) (v := ?_) rfl (by kernel_rfl) (by kernel_rfl) (by kernel_rfl) (fun _ _ _ h => h) (Or.inl ⟨by kernel_rfl, ?_⟩) ?_
            rotate_left
            · intro w; go_simp; try with_reducible rfl
            refine wpAny_done (by kernel_rfl) ?_ _
            try simp only [Act.put, List.setIfInBounds_toArray, List.set_cons_zero, List.set_cons_succ, List.getElem_toArray, List.getElem_cons_zero, List.getElem_cons_succ]
            go_wp2_with fail
            go_roundw
            case rel => exact ⟨j + 1, by omega, by go_num, HX, HA, HU, HB⟩
            case measure => simp [intOf]; omega
          · have he := bytes_not hne
            have he2 : (z.toList != q.toList) = true := by rw [bne, he]; rfl
            have HG := Lib.hid (HAL.out _ hmem hne)
            have l1 : b < wr.heap.size := hb
            clear hmem hne
            have C0 : Hid (NamC wr b (off + j * 2) z (.slice a1 n1 k1)) := Lib.hid ⟨c0, c1⟩
            go_wp2_with fail
            have hb : Below wr.heap.size wr wr.drew := (Below.refl _ _).drew
            have B1 := Lib.hid B0.out.drew
            have X1 := Lib.hid (X0.out.next hb)
            have A1 := Lib.hid (A0.out.next hb)
            have U1 := Lib.hid (U0.out.next hb)
            have G1 := Lib.hid (G0.out.next hb)
            have C1 := Lib.hid (C0.out.next hb)
            clear hb B0 X0 A0 U0 G0 C0
            go_region_held3 (fun w' => w'.cell? ⟨b, off + j * 2, none⟩ = some (.string z) ∧ w'.cell? ⟨b, off + j * 2 + 1, none⟩ = some (.slice a1 n1 k1))
              (first | with_reducible exact C3.out | with_reducible exact C2.out | with_reducible exact C1.out)
              (first | (go_at_call 14; refine (ST.out _ _ _ _ (by have := H2.out; rw [HG.out] at this; exact this) G2.out).mono ?_; rintro e w3 ⟨rfl, hb⟩; have B3 := Lib.hid (B2.out.trans (hb.mono B2.out.size)); have X3 := Lib.hid (X2.out.next hb); have A3 := Lib.hid (A2.out.next hb); have U3 := Lib.hid (U2.out.next hb); have G3 := Lib.hid (G2.out.next hb); have C3 := Lib.hid (C2.out.next hb); have H3 := Lib.hid (H2.out.next hb); clear hb B2 X2 A2 U2 G2 C2 H2) | (go_at_call 15; refine (implGraphN U1.out hz20).mono ?_; rintro e w2 ⟨vg, rfl, hg, hb⟩; have B2 := Lib.hid (B1.out.trans (hb.mono B1.out.size)); have X2 := Lib.hid (X1.out.next hb); have A2 := Lib.hid (A1.out.next hb); have U2 := Lib.hid (U1.out.next hb); have G2 := Lib.hid (G1.out.next hb); have C2 := Lib.hid (C1.out.next hb); clear hb B1 X1 A1 U1 G1 C1; have H2 := Lib.hid hg; clear hg))
            all_goals
              go_wp2_with fail
              go_roundw
              case rel => exact ⟨j + 1, by omega, by go_num, X3, A3, U3, B3⟩
              case measure => simp [intOf]; omega
        · obtain rfl : j = nt := by omega
          obtain ⟨ma, hma⟩ : ∃ m, mergeO ts = m := ⟨_, rfl⟩
          obtain ⟨mb, hmb⟩ : ∃ m, mergeO P = m := ⟨_, rfl⟩
          have M1 : ∀ x w, GotN w x ts → Calls Tryz.prog 16 #[x] w (GotResT ma w) := fun x w h => by rw [← hma]; exact implMergedN h
          have M2 : ∀ x w, GotN w x P → Calls Tryz.prog 16 #[x] w (GotResT mb w) := fun x w h => by rw [← hmb]; exact implMergedN h
          have HMA := Lib.hid hma
          have HMB := Lib.hid hmb
          clear hma hmb
          cases ma with
          | none =>
            cases mb with
            | none =>
              change ∀ x w, GotN w x ts → Calls Tryz.prog 16 #[x] w (fun e w' => ∃ z, e = .returned (.tuple #[z, .bool false]) ∧ GotT w' z [] ∧ Below w.heap.size w w') at M1
              change ∀ x w, GotN w x P → Calls Tryz.prog 16 #[x] w (fun e w' => ∃ z, e = .returned (.tuple #[z, .bool false]) ∧ GotT w' z [] ∧ Below w.heap.size w w') at M2
              have N1 := Lib.hid M1
              have N2 := Lib.hid M2
              clear M1 M2
              go_wp2_with fail
              refine (N1.out _ _ A0.out).mono ?_
              rintro e w1 ⟨vm, rfl, hm, hb⟩
              have B1 := Lib.hid (B0.out.trans (hb.mono B0.out.size))
              have X1 := Lib.hid (X0.out.next hb)
              have A1 := Lib.hid (A0.out.next hb)
              have U1 := Lib.hid (U0.out.next hb)
              clear hb B0 X0 A0 U0
              have M1 := Lib.hid hm
              clear hm
              go_wp2_with fail
              refine (N2.out _ _ U1.out).mono ?_
              rintro e w2 ⟨vn, rfl, hn, hb⟩
              have B2 := Lib.hid (B1.out.trans (hb.mono B1.out.size))
              have X2 := Lib.hid (X1.out.next hb)
              have A2 := Lib.hid (A1.out.next hb)
              have U2 := Lib.hid (U1.out.next hb)
              have M2 := Lib.hid (M1.out.next hb)
              clear hb B1 X1 A1 U1 M1
              have N2 := Lib.hid hn
              clear hn
              obtain ⟨xc0, xc1, xc2⟩ := X2.out.cells
              go_wp2_with fail
              clear xc0 xc1 xc2
              have hb : Below w2.heap.size w2 w2.drew := (Below.refl _ _).drew
              have B3 := Lib.hid B2.out.drew
              have X3 := Lib.hid (X2.out.next hb)
              have A3 := Lib.hid (A2.out.next hb)
              have U3 := Lib.hid (U2.out.next hb)
              have M3 := Lib.hid (M2.out.next hb)
              have N3 := Lib.hid (N2.out.next hb)
              clear hb B2 X2 A2 U2 M2 N2
              refine wp_region_held_drew (S := (fun w' => w'.cell? ⟨w0.heap.size, 0, none⟩ = some (.string s) ∧ w'.cell? ⟨w0.heap.size, 1, none⟩ = some (.string p) ∧ w'.cell? ⟨w0.heap.size, 2, none⟩ = some (.string o))) (by kernel_rfl) ?_ (fun hHeld => ?_)
              · exact X3.out.cells
              refine wpAnyH_take (i := 0) (v := ?_) rfl (by kernel_rfl) (by kernel_rfl) (by kernel_rfl) (fun _ _ _ h => h) (Or.inl ⟨by kernel_rfl, ?_⟩) (by assumption) ?_
              rotate_left
              · intro w hSw; (try dsimp only at hSw); go_simp; try with_reducible rfl
              refine wpAnyH_ready (rs := [1]) (by kernel_rfl) (by simp) ?_
              refine AllReadyH.cons rfl (fun K hK => ?_) AllReadyH.nil
              go_simp
              refine (J4.out _ _ U3.out).mono ?_
              rintro e w4 ⟨rfl, hb⟩
              have B4 := Lib.hid (B3.out.trans (hb.mono B3.out.size))
              have X4 := Lib.hid (X3.out.next hb)
              have A4 := Lib.hid (A3.out.next hb)
              have U4 := Lib.hid (U3.out.next hb)
              have M4 := Lib.hid (M3.out.next hb)
              have N4 := Lib.hid (N3.out.next hb)
              clear hb B3 X3 A3 U3 M3 N3
              go_wp2_with fail
              clear hHeld
              refine hK.out _ _ ?_ (fun hHeld => ?_)
              · exact X4.out.cells
              clear hK K
              refine wpAnyH_take (i := 2) (v := ?_) rfl (by kernel_rfl) (by kernel_rfl) (by kernel_rfl) (fun _ _ _ h => h) (Or.inl ⟨by kernel_rfl, ?_⟩) (by assumption) ?_
              rotate_left
              · intro w hSw; (try dsimp only at hSw); go_simp; try with_reducible rfl
              refine wpAnyH_take (i := 3) (v := ?_) rfl (by kernel_rfl) (by kernel_rfl) (by kernel_rfl) (fun _ _ _ h => h) (Or.inl ⟨by kernel_rfl, ?_⟩) (by assumption) ?_
              rotate_left
              · intro w hSw; (try dsimp only at hSw); go_simp; try with_reducible rfl
              refine wpAnyH_take (i := 4) (v := ?_) rfl (by kernel_rfl) (by kernel_rfl) (by kernel_rfl) (fun _ _ _ h => h) (Or.inl ⟨by kernel_rfl, ?_⟩) (by assumption) ?_
              rotate_left
              · intro w hSw; (try dsimp only at hSw); go_simp; try with_reducible rfl
              refine wpAnyH_take (i := 6) (v := ?_) rfl (by kernel_rfl) (by kernel_rfl) (by kernel_rfl) (fun _ _ _ h => h) (Or.inl ⟨by kernel_rfl, ?_⟩) (by assumption) ?_
              rotate_left
              · intro w hSw; (try dsimp only at hSw); go_simp; try with_reducible rfl
              refine wpAnyH_ready (rs := [5]) (by kernel_rfl) (by simp) ?_
              refine AllReadyH.cons rfl (fun K hK => ?_) AllReadyH.nil
              go_simp
              refine (implGraphN U4.out HQ.out).mono ?_
              rintro e w5 ⟨vg, rfl, hg, hb⟩
              have B5 := Lib.hid (B4.out.trans (hb.mono B4.out.size))
              have X5 := Lib.hid (X4.out.next hb)
              have A5 := Lib.hid (A4.out.next hb)
              have U5 := Lib.hid (U4.out.next hb)
              have M5 := Lib.hid (M4.out.next hb)
              have N5 := Lib.hid (N4.out.next hb)
              clear hb B4 X4 A4 U4 M4 N4
              have G5 := Lib.hid hg
              clear hg
              go_wp2_with fail
              clear hHeld
              refine hK.out _ _ ?_ (fun hHeld => ?_)
              · exact X5.out.cells
              clear hK K
              refine wpAnyH_ready (rs := [7]) (by kernel_rfl) (by simp) ?_
              refine AllReadyH.cons rfl (fun K hK => ?_) AllReadyH.nil
              go_simp
              refine (J5.out _ _ G5.out).mono ?_
              rintro e w6 ⟨rfl, hb⟩
              have B6 := Lib.hid (B5.out.trans (hb.mono B5.out.size))
              have X6 := Lib.hid (X5.out.next hb)
              have A6 := Lib.hid (A5.out.next hb)
              have U6 := Lib.hid (U5.out.next hb)
              have M6 := Lib.hid (M5.out.next hb)
              have N6 := Lib.hid (N5.out.next hb)
              have G6 := Lib.hid (G5.out.next hb)
              clear hb B5 X5 A5 U5 M5 N5 G5
              go_wp2_with fail
              clear hHeld
              refine hK.out _ _ ?_ (fun hHeld => ?_)
              · exact X6.out.cells
              clear hK K
              refine wpAnyH_take (i := 8) (v := ?_) rfl (by kernel_rfl) (by kernel_rfl) (by kernel_rfl) (fun _ _ _ h => h) (Or.inl ⟨by kernel_rfl, ?_⟩) (by assumption) ?_
              rotate_left
              · intro w hSw; (try dsimp only at hSw); go_simp; try with_reducible rfl
              refine wpAnyH_take (i := 9) (v := ?_) rfl (by kernel_rfl) (by kernel_rfl) (by kernel_rfl) (fun _ _ _ h => h) (Or.inl ⟨by kernel_rfl, ?_⟩) (by assumption) ?_
              rotate_left
              · intro w hSw; (try dsimp only at hSw); go_simp; try with_reducible rfl
              refine wpAnyH_take (i := 10) (v := ?_) rfl (by kernel_rfl) (by kernel_rfl) (by kernel_rfl) (fun _ _ _ h => h) (Or.inl ⟨by kernel_rfl, ?_⟩) (by assumption) ?_
              rotate_left
              · intro w hSw; (try dsimp only at hSw); go_simp; try with_reducible rfl
              refine wpAnyH_take (i := 11) (v := ?_) rfl (by kernel_rfl) (by kernel_rfl) (by kernel_rfl) (fun _ _ _ h => h) (Or.inl ⟨by kernel_rfl, ?_⟩) (by assumption) ?_
              rotate_left
              · intro w hSw; (try dsimp only at hSw); go_simp; try with_reducible rfl
              refine wpAnyH_take (i := 12) (v := ?_) rfl (by kernel_rfl) (by kernel_rfl) (by kernel_rfl) (fun _ _ _ h => h) (Or.inl ⟨by kernel_rfl, ?_⟩) (by assumption) ?_
              rotate_left
              · intro w hSw; (try dsimp only at hSw); go_simp; try with_reducible rfl
              refine wpAnyH_take (i := 13) (v := undef) rfl (by kernel_rfl) (by kernel_rfl) (by kernel_rfl) (fun _ _ _ h => h) (Or.inr ⟨by kernel_rfl, rfl⟩) (by assumption) ?_
              refine wpAnyH_take (i := 14) (v := undef) rfl (by kernel_rfl) (by kernel_rfl) (by kernel_rfl) (fun _ _ _ h => h) (Or.inr ⟨by kernel_rfl, rfl⟩) (by assumption) ?_
              refine wpAnyH_take (i := 15) (v := ?_) rfl (by kernel_rfl) (by kernel_rfl) (by kernel_rfl) (fun _ _ _ h => h) (Or.inl ⟨by kernel_rfl, ?_⟩) (by assumption) ?_
              rotate_left
              · intro w hSw; (try dsimp only at hSw); go_simp; try with_reducible rfl
              refine wpAnyH_take (i := 16) (v := ?_) rfl (by kernel_rfl) (by kernel_rfl) (by kernel_rfl) (fun _ _ _ h => h) (Or.inl ⟨by kernel_rfl, ?_⟩) (by assumption) ?_
              rotate_left
              · intro w hSw; (try dsimp only at hSw); go_simp; try with_reducible rfl
              refine wpAnyH_take (i := 17) (v := undef) rfl (by kernel_rfl) (by kernel_rfl) (by kernel_rfl) (fun _ _ _ h => h) (Or.inr ⟨by kernel_rfl, rfl⟩) (by assumption) ?_
              refine wpAnyH_take (i := 18) (v := undef) rfl (by kernel_rfl) (by kernel_rfl) (by kernel_rfl) (fun _ _ _ h => h) (Or.inr ⟨by kernel_rfl, rfl⟩) (by assumption) ?_
              refine wpAnyH_take (i := 19) (v := undef) rfl (by kernel_rfl) (by kernel_rfl) (by kernel_rfl) (fun _ _ _ h => h) (Or.inr ⟨by kernel_rfl, rfl⟩) (by assumption) ?_
              refine wpAnyH_take (i := 20) (v := undef) rfl (by kernel_rfl) (by kernel_rfl) (by kernel_rfl) (fun _ _ _ h => h) (Or.inr ⟨by kernel_rfl, rfl⟩) (by assumption) ?_
              refine wpAnyH_take (i := 21) (v := undef) rfl (by kernel_rfl) (by kernel_rfl) (by kernel_rfl) (fun _ _ _ h => h) (Or.inr ⟨by kernel_rfl, rfl⟩) (by assumption) ?_
              refine wpAnyH_take (i := 22) (v := undef) rfl (by kernel_rfl) (by kernel_rfl) (by kernel_rfl) (fun _ _ _ h => h) (Or.inr ⟨by kernel_rfl, rfl⟩) (by assumption) ?_
              refine wpAnyH_take (i := 23) (v := undef) rfl (by kernel_rfl) (by kernel_rfl) (by kernel_rfl) (fun _ _ _ h => h) (Or.inr ⟨by kernel_rfl, rfl⟩) (by assumption) ?_
              refine wpAnyH_take (i := 24) (v := undef) rfl (by kernel_rfl) (by kernel_rfl) (by kernel_rfl) (fun _ _ _ h => h) (Or.inr ⟨by kernel_rfl, rfl⟩) (by assumption) ?_
              refine wpAnyH_take (i := 25) (v := undef) rfl (by kernel_rfl) (by kernel_rfl) (by kernel_rfl) (fun _ _ _ h => h) (Or.inr ⟨by kernel_rfl, rfl⟩) (by assumption) ?_
              refine wpAnyH_take (i := 26) (v := undef) rfl (by kernel_rfl) (by kernel_rfl) (by kernel_rfl) (fun _ _ _ h => h) (Or.inr ⟨by kernel_rfl, rfl⟩) (by assumption) ?_
              refine wpAnyH_take (i := 27) (v := undef) rfl (by kernel_rfl) (by kernel_rfl) (by kernel_rfl) (fun _ _ _ h => h) (Or.inr ⟨by kernel_rfl, rfl⟩) (by assumption) ?_
              refine wpAnyH_take (i := 28) (v := undef) rfl (by kernel_rfl) (by kernel_rfl) (by kernel_rfl) (fun _ _ _ h => h) (Or.inr ⟨by kernel_rfl, rfl⟩) (by assumption) ?_
              refine wpAnyH_take (i := 29) (v := undef) rfl (by kernel_rfl) (by kernel_rfl) (by kernel_rfl) (fun _ _ _ h => h) (Or.inr ⟨by kernel_rfl, rfl⟩) (by assumption) ?_
              refine wpAnyH_take (i := 30) (v := undef) rfl (by kernel_rfl) (by kernel_rfl) (by kernel_rfl) (fun _ _ _ h => h) (Or.inr ⟨by kernel_rfl, rfl⟩) (by assumption) ?_
              refine wpAnyH_take (i := 31) (v := undef) rfl (by kernel_rfl) (by kernel_rfl) (by kernel_rfl) (fun _ _ _ h => h) (Or.inr ⟨by kernel_rfl, rfl⟩) (by assumption) ?_
              refine wpAnyH_take (i := 32) (v := undef) rfl (by kernel_rfl) (by kernel_rfl) (by kernel_rfl) (fun _ _ _ h => h) (Or.inr ⟨by kernel_rfl, rfl⟩) (by assumption) ?_
              refine wpAnyH_take (i := 33) (v := ?_) rfl (by kernel_rfl) (by kernel_rfl) (by kernel_rfl) (fun _ _ _ h => h) (Or.inl ⟨by kernel_rfl, ?_⟩) (by assumption) ?_
              rotate_left
              · intro w hSw; (try dsimp only at hSw); go_simp; try with_reducible rfl
              refine wpAnyH_take (i := 34) (v := ?_) rfl (by kernel_rfl) (by kernel_rfl) (by kernel_rfl) (fun _ _ _ h => h) (Or.inl ⟨by kernel_rfl, ?_⟩) (by assumption) ?_
              rotate_left
              · intro w hSw; (try dsimp only at hSw); go_simp; try with_reducible rfl
              refine wpAnyH_take (i := 35) (v := ?_) rfl (by kernel_rfl) (by kernel_rfl) (by kernel_rfl) (fun _ _ _ h => h) (Or.inl ⟨by kernel_rfl, ?_⟩) (by assumption) ?_
              rotate_left
              · intro w hSw; (try dsimp only at hSw); go_simp; try with_reducible rfl
              refine wpAnyH_done (by kernel_rfl) ?_ _
              try simp only [Act.put, List.setIfInBounds_toArray, List.set_cons_zero, List.set_cons_succ, List.getElem_toArray, List.getElem_cons_zero, List.getElem_cons_succ]
              go_wp2_with fail
              go_ret
              exact ⟨rfl, B6.out⟩
            | some ub =>
              change ∀ x w, GotN w x ts → Calls Tryz.prog 16 #[x] w (fun e w' => ∃ z, e = .returned (.tuple #[z, .bool false]) ∧ GotT w' z [] ∧ Below w.heap.size w w') at M1
              change ∀ x w, GotN w x P → Calls Tryz.prog 16 #[x] w (fun e w' => ∃ z, e = .returned (.tuple #[z, .bool true]) ∧ GotT w' z ub ∧ Below w.heap.size w w') at M2
              have N1 := Lib.hid M1
              have N2 := Lib.hid M2
              clear M1 M2
              go_wp2_with fail
              refine (N1.out _ _ A0.out).mono ?_
              rintro e w1 ⟨vm, rfl, hm, hb⟩
              have B1 := Lib.hid (B0.out.trans (hb.mono B0.out.size))
              have X1 := Lib.hid (X0.out.next hb)
              have A1 := Lib.hid (A0.out.next hb)
              have U1 := Lib.hid (U0.out.next hb)
              clear hb B0 X0 A0 U0
              have M1 := Lib.hid hm
              clear hm
              go_wp2_with fail
              refine (N2.out _ _ U1.out).mono ?_
              rintro e w2 ⟨vn, rfl, hn, hb⟩
              have B2 := Lib.hid (B1.out.trans (hb.mono B1.out.size))
              have X2 := Lib.hid (X1.out.next hb)
              have A2 := Lib.hid (A1.out.next hb)
              have U2 := Lib.hid (U1.out.next hb)
              have M2 := Lib.hid (M1.out.next hb)
              clear hb B1 X1 A1 U1 M1
              have N2 := Lib.hid hn
              clear hn
              obtain ⟨xc0, xc1, xc2⟩ := X2.out.cells
              go_wp2_with fail
              clear xc0 xc1 xc2
              have hb : Below w2.heap.size w2 w2.drew := (Below.refl _ _).drew
              have B3 := Lib.hid B2.out.drew
              have X3 := Lib.hid (X2.out.next hb)
              have A3 := Lib.hid (A2.out.next hb)
              have U3 := Lib.hid (U2.out.next hb)
              have M3 := Lib.hid (M2.out.next hb)
              have N3 := Lib.hid (N2.out.next hb)
              clear hb B2 X2 A2 U2 M2 N2
              refine wp_region_held_drew (S := (fun w' => w'.cell? ⟨w0.heap.size, 0, none⟩ = some (.string s) ∧ w'.cell? ⟨w0.heap.size, 1, none⟩ = some (.string p) ∧ w'.cell? ⟨w0.heap.size, 2, none⟩ = some (.string o))) (by kernel_rfl) ?_ (fun hHeld => ?_)
              · exact X3.out.cells
              refine wpAnyH_take (i := 0) (v := ?_) rfl (by kernel_rfl) (by kernel_rfl) (by kernel_rfl) (fun _ _ _ h => h) (Or.inl ⟨by kernel_rfl, ?_⟩) (by assumption) ?_
              rotate_left
              · intro w hSw; (try dsimp only at hSw); go_simp; try with_reducible rfl
              refine wpAnyH_ready (rs := [1]) (by kernel_rfl) (by simp) ?_
              refine AllReadyH.cons rfl (fun K hK => ?_) AllReadyH.nil
              go_simp
              refine (J4.out _ _ U3.out).mono ?_
              rintro e w4 ⟨rfl, hb⟩
              have B4 := Lib.hid (B3.out.trans (hb.mono B3.out.size))
              have X4 := Lib.hid (X3.out.next hb)
              have A4 := Lib.hid (A3.out.next hb)
              have U4 := Lib.hid (U3.out.next hb)
              have M4 := Lib.hid (M3.out.next hb)
              have N4 := Lib.hid (N3.out.next hb)
              clear hb B3 X3 A3 U3 M3 N3
              go_wp2_with fail
              clear hHeld
              refine hK.out _ _ ?_ (fun hHeld => ?_)
              · exact X4.out.cells
              clear hK K
              refine wpAnyH_take (i := 2) (v := ?_) rfl (by kernel_rfl) (by kernel_rfl) (by kernel_rfl) (fun _ _ _ h => h) (Or.inl ⟨by kernel_rfl, ?_⟩) (by assumption) ?_
              rotate_left
              · intro w hSw; (try dsimp only at hSw); go_simp; try with_reducible rfl
              refine wpAnyH_take (i := 3) (v := ?_) rfl (by kernel_rfl) (by kernel_rfl) (by kernel_rfl) (fun _ _ _ h => h) (Or.inl ⟨by kernel_rfl, ?_⟩) (by assumption) ?_
              rotate_left
              · intro w hSw; (try dsimp only at hSw); go_simp; try with_reducible rfl
              refine wpAnyH_take (i := 4) (v := ?_) rfl (by kernel_rfl) (by kernel_rfl) (by kernel_rfl) (fun _ _ _ h => h) (Or.inl ⟨by kernel_rfl, ?_⟩) (by assumption) ?_
              rotate_left
              · intro w hSw; (try dsimp only at hSw); go_simp; try with_reducible rfl
              refine wpAnyH_take (i := 6) (v := ?_) rfl (by kernel_rfl) (by kernel_rfl) (by kernel_rfl) (fun _ _ _ h => h) (Or.inl ⟨by kernel_rfl, ?_⟩) (by assumption) ?_
              rotate_left
              · intro w hSw; (try dsimp only at hSw); go_simp; try with_reducible rfl
              refine wpAnyH_ready (rs := [5]) (by kernel_rfl) (by simp) ?_
              refine AllReadyH.cons rfl (fun K hK => ?_) AllReadyH.nil
              go_simp
              refine (implGraphN U4.out HQ.out).mono ?_
              rintro e w5 ⟨vg, rfl, hg, hb⟩
              have B5 := Lib.hid (B4.out.trans (hb.mono B4.out.size))
              have X5 := Lib.hid (X4.out.next hb)
              have A5 := Lib.hid (A4.out.next hb)
              have U5 := Lib.hid (U4.out.next hb)
              have M5 := Lib.hid (M4.out.next hb)
              have N5 := Lib.hid (N4.out.next hb)
              clear hb B4 X4 A4 U4 M4 N4
              have G5 := Lib.hid hg
              clear hg
              go_wp2_with fail
              clear hHeld
              refine hK.out _ _ ?_ (fun hHeld => ?_)
              · exact X5.out.cells
              clear hK K
              refine wpAnyH_ready (rs := [7]) (by kernel_rfl) (by simp) ?_
              refine AllReadyH.cons rfl (fun K hK => ?_) AllReadyH.nil
              go_simp
              refine (J5.out _ _ G5.out).mono ?_
              rintro e w6 ⟨rfl, hb⟩
              have B6 := Lib.hid (B5.out.trans (hb.mono B5.out.size))
              have X6 := Lib.hid (X5.out.next hb)
              have A6 := Lib.hid (A5.out.next hb)
              have U6 := Lib.hid (U5.out.next hb)
              have M6 := Lib.hid (M5.out.next hb)
              have N6 := Lib.hid (N5.out.next hb)
              have G6 := Lib.hid (G5.out.next hb)
              clear hb B5 X5 A5 U5 M5 N5 G5
              go_wp2_with fail
              clear hHeld
              refine hK.out _ _ ?_ (fun hHeld => ?_)
              · exact X6.out.cells
              clear hK K
              refine wpAnyH_take (i := 8) (v := ?_) rfl (by kernel_rfl) (by kernel_rfl) (by kernel_rfl) (fun _ _ _ h => h) (Or.inl ⟨by kernel_rfl, ?_⟩) (by assumption) ?_
              rotate_left
              · intro w hSw; (try dsimp only at hSw); go_simp; try with_reducible rfl
              refine wpAnyH_take (i := 9) (v := ?_) rfl (by kernel_rfl) (by kernel_rfl) (by kernel_rfl) (fun _ _ _ h => h) (Or.inl ⟨by kernel_rfl, ?_⟩) (by assumption) ?_
              rotate_left
              · intro w hSw; (try dsimp only at hSw); go_simp; try with_reducible rfl
              refine wpAnyH_take (i := 10) (v := ?_) rfl (by kernel_rfl) (by kernel_rfl) (by kernel_rfl) (fun _ _ _ h => h) (Or.inl ⟨by kernel_rfl, ?_⟩) (by assumption) ?_
              rotate_left
              · intro w hSw; (try dsimp only at hSw); go_simp; try with_reducible rfl
              refine wpAnyH_take (i := 11) (v := ?_) rfl (by kernel_rfl) (by kernel_rfl) (by kernel_rfl) (fun _ _ _ h => h) (Or.inl ⟨by kernel_rfl, ?_⟩) (by assumption) ?_
              rotate_left
              · intro w hSw; (try dsimp only at hSw); go_simp; try with_reducible rfl
              refine wpAnyH_take (i := 12) (v := ?_) rfl (by kernel_rfl) (by kernel_rfl) (by kernel_rfl) (fun _ _ _ h => h) (Or.inl ⟨by kernel_rfl, ?_⟩) (by assumption) ?_
              rotate_left
              · intro w hSw; (try dsimp only at hSw); go_simp; try with_reducible rfl
              refine wpAnyH_take (i := 13) (v := undef) rfl (by kernel_rfl) (by kernel_rfl) (by kernel_rfl) (fun _ _ _ h => h) (Or.inr ⟨by kernel_rfl, rfl⟩) (by assumption) ?_
              refine wpAnyH_take (i := 14) (v := undef) rfl (by kernel_rfl) (by kernel_rfl) (by kernel_rfl) (fun _ _ _ h => h) (Or.inr ⟨by kernel_rfl, rfl⟩) (by assumption) ?_
              refine wpAnyH_take (i := 15) (v := ?_) rfl (by kernel_rfl) (by kernel_rfl) (by kernel_rfl) (fun _ _ _ h => h) (Or.inl ⟨by kernel_rfl, ?_⟩) (by assumption) ?_
              rotate_left
              · intro w hSw; (try dsimp only at hSw); go_simp; try with_reducible rfl
              refine wpAnyH_take (i := 16) (v := ?_) rfl (by kernel_rfl) (by kernel_rfl) (by kernel_rfl) (fun _ _ _ h => h) (Or.inl ⟨by kernel_rfl, ?_⟩) (by assumption) ?_
              rotate_left
              · intro w hSw; (try dsimp only at hSw); go_simp; try with_reducible rfl
              refine wpAnyH_take (i := 17) (v := undef) rfl (by kernel_rfl) (by kernel_rfl) (by kernel_rfl) (fun _ _ _ h => h) (Or.inr ⟨by kernel_rfl, rfl⟩) (by assumption) ?_
              refine wpAnyH_take (i := 18) (v := undef) rfl (by kernel_rfl) (by kernel_rfl) (by kernel_rfl) (fun _ _ _ h => h) (Or.inr ⟨by kernel_rfl, rfl⟩) (by assumption) ?_
              refine wpAnyH_take (i := 19) (v := undef) rfl (by kernel_rfl) (by kernel_rfl) (by kernel_rfl) (fun _ _ _ h => h) (Or.inr ⟨by kernel_rfl, rfl⟩) (by assumption) ?_
              refine wpAnyH_take (i := 20) (v := undef) rfl (by kernel_rfl) (by kernel_rfl) (by kernel_rfl) (fun _ _ _ h => h) (Or.inr ⟨by kernel_rfl, rfl⟩) (by assumption) ?_
              refine wpAnyH_take (i := 21) (v := undef) rfl (by kernel_rfl) (by kernel_rfl) (by kernel_rfl) (fun _ _ _ h => h) (Or.inr ⟨by kernel_rfl, rfl⟩) (by assumption) ?_
              refine wpAnyH_take (i := 22) (v := undef) rfl (by kernel_rfl) (by kernel_rfl) (by kernel_rfl) (fun _ _ _ h => h) (Or.inr ⟨by kernel_rfl, rfl⟩) (by assumption) ?_
              refine wpAnyH_take (i := 23) (v := undef) rfl (by kernel_rfl) (by kernel_rfl) (by kernel_rfl) (fun _ _ _ h => h) (Or.inr ⟨by kernel_rfl, rfl⟩) (by assumption) ?_
              refine wpAnyH_take (i := 24) (v := undef) rfl (by kernel_rfl) (by kernel_rfl) (by kernel_rfl) (fun _ _ _ h => h) (Or.inr ⟨by kernel_rfl, rfl⟩) (by assumption) ?_
              refine wpAnyH_take (i := 25) (v := undef) rfl (by kernel_rfl) (by kernel_rfl) (by kernel_rfl) (fun _ _ _ h => h) (Or.inr ⟨by kernel_rfl, rfl⟩) (by assumption) ?_
              refine wpAnyH_take (i := 26) (v := undef) rfl (by kernel_rfl) (by kernel_rfl) (by kernel_rfl) (fun _ _ _ h => h) (Or.inr ⟨by kernel_rfl, rfl⟩) (by assumption) ?_
              refine wpAnyH_take (i := 27) (v := undef) rfl (by kernel_rfl) (by kernel_rfl) (by kernel_rfl) (fun _ _ _ h => h) (Or.inr ⟨by kernel_rfl, rfl⟩) (by assumption) ?_
              refine wpAnyH_take (i := 28) (v := undef) rfl (by kernel_rfl) (by kernel_rfl) (by kernel_rfl) (fun _ _ _ h => h) (Or.inr ⟨by kernel_rfl, rfl⟩) (by assumption) ?_
              refine wpAnyH_take (i := 29) (v := undef) rfl (by kernel_rfl) (by kernel_rfl) (by kernel_rfl) (fun _ _ _ h => h) (Or.inr ⟨by kernel_rfl, rfl⟩) (by assumption) ?_
              refine wpAnyH_take (i := 30) (v := undef) rfl (by kernel_rfl) (by kernel_rfl) (by kernel_rfl) (fun _ _ _ h => h) (Or.inr ⟨by kernel_rfl, rfl⟩) (by assumption) ?_
              refine wpAnyH_take (i := 31) (v := undef) rfl (by kernel_rfl) (by kernel_rfl) (by kernel_rfl) (fun _ _ _ h => h) (Or.inr ⟨by kernel_rfl, rfl⟩) (by assumption) ?_
              refine wpAnyH_take (i := 32) (v := undef) rfl (by kernel_rfl) (by kernel_rfl) (by kernel_rfl) (fun _ _ _ h => h) (Or.inr ⟨by kernel_rfl, rfl⟩) (by assumption) ?_
              refine wpAnyH_take (i := 33) (v := ?_) rfl (by kernel_rfl) (by kernel_rfl) (by kernel_rfl) (fun _ _ _ h => h) (Or.inl ⟨by kernel_rfl, ?_⟩) (by assumption) ?_
              rotate_left
              · intro w hSw; (try dsimp only at hSw); go_simp; try with_reducible rfl
              refine wpAnyH_take (i := 34) (v := ?_) rfl (by kernel_rfl) (by kernel_rfl) (by kernel_rfl) (fun _ _ _ h => h) (Or.inl ⟨by kernel_rfl, ?_⟩) (by assumption) ?_
              rotate_left
              · intro w hSw; (try dsimp only at hSw); go_simp; try with_reducible rfl
              refine wpAnyH_take (i := 35) (v := ?_) rfl (by kernel_rfl) (by kernel_rfl) (by kernel_rfl) (fun _ _ _ h => h) (Or.inl ⟨by kernel_rfl, ?_⟩) (by assumption) ?_
              rotate_left
              · intro w hSw; (try dsimp only at hSw); go_simp; try with_reducible rfl
              refine wpAnyH_done (by kernel_rfl) ?_ _
              try simp only [Act.put, List.setIfInBounds_toArray, List.set_cons_zero, List.set_cons_succ, List.getElem_toArray, List.getElem_cons_zero, List.getElem_cons_succ]
              go_wp2_with fail
              go_ret
              exact ⟨rfl, B6.out⟩
          | some ua =>
            cases mb with
            | none =>
              change ∀ x w, GotN w x ts → Calls Tryz.prog 16 #[x] w (fun e w' => ∃ z, e = .returned (.tuple #[z, .bool true]) ∧ GotT w' z ua ∧ Below w.heap.size w w') at M1
              change ∀ x w, GotN w x P → Calls Tryz.prog 16 #[x] w (fun e w' => ∃ z, e = .returned (.tuple #[z, .bool false]) ∧ GotT w' z [] ∧ Below w.heap.size w w') at M2
              have N1 := Lib.hid M1
              have N2 := Lib.hid M2
              clear M1 M2
              go_wp2_with fail
              refine (N1.out _ _ A0.out).mono ?_
              rintro e w1 ⟨vm, rfl, hm, hb⟩
              have B1 := Lib.hid (B0.out.trans (hb.mono B0.out.size))
              have X1 := Lib.hid (X0.out.next hb)
              have A1 := Lib.hid (A0.out.next hb)
              have U1 := Lib.hid (U0.out.next hb)
              clear hb B0 X0 A0 U0
              have M1 := Lib.hid hm
              clear hm
              go_wp2_with fail
              refine (N2.out _ _ U1.out).mono ?_
              rintro e w2 ⟨vn, rfl, hn, hb⟩
              have B2 := Lib.hid (B1.out.trans (hb.mono B1.out.size))
              have X2 := Lib.hid (X1.out.next hb)
              have A2 := Lib.hid (A1.out.next hb)
              have U2 := Lib.hid (U1.out.next hb)
              have M2 := Lib.hid (M1.out.next hb)
              clear hb B1 X1 A1 U1 M1
              have N2 := Lib.hid hn
              clear hn
              obtain ⟨xc0, xc1, xc2⟩ := X2.out.cells
              go_wp2_with fail
              clear xc0 xc1 xc2
              have hb : Below w2.heap.size w2 w2.drew := (Below.refl _ _).drew
              have B3 := Lib.hid B2.out.drew
              have X3 := Lib.hid (X2.out.next hb)
              have A3 := Lib.hid (A2.out.next hb)
              have U3 := Lib.hid (U2.out.next hb)
              have M3 := Lib.hid (M2.out.next hb)
              have N3 := Lib.hid (N2.out.next hb)
              clear hb B2 X2 A2 U2 M2 N2
              refine wp_region_held_drew (S := (fun w' => w'.cell? ⟨w0.heap.size, 0, none⟩ = some (.string s) ∧ w'.cell? ⟨w0.heap.size, 1, none⟩ = some (.string p) ∧ w'.cell? ⟨w0.heap.size, 2, none⟩ = some (.string o))) (by kernel_rfl) ?_ (fun hHeld => ?_)
              · exact X3.out.cells
              refine wpAnyH_take (i := 0) (v := ?_) rfl (by kernel_rfl) (by kernel_rfl) (by kernel_rfl) (fun _ _ _ h => h) (Or.inl ⟨by kernel_rfl, ?_⟩) (by assumption) ?_
              rotate_left
              · intro w hSw; (try dsimp only at hSw); go_simp; try with_reducible rfl
              refine wpAnyH_ready (rs := [1]) (by kernel_rfl) (by simp) ?_
              refine AllReadyH.cons rfl (fun K hK => ?_) AllReadyH.nil
              go_simp
              refine (J4.out _ _ U3.out).mono ?_
              rintro e w4 ⟨rfl, hb⟩
              have B4 := Lib.hid (B3.out.trans (hb.mono B3.out.size))
              have X4 := Lib.hid (X3.out.next hb)
              have A4 := Lib.hid (A3.out.next hb)
              have U4 := Lib.hid (U3.out.next hb)
              have M4 := Lib.hid (M3.out.next hb)
              have N4 := Lib.hid (N3.out.next hb)
              clear hb B3 X3 A3 U3 M3 N3
              go_wp2_with fail
              clear hHeld
              refine hK.out _ _ ?_ (fun hHeld => ?_)
              · exact X4.out.cells
              clear hK K
              refine wpAnyH_take (i := 2) (v := ?_) rfl (by kernel_rfl) (by kernel_rfl) (by kernel_rfl) (fun _ _ _ h => h) (Or.inl ⟨by kernel_rfl, ?_⟩) (by assumption) ?_
              rotate_left
              · intro w hSw; (try dsimp only at hSw); go_simp; try with_reducible rfl
              refine wpAnyH_take (i := 3) (v := ?_) rfl (by kernel_rfl) (by kernel_rfl) (by kernel_rfl) (fun _ _ _ h => h) (Or.inl ⟨by kernel_rfl, ?_⟩) (by assumption) ?_
              rotate_left
              · intro w hSw; (try dsimp only at hSw); go_simp; try with_reducible rfl
              refine wpAnyH_take (i := 4) (v := ?_) rfl (by kernel_rfl) (by kernel_rfl) (by kernel_rfl) (fun _ _ _ h => h) (Or.inl ⟨by kernel_rfl, ?_⟩) (by assumption) ?_
              rotate_left
              · intro w hSw; (try dsimp only at hSw); go_simp; try with_reducible rfl
              refine wpAnyH_take (i := 6) (v := ?_) rfl (by kernel_rfl) (by kernel_rfl) (by kernel_rfl) (fun _ _ _ h => h) (Or.inl ⟨by kernel_rfl, ?_⟩) (by assumption) ?_
              rotate_left
              · intro w hSw; (try dsimp only at hSw); go_simp; try with_reducible rfl
              refine wpAnyH_ready (rs := [5]) (by kernel_rfl) (by simp) ?_
              refine AllReadyH.cons rfl (fun K hK => ?_) AllReadyH.nil
              go_simp
              refine (implGraphN U4.out HQ.out).mono ?_
              rintro e w5 ⟨vg, rfl, hg, hb⟩
              have B5 := Lib.hid (B4.out.trans (hb.mono B4.out.size))
              have X5 := Lib.hid (X4.out.next hb)
              have A5 := Lib.hid (A4.out.next hb)
              have U5 := Lib.hid (U4.out.next hb)
              have M5 := Lib.hid (M4.out.next hb)
              have N5 := Lib.hid (N4.out.next hb)
              clear hb B4 X4 A4 U4 M4 N4
              have G5 := Lib.hid hg
              clear hg
              go_wp2_with fail
              clear hHeld
              refine hK.out _ _ ?_ (fun hHeld => ?_)
              · exact X5.out.cells
              clear hK K
              refine wpAnyH_ready (rs := [7]) (by kernel_rfl) (by simp) ?_
              refine AllReadyH.cons rfl (fun K hK => ?_) AllReadyH.nil
              go_simp
              refine (J5.out _ _ G5.out).mono ?_
              rintro e w6 ⟨rfl, hb⟩
              have B6 := Lib.hid (B5.out.trans (hb.mono B5.out.size))
              have X6 := Lib.hid (X5.out.next hb)
              have A6 := Lib.hid (A5.out.next hb)
              have U6 := Lib.hid (U5.out.next hb)
              have M6 := Lib.hid (M5.out.next hb)
              have N6 := Lib.hid (N5.out.next hb)
              have G6 := Lib.hid (G5.out.next hb)
              clear hb B5 X5 A5 U5 M5 N5 G5
              go_wp2_with fail
              clear hHeld
              refine hK.out _ _ ?_ (fun hHeld => ?_)
              · exact X6.out.cells
              clear hK K
              refine wpAnyH_take (i := 8) (v := ?_) rfl (by kernel_rfl) (by kernel_rfl) (by kernel_rfl) (fun _ _ _ h => h) (Or.inl ⟨by kernel_rfl, ?_⟩) (by assumption) ?_
              rotate_left
              · intro w hSw; (try dsimp only at hSw); go_simp; try with_reducible rfl
              refine wpAnyH_take (i := 9) (v := ?_) rfl (by kernel_rfl) (by kernel_rfl) (by kernel_rfl) (fun _ _ _ h => h) (Or.inl ⟨by kernel_rfl, ?_⟩) (by assumption) ?_
              rotate_left
              · intro w hSw; (try dsimp only at hSw); go_simp; try with_reducible rfl
              refine wpAnyH_take (i := 10) (v := ?_) rfl (by kernel_rfl) (by kernel_rfl) (by kernel_rfl) (fun _ _ _ h => h) (Or.inl ⟨by kernel_rfl, ?_⟩) (by assumption) ?_
              rotate_left
              · intro w hSw; (try dsimp only at hSw); go_simp; try with_reducible rfl
              refine wpAnyH_take (i := 11) (v := ?_) rfl (by kernel_rfl) (by kernel_rfl) (by kernel_rfl) (fun _ _ _ h => h) (Or.inl ⟨by kernel_rfl, ?_⟩) (by assumption) ?_
              rotate_left
              · intro w hSw; (try dsimp only at hSw); go_simp; try with_reducible rfl
              refine wpAnyH_take (i := 12) (v := ?_) rfl (by kernel_rfl) (by kernel_rfl) (by kernel_rfl) (fun _ _ _ h => h) (Or.inl ⟨by kernel_rfl, ?_⟩) (by assumption) ?_
              rotate_left
              · intro w hSw; (try dsimp only at hSw); go_simp; try with_reducible rfl
              refine wpAnyH_take (i := 13) (v := ?_) rfl (by kernel_rfl) (by kernel_rfl) (by kernel_rfl) (fun _ _ _ h => h) (Or.inl ⟨by kernel_rfl, ?_⟩) (by assumption) ?_
              rotate_left
              · intro w hSw; (try dsimp only at hSw); go_simp; try with_reducible rfl
              refine wpAnyH_take (i := 14) (v := ?_) rfl (by kernel_rfl) (by kernel_rfl) (by kernel_rfl) (fun _ _ _ h => h) (Or.inl ⟨by kernel_rfl, ?_⟩) (by assumption) ?_
              rotate_left
              · intro w hSw; (try dsimp only at hSw); go_simp; try with_reducible rfl
              refine wpAnyH_take (i := 15) (v := ?_) rfl (by kernel_rfl) (by kernel_rfl) (by kernel_rfl) (fun _ _ _ h => h) (Or.inl ⟨by kernel_rfl, ?_⟩) (by assumption) ?_
              rotate_left
              · intro w hSw; (try dsimp only at hSw); go_simp; try with_reducible rfl
              refine wpAnyH_take (i := 16) (v := ?_) rfl (by kernel_rfl) (by kernel_rfl) (by kernel_rfl) (fun _ _ _ h => h) (Or.inl ⟨by kernel_rfl, ?_⟩) (by assumption) ?_
              rotate_left
              · intro w hSw; (try dsimp only at hSw); go_simp; try with_reducible rfl
              refine wpAnyH_take (i := 17) (v := undef) rfl (by kernel_rfl) (by kernel_rfl) (by kernel_rfl) (fun _ _ _ h => h) (Or.inr ⟨by kernel_rfl, rfl⟩) (by assumption) ?_
              refine wpAnyH_take (i := 18) (v := undef) rfl (by kernel_rfl) (by kernel_rfl) (by kernel_rfl) (fun _ _ _ h => h) (Or.inr ⟨by kernel_rfl, rfl⟩) (by assumption) ?_
              refine wpAnyH_take (i := 19) (v := undef) rfl (by kernel_rfl) (by kernel_rfl) (by kernel_rfl) (fun _ _ _ h => h) (Or.inr ⟨by kernel_rfl, rfl⟩) (by assumption) ?_
              refine wpAnyH_take (i := 20) (v := undef) rfl (by kernel_rfl) (by kernel_rfl) (by kernel_rfl) (fun _ _ _ h => h) (Or.inr ⟨by kernel_rfl, rfl⟩) (by assumption) ?_
              refine wpAnyH_take (i := 21) (v := undef) rfl (by kernel_rfl) (by kernel_rfl) (by kernel_rfl) (fun _ _ _ h => h) (Or.inr ⟨by kernel_rfl, rfl⟩) (by assumption) ?_
              refine wpAnyH_take (i := 22) (v := undef) rfl (by kernel_rfl) (by kernel_rfl) (by kernel_rfl) (fun _ _ _ h => h) (Or.inr ⟨by kernel_rfl, rfl⟩) (by assumption) ?_
              refine wpAnyH_take (i := 23) (v := undef) rfl (by kernel_rfl) (by kernel_rfl) (by kernel_rfl) (fun _ _ _ h => h) (Or.inr ⟨by kernel_rfl, rfl⟩) (by assumption) ?_
              refine wpAnyH_take (i := 24) (v := undef) rfl (by kernel_rfl) (by kernel_rfl) (by kernel_rfl) (fun _ _ _ h => h) (Or.inr ⟨by kernel_rfl, rfl⟩) (by assumption) ?_
              refine wpAnyH_take (i := 25) (v := undef) rfl (by kernel_rfl) (by kernel_rfl) (by kernel_rfl) (fun _ _ _ h => h) (Or.inr ⟨by kernel_rfl, rfl⟩) (by assumption) ?_
              refine wpAnyH_take (i := 26) (v := undef) rfl (by kernel_rfl) (by kernel_rfl) (by kernel_rfl) (fun _ _ _ h => h) (Or.inr ⟨by kernel_rfl, rfl⟩) (by assumption) ?_
              refine wpAnyH_take (i := 27) (v := undef) rfl (by kernel_rfl) (by kernel_rfl) (by kernel_rfl) (fun _ _ _ h => h) (Or.inr ⟨by kernel_rfl, rfl⟩) (by assumption) ?_
              refine wpAnyH_take (i := 28) (v := undef) rfl (by kernel_rfl) (by kernel_rfl) (by kernel_rfl) (fun _ _ _ h => h) (Or.inr ⟨by kernel_rfl, rfl⟩) (by assumption) ?_
              refine wpAnyH_take (i := 29) (v := undef) rfl (by kernel_rfl) (by kernel_rfl) (by kernel_rfl) (fun _ _ _ h => h) (Or.inr ⟨by kernel_rfl, rfl⟩) (by assumption) ?_
              refine wpAnyH_take (i := 30) (v := undef) rfl (by kernel_rfl) (by kernel_rfl) (by kernel_rfl) (fun _ _ _ h => h) (Or.inr ⟨by kernel_rfl, rfl⟩) (by assumption) ?_
              refine wpAnyH_take (i := 31) (v := undef) rfl (by kernel_rfl) (by kernel_rfl) (by kernel_rfl) (fun _ _ _ h => h) (Or.inr ⟨by kernel_rfl, rfl⟩) (by assumption) ?_
              refine wpAnyH_take (i := 32) (v := undef) rfl (by kernel_rfl) (by kernel_rfl) (by kernel_rfl) (fun _ _ _ h => h) (Or.inr ⟨by kernel_rfl, rfl⟩) (by assumption) ?_
              refine wpAnyH_take (i := 33) (v := ?_) rfl (by kernel_rfl) (by kernel_rfl) (by kernel_rfl) (fun _ _ _ h => h) (Or.inl ⟨by kernel_rfl, ?_⟩) (by assumption) ?_
              rotate_left
              · intro w hSw; (try dsimp only at hSw); go_simp; try with_reducible rfl
              refine wpAnyH_take (i := 34) (v := ?_) rfl (by kernel_rfl) (by kernel_rfl) (by kernel_rfl) (fun _ _ _ h => h) (Or.inl ⟨by kernel_rfl, ?_⟩) (by assumption) ?_
              rotate_left
              · intro w hSw; (try dsimp only at hSw); go_simp; try with_reducible rfl
              refine wpAnyH_take (i := 35) (v := ?_) rfl (by kernel_rfl) (by kernel_rfl) (by kernel_rfl) (fun _ _ _ h => h) (Or.inl ⟨by kernel_rfl, ?_⟩) (by assumption) ?_
              rotate_left
              · intro w hSw; (try dsimp only at hSw); go_simp; try with_reducible rfl
              refine wpAnyH_done (by kernel_rfl) ?_ _
              try simp only [Act.put, List.setIfInBounds_toArray, List.set_cons_zero, List.set_cons_succ, List.getElem_toArray, List.getElem_cons_zero, List.getElem_cons_succ]
              go_wp2_with fail
              go_ret
              exact ⟨rfl, B6.out⟩
            | some ub =>
              change ∀ x w, GotN w x ts → Calls Tryz.prog 16 #[x] w (fun e w' => ∃ z, e = .returned (.tuple #[z, .bool true]) ∧ GotT w' z ua ∧ Below w.heap.size w w') at M1
              change ∀ x w, GotN w x P → Calls Tryz.prog 16 #[x] w (fun e w' => ∃ z, e = .returned (.tuple #[z, .bool true]) ∧ GotT w' z ub ∧ Below w.heap.size w w') at M2
              obtain ⟨_, ea, la⟩ := mergeO_some HMA.out
              obtain ⟨_, eb, lb⟩ := mergeO_some HMB.out
              have hal := HAM.out
              rw [← ea, ← eb] at hal
              have W1 : Hid (∀ x y w, GotT w x ua → GotT w y ub → Calls Tryz.prog 18 #[x, y] w fun e w' => e = .returned (.bool true) ∧ Below w.heap.size w w') := Lib.hid (fun x y w h k => by have := withinT h k; rw [inAll_of hal.1] at this; exact this)
              have W2 : Hid (∀ x w, GotT w x ub → Calls Tryz.prog 17 #[x, .agg #[.string s, .string p, .string o]] w fun e w' => e = .returned (.bool true) ∧ Below w.heap.size w w') := Lib.hid (fun x w h => by have := hasT h s p o; rw [decide_eq_true hal.2.1] at this; exact this)
              have hll := hal.2.2
              clear ea eb hal
              have N1 := Lib.hid M1
              have N2 := Lib.hid M2
              clear M1 M2
              go_wp2_with fail
              refine (N1.out _ _ A0.out).mono ?_
              rintro e w1 ⟨vm, rfl, hm, hb⟩
              have B1 := Lib.hid (B0.out.trans (hb.mono B0.out.size))
              have X1 := Lib.hid (X0.out.next hb)
              have A1 := Lib.hid (A0.out.next hb)
              have U1 := Lib.hid (U0.out.next hb)
              clear hb B0 X0 A0 U0
              have M1 := Lib.hid hm
              clear hm
              go_wp2_with fail
              refine (N2.out _ _ U1.out).mono ?_
              rintro e w2 ⟨vn, rfl, hn, hb⟩
              have B2 := Lib.hid (B1.out.trans (hb.mono B1.out.size))
              have X2 := Lib.hid (X1.out.next hb)
              have A2 := Lib.hid (A1.out.next hb)
              have U2 := Lib.hid (U1.out.next hb)
              have M2 := Lib.hid (M1.out.next hb)
              clear hb B1 X1 A1 U1 M1
              have N2 := Lib.hid hn
              clear hn
              obtain ⟨ax, ay, rfl⟩ := M2.out.shape
              obtain ⟨bx, b_y, rfl⟩ := N2.out.shape
              have hi1 : (ub.length : Int) ≤ (ua.length : Int) + 1 := by omega
              have hi2 : (0 : Int) ≤ (ua.length : Int) ∧ (ua.length : Int) ≤ 80 := by omega
              have hw : IntKind.i64.wrap ((ua.length : Int) + 1) = (ua.length : Int) + 1 := IntWalk.i64_in _ (by omega)
              have hi3 : decide ((ub.length : Int) ≤ IntKind.i64.wrap ((ua.length : Int) + 1)) = true := by rw [hw]; exact decide_eq_true hi1
              obtain ⟨xc0, xc1, xc2⟩ := X2.out.cells
              go_wp2_with fail
              clear xc0 xc1 xc2
              have hb : Below w2.heap.size w2 w2.drew := (Below.refl _ _).drew
              have B3 := Lib.hid B2.out.drew
              have X3 := Lib.hid (X2.out.next hb)
              have A3 := Lib.hid (A2.out.next hb)
              have U3 := Lib.hid (U2.out.next hb)
              have M3 := Lib.hid (M2.out.next hb)
              have N3 := Lib.hid (N2.out.next hb)
              clear hb B2 X2 A2 U2 M2 N2
              go_region_held3 (fun w' => w'.cell? ⟨w0.heap.size, 0, none⟩ = some (.string s) ∧ w'.cell? ⟨w0.heap.size, 1, none⟩ = some (.string p) ∧ w'.cell? ⟨w0.heap.size, 2, none⟩ = some (.string o))
                (first | with_reducible exact X8.out.cells | with_reducible exact X7.out.cells | with_reducible exact X6.out.cells | with_reducible exact X5.out.cells | with_reducible exact X4.out.cells | with_reducible exact X3.out.cells)
                (first | (go_at_call 17; refine (W2.out _ _ N7.out).mono ?_; rintro e w8 ⟨rfl, hb⟩; have B8 := Lib.hid (B7.out.trans (hb.mono B7.out.size)); have X8 := Lib.hid (X7.out.next hb); have A8 := Lib.hid (A7.out.next hb); have U8 := Lib.hid (U7.out.next hb); have M8 := Lib.hid (M7.out.next hb); have N8 := Lib.hid (N7.out.next hb); have G8 := Lib.hid (G7.out.next hb); clear hb B7 X7 A7 U7 M7 N7 G7) | (go_at_call 18; refine (W1.out _ _ _ M6.out N6.out).mono ?_; rintro e w7 ⟨rfl, hb⟩; have B7 := Lib.hid (B6.out.trans (hb.mono B6.out.size)); have X7 := Lib.hid (X6.out.next hb); have A7 := Lib.hid (A6.out.next hb); have U7 := Lib.hid (U6.out.next hb); have M7 := Lib.hid (M6.out.next hb); have N7 := Lib.hid (N6.out.next hb); have G7 := Lib.hid (G6.out.next hb); clear hb B6 X6 A6 U6 M6 N6 G6) | (go_at_call 17; refine (J5.out _ _ G5.out).mono ?_; rintro e w6 ⟨rfl, hb⟩; have B6 := Lib.hid (B5.out.trans (hb.mono B5.out.size)); have X6 := Lib.hid (X5.out.next hb); have A6 := Lib.hid (A5.out.next hb); have U6 := Lib.hid (U5.out.next hb); have M6 := Lib.hid (M5.out.next hb); have N6 := Lib.hid (N5.out.next hb); have G6 := Lib.hid (G5.out.next hb); clear hb B5 X5 A5 U5 M5 N5 G5) | (go_at_call 15; refine (implGraphN U4.out HQ.out).mono ?_; rintro e w5 ⟨vg, rfl, hg, hb⟩; have B5 := Lib.hid (B4.out.trans (hb.mono B4.out.size)); have X5 := Lib.hid (X4.out.next hb); have A5 := Lib.hid (A4.out.next hb); have U5 := Lib.hid (U4.out.next hb); have M5 := Lib.hid (M4.out.next hb); have N5 := Lib.hid (N4.out.next hb); clear hb B4 X4 A4 U4 M4 N4; have G5 := Lib.hid hg; clear hg) | (go_at_call 12; refine (J4.out _ _ U3.out).mono ?_; rintro e w4 ⟨rfl, hb⟩; have B4 := Lib.hid (B3.out.trans (hb.mono B3.out.size)); have X4 := Lib.hid (X3.out.next hb); have A4 := Lib.hid (A3.out.next hb); have U4 := Lib.hid (U3.out.next hb); have M4 := Lib.hid (M3.out.next hb); have N4 := Lib.hid (N3.out.next hb); clear hb B3 X3 A3 U3 M3 N3))
              all_goals
                go_wp2_with fail
                go_ret
                exact ⟨rfl, B8.out⟩
end fnDataWith
end Go.Proofs.YtnjphlaohihbaaaGreat
