/- What fits a pattern of a store, and what is found: the program's and the specification's. -/
import Derived.Test.YteejpceliodcfaaStoK
import Derived.Test.YteejpceliodcfaaStoL
namespace Go.Proofs.Yteejpceliodcfaa
open Go.RowKit Go.WideShapes
def fitB (a b : ByteArray) : Bool := a.toList.isEmpty || (a.toList == b.toList)
def fitT (p t : Tri3) : Bool := fitB p.1 t.1 && (fitB p.2.1 t.2.1 && fitB p.2.2 t.2.2)
theorem fit_cases (a b : ByteArray) : (a.toList.isEmpty = true ∧ fitB a b = true) ∨ (a.toList.isEmpty = false ∧ (a.toList == b.toList) = true ∧ fitB a b = true) ∨ (a.toList.isEmpty = false ∧ (a.toList == b.toList) = false ∧ fitB a b = false) := by
  unfold fitB
  cases a.toList.isEmpty <;> cases (a.toList == b.toList) <;> simp
theorem implFits (a b : ByteArray) (w : World) : Calls Try.prog 116 #[.string a, .string b] w fun e w' => e = .returned (.bool (fitB a b)) ∧ w = w' := by
  rcases fit_cases a b with ⟨h1, h⟩ | ⟨h1, h2, h⟩ | ⟨h1, h2, h⟩
  all_goals
    rw [h]
    clear h
    go_enter Try.func116, Try.ntmps116
    go_wp2_with fail
    go_ret
    exact ⟨rfl, rfl⟩
set_option maxRecDepth 100000 in
theorem implFitsAll (p t : Tri3) (w : World) : Calls Try.prog 76 #[.agg #[.string p.1, .string p.2.1, .string p.2.2], .agg #[.string t.1, .string t.2.1, .string t.2.2]] w fun e w' => e = .returned (.bool (fitT p t)) ∧ Below w.heap.size w w' := by
  have C1 := implFits p.1 t.1
  have C2 := implFits p.2.1 t.2.1
  have C3 := implFits p.2.2 t.2.2
  unfold fitT
  generalize fitB p.1 t.1 = b1 at C1 ⊢
  generalize fitB p.2.1 t.2.1 = b2 at C2 ⊢
  generalize fitB p.2.2 t.2.2 = b3 at C3 ⊢
  have D1 := Lib.hid C1
  have D2 := Lib.hid C2
  have D3 := Lib.hid C3
  clear C1 C2 C3
  cases b1
  · go_enter Try.func76, Try.ntmps76
    go_wp2_with (go_at_call 116; refine (D1.out _).mono ?_; rintro e w1 ⟨rfl, rfl⟩)
    go_ret
    exact ⟨rfl, ((Below.refl _ _).alloc (Nat.le_refl _) _).alloc (by simp) _⟩
  cases b2
  · go_enter Try.func76, Try.ntmps76
    go_wp2_with fail
    refine (D1.out _).mono ?_
    rintro e w1 ⟨rfl, rfl⟩
    go_wp2_with fail
    refine (D2.out _).mono ?_
    rintro e w1 ⟨rfl, rfl⟩
    go_wp2_with fail
    go_ret
    exact ⟨rfl, ((Below.refl _ _).alloc (Nat.le_refl _) _).alloc (by simp) _⟩
  cases b3
  all_goals
    go_enter Try.func76, Try.ntmps76
    go_wp2_with fail
    refine (D1.out _).mono ?_
    rintro e w1 ⟨rfl, rfl⟩
    go_wp2_with fail
    refine (D2.out _).mono ?_
    rintro e w1 ⟨rfl, rfl⟩
    go_wp2_with fail
    refine (D3.out _).mono ?_
    rintro e w1 ⟨rfl, rfl⟩
    go_wp2_with fail
    go_ret
    exact ⟨rfl, ((Below.refl _ _).alloc (Nat.le_refl _) _).alloc (by simp) _⟩
set_option maxRecDepth 100000 in
set_option maxHeartbeats 3200000 in
theorem specFits (p t : Tri3) (w : World) : Calls Try.prog 77 #[.agg #[.string t.1, .string t.2.1, .string t.2.2], .agg #[.string p.1, .string p.2.1, .string p.2.2]] w fun e w' => e = .returned (.bool (fitT p t)) ∧ Below w.heap.size w w' := by
  unfold fitT
  obtain ⟨p1, p2, p3⟩ := p
  obtain ⟨t1, t2, t3⟩ := t
  simp only
  have K2 := Lib.hid (fit_cases p2 t2)
  have K3 := Lib.hid (fit_cases p3 t3)
  rcases fit_cases p1 t1 with ⟨h1, h⟩ | ⟨h1, h2, h⟩ | ⟨h1, h2, h⟩
  rotate_right
  · rw [h]
    clear h K2 K3
    go_enter Try.func77, Try.ntmps77
    go_wp2_with fail
    go_ret
    exact ⟨rfl, ((Below.refl _ _).alloc (Nat.le_refl _) _).alloc (by simp) _⟩
  all_goals
    rw [h]
    clear h
    rcases K2.out with ⟨g1, h⟩ | ⟨g1, g2, h⟩ | ⟨g1, g2, h⟩
    rotate_right
    · rw [h]
      clear h K3 K2
      go_enter Try.func77, Try.ntmps77
      go_wp2_with fail
      go_ret
      exact ⟨rfl, ((Below.refl _ _).alloc (Nat.le_refl _) _).alloc (by simp) _⟩
    all_goals
      rw [h]
      clear h K2
      rcases K3.out with ⟨j1, h⟩ | ⟨j1, j2, h⟩ | ⟨j1, j2, h⟩
      all_goals
        rw [h]
        clear h K3
        go_enter Try.func77, Try.ntmps77
        go_wp2_with fail
        go_ret
        exact ⟨rfl, ((Below.refl _ _).alloc (Nat.le_refl _) _).alloc (by simp) _⟩
def foundT (t1 t2 t3 : List Tri3) (p : Tri3) : List Tri3 := if storeOk t1 t2 t3 = true then t1.filter (fitT p) else []
theorem filt_step {ts : List Tri3} {k : Nat} {t : Tri3} (f : Tri3 → Bool) (ht : ts[k]? = some t) : (ts.take (k + 1)).filter f = (ts.take k).filter f ++ (if f t then [t] else []) := by
  rw [List.take_add_one, ht, List.filter_append]; simp [List.filter_cons]
theorem filt_len (ts : List Tri3) (k : Nat) (f : Tri3 → Bool) : ((ts.take k).filter f).length ≤ k := Nat.le_trans (List.length_filter_le _ _) (List.length_take_le _ _)
set_option maxRecDepth 100000 in
set_option maxHeartbeats 3200000 in
theorem implFound (a1 a2 a3 : Option Addr) (n1 n2 n3 c1 c2 c3 : Nat) (t1 t2 t3 : List Tri3) (s p o : ByteArray) (w : World) (h : Is3 w a1 a2 a3 n1 n2 n3 c1 c2 c3 t1 t2 t3) (hs : Sm t1) (l1 : n1 ≤ 1048576) (l2 : n2 ≤ 1048576) (l3 : n3 ≤ 1048576) :
    Calls Try.prog 31 #[.agg #[.slice a1 n1 c1, .slice a2 n2 c2, .slice a3 n3 c3], .agg #[.string s, .string p, .string o]] w fun e w' => ∃ v, e = .returned v ∧ OwnT w.heap.size w' v (foundT t1 t2 t3 (s, p, o)) ∧ Below w.heap.size w w' := by
  obtain ⟨i0, hi, hz0, hz1, hz2⟩ := info_parts infoTri
  obtain ⟨W1, hW1⟩ : ∃ W, (w.alloc (.cells #[.slice a1 n1 c1, .slice a2 n2 c2, .slice a3 n3 c3] 39)).alloc (.cells #[.string s, .string p, .string o] 46) = W := ⟨_, rfl⟩
  have B0 : Below w.heap.size w W1 := by rw [← hW1]; exact ((Below.refl w.heap.size w).alloc (Nat.le_refl _) _).alloc (by simp) _
  have X0 : Box W1 w.heap.size (.slice a1 n1 c1) (.slice a2 n2 c2) (.slice a3 n3 c3) 39 := by rw [← hW1]; exact (Box.new w _ _ _ _).alloc _
  have Y0 : Box W1 (w.heap.size + 1) (.string s) (.string p) (.string o) 46 := by
    rw [← hW1]; have := Box.new (w.alloc (.cells #[.slice a1 n1 c1, .slice a2 n2 c2, .slice a3 n3 c3] 39)) (.string s) (.string p) (.string o) 46
    rwa [World.size_alloc] at this
  have HW := Lib.hid hW1
  have H := Lib.hid h
  have HL := Lib.hid h.1.len
  have C' := implStoreOk a1 a2 a3 n1 n2 n3 c1 c2 c3 t1 t2 t3 W1 (h.next B0) hs l1 l2 l3
  clear h hs hW1
  obtain ⟨x0, x1, x2⟩ := X0.cells
  unfold foundT
  cases hq : storeOk t1 t2 t3
  · rw [hq] at C'
    have C := Lib.hid C'
    clear C' hq
    go_enter Try.func31, Try.ntmps31
    go_wp2_with fail
    rw [HW.out]
    refine C.out.mono ?_
    rintro e w1 ⟨rfl, hb⟩
    go_wp2_with fail
    go_ret
    exact ⟨.slice none 0 0, rfl, ⟨rfl, .inl ⟨rfl, rfl⟩⟩, B0.trans (hb.mono B0.size)⟩
  · rw [hq] at C'
    have C := Lib.hid C'
    clear C' hq
    go_enter Try.func31, Try.ntmps31
    go_wp2_with fail
    rw [HW.out]
    refine C.out.mono ?_
    rintro e w1 ⟨rfl, hb⟩
    have B1 := B0.trans (hb.mono B0.size)
    have X1 := X0.next hb
    have Y1 := Lib.hid (Y0.next hb)
    clear hb B0 X0 Y0 x0 x1 x2
    obtain ⟨x0, x1, x2⟩ := X1.cells
    go_wp2_with fail
    clear x0 x1 x2 X1
    go_loopw [5, 14] (fun v i wr => ∃ (k : Nat) (u : Value), k ≤ n1 ∧ i = .int .i64 k ∧ u = v ∧ Hid (OwnT (w.heap.size + 2) wr u ((t1.take k).filter (fitT (s, p, o)))) ∧ Hid (Box wr (w.heap.size + 1) (.string s) (.string p) (.string o) 46) ∧ Below w.heap.size w wr) (fun _ i _ => n1 - (intOf i).toNat)
    case atStart => exact ⟨0, _, Nat.zero_le _, rfl, rfl, Lib.hid ⟨rfl, .inl ⟨rfl, rfl⟩⟩, Y1, B1⟩
    case round =>
      obtain ⟨k, v0, hk, rfl, rfl, hown, hbox, hnx⟩ := hrel
      clear B1 Y1
      by_cases hlt : k < n1
      · obtain ⟨b, off, rfl, hb, _, _, hts, hcs⟩ := H.out.1.cells (by omega)
        have ht : t1[k]? = some (t1[k]'(by omega)) := List.getElem?_eq_getElem (by omega)
        obtain ⟨d0, d1, d2, m0, m1, m2⟩ := hcs k _ ht
        clear m0 m1 m2
        rw [← hnx.cell (p := ⟨b, _, none⟩) hb] at d0 d1 d2
        generalize t1[k]'(by omega) = t at ht d0 d1 d2
        have HF := Lib.hid (filt_step (fitT (s, p, o)) ht)
        have hln := filt_len t1 k (fitT (s, p, o))
        obtain ⟨acc, hacc⟩ : ∃ acc, (t1.take k).filter (fitT (s, p, o)) = acc := ⟨_, rfl⟩
        rw [hacc] at hown HF hln
        obtain ⟨e0, e1, e2⟩ := t
        simp only at d0 d1 d2
        have CF' := implFitsAll (s, p, o) (e0, e1, e2)
        obtain ⟨bb, hbb⟩ : ∃ bb, fitT (s, p, o) (e0, e1, e2) = bb := ⟨_, rfl⟩
        rw [hbb] at CF' HF
        have CF := Lib.hid CF'
        have hk6 : (0 : Int) ≤ (k : Int) := by omega
        have hk7 : (k : Int) < (n1 : Int) := by omega
        have Y2 := hbox.out.alloc (.cells #[.string e0, .string e1, .string e2] 46)
        have E2 := Box.new wr (.string e0) (.string e1) (.string e2) 46
        have O2 := Lib.hid (World.ownsRow.alloc hown.out (.cells #[.string e0, .string e1, .string e2] 46))
        have B2 := hnx.alloc hnx.size (.cells #[.string e0, .string e1, .string e2] 46)
        obtain ⟨y0, y1, y2⟩ := Y2.cells
        obtain ⟨z0, z1, z2⟩ := E2.cells
        clear ht hts hcs CF' hacc hbb hbox hown
        go_wp2_with fail
        refine (CF.out _).mono ?_
        rintro e w2 ⟨rfl, hb2⟩
        have B3 := B2.trans (hb2.mono B2.size)
        have Y3 := Lib.hid (Y2.next hb2)
        have E3 := E2.next hb2
        have O3 := Lib.hid (own_next O2.out (grown_of_below hb2))
        clear hb2 B2 Y2 E2 O2 y0 y1 y2 z0 z1 z2 d0 d1 d2 hnx CF
        obtain ⟨z0, z1, z2⟩ := E3.cells
        cases bb
        · have HN : Hid (OwnT (w.heap.size + 2) w2 v0 ((t1.take (k + 1)).filter (fitT (s, p, o)))) := Lib.hid (by rw [HF.out]; simpa using O3.out)
          clear O3 HF
          go_wp2_with fail
          go_roundw
          case rel => exact ⟨k + 1, v0, by omega, by go_num, rfl, HN, Y3, B3⟩
          case measure => simp [intOf]; omega
        · have HC : ∀ (j : Nat) (x : Value), [Value.string e0, .string e1, .string e2][j]? = some x → (w2.alloc (.cells #[.string e0, .string e1, .string e2] 46)).cell? ((⟨w2.heap.size, 0, none⟩ : Addr).add j) = some x := three_cell
          have HH3 := Lib.hid HC
          have O4 := Lib.hid (World.ownsRow.alloc O3.out (.cells #[.string e0, .string e1, .string e2] 46))
          have B4 := B3.alloc B3.size (.cells #[.string e0, .string e1, .string e2] 46)
          have Y4 := Lib.hid (Y3.out.alloc (.cells #[.string e0, .string e1, .string e2] 46))
          have hne := fun j hj => World.ownsRow.lt O3.out j hj
          clear HC O3 B3 Y3
          go_wp2_with (at_builtin; refine wpList_append_own _ rfl _ _ 27 rfl (w.heap.size + 2) 46 i0 (.agg #[.string ⟨#[]⟩, .string ⟨#[]⟩, .string ⟨#[]⟩]) 3 48 Try.underlying27 hi hz0 hz1 hz2 rfl (by decide) _ _ _ rfl O4.out ⟨w2.heap.size, 0, none⟩ 1 _ [.string e0, .string e1, .string e2] rfl rfl HH3.out (by intro x hx; simp at hx; rcases hx with rfl | rfl | rfl <;> rfl) ?h63 ?h48 ?hbs ?_)
          case h63 => unfold maxLen; omega
          case h48 => omega
          case hbs => have h9 := Y4.out.lt; first | omega | (simp only [World.size_alloc] at h9 ⊢; omega) | (rw [World.size_alloc] at h9; omega)
          intro v2 w3 hown2 hg2 _
          have HN : Hid (OwnT (w.heap.size + 2) w3 v2 ((t1.take (k + 1)).filter (fitT (s, p, o)))) := Lib.hid (by rw [HF.out]; exact own3_snoc (t := (e0, e1, e2)) hown2)
          have B5 := B4.grown hg2 B4.size (fun j hj => by have := (hne j hj).1; omega)
          have Y5 := Lib.hid (Y4.out.grown hg2 (fun e => by have := (hne _ e.symm).1; omega))
          clear hown2 hg2 O4 HH3 B4 Y4 HF hne z0 z1 z2
          go_wp2_with fail
          go_roundw
          case rel => exact ⟨k + 1, v2, by omega, by go_num, rfl, HN, Y5, B5⟩
          case measure => simp [intOf]; omega
      · obtain rfl : k = n1 := by omega
        have HR : Hid (OwnT (w.heap.size + 2) wr v0 (t1.filter (fitT (s, p, o)))) := Lib.hid (by
          have := hown.out
          rwa [List.take_of_length_le (by rw [HL.out]; exact Nat.le_refl _)] at this)
        clear hown hbox
        go_wp2_with fail
        go_ret
        exact ⟨v0, rfl, by simpa using own_base HR.out (Nat.le_add_right _ _), hnx⟩
set_option maxRecDepth 100000 in
set_option maxHeartbeats 3200000 in
theorem specFound (a1 a2 a3 : Option Addr) (n1 n2 n3 c1 c2 c3 : Nat) (t1 t2 t3 : List Tri3) (s p o : ByteArray) (w : World) (h : Is3 w a1 a2 a3 n1 n2 n3 c1 c2 c3 t1 t2 t3) (hs : Sm t1) (l1 : n1 ≤ 1048576) (l2 : n2 ≤ 1048576) (l3 : n3 ≤ 1048576) :
    Calls Try.prog 32 #[.agg #[.slice a1 n1 c1, .slice a2 n2 c2, .slice a3 n3 c3], .agg #[.string s, .string p, .string o]] w fun e w' => ∃ v, e = .returned v ∧ OwnT w.heap.size w' v (foundT t1 t2 t3 (s, p, o)) ∧ Below w.heap.size w w' := by
  obtain ⟨i0, hi, hz0, hz1, hz2⟩ := info_parts infoTri
  obtain ⟨W1, hW1⟩ : ∃ W, (w.alloc (.cells #[.slice a1 n1 c1, .slice a2 n2 c2, .slice a3 n3 c3] 39)).alloc (.cells #[.string s, .string p, .string o] 46) = W := ⟨_, rfl⟩
  have B0 : Below w.heap.size w W1 := by rw [← hW1]; exact ((Below.refl w.heap.size w).alloc (Nat.le_refl _) _).alloc (by simp) _
  have X0 : Box W1 w.heap.size (.slice a1 n1 c1) (.slice a2 n2 c2) (.slice a3 n3 c3) 39 := by rw [← hW1]; exact (Box.new w _ _ _ _).alloc _
  have Y0 : Box W1 (w.heap.size + 1) (.string s) (.string p) (.string o) 46 := by
    rw [← hW1]; have := Box.new (w.alloc (.cells #[.slice a1 n1 c1, .slice a2 n2 c2, .slice a3 n3 c3] 39)) (.string s) (.string p) (.string o) 46
    rwa [World.size_alloc] at this
  have HW := Lib.hid hW1
  have H := Lib.hid h
  have HL := Lib.hid h.1.len
  obtain ⟨W2, hW2⟩ : ∃ W, W1.alloc (.cells #[] 46) = W := ⟨_, rfl⟩
  have hz : W1.heap.size = w.heap.size + 2 := by rw [← hW1]; simp
  have O1 : Hid (OwnT (w.heap.size + 2) W2 (.slice (some ⟨w.heap.size + 2, 0, none⟩) 0 0) []) := Lib.hid (by
    have := (World.ownsRow_lit (size := 3) (e := 46) W1 #[] 0 (Nat.le_refl _) (by decide) rfl : OwnT W1.heap.size (W1.alloc (.cells #[] 46)) (.slice (some ⟨W1.heap.size, 0, none⟩) 0 0) [])
    rw [hz, hW2] at this; exact this)
  have B1 : Below w.heap.size w W2 := by rw [← hW2]; exact B0.alloc B0.size _
  have X1 : Hid (Box W2 w.heap.size (.slice a1 n1 c1) (.slice a2 n2 c2) (.slice a3 n3 c3) 39) := Lib.hid (by rw [← hW2]; exact X0.alloc _)
  have Y1 : Hid (Box W2 (w.heap.size + 1) (.string s) (.string p) (.string o) 46) := Lib.hid (by rw [← hW2]; exact Y0.alloc _)
  have HW2 := Lib.hid hW2
  have C' := fun W hi => specStoreOk a1 a2 a3 n1 n2 n3 c1 c2 c3 t1 t2 t3 W hi hs l1 l2 l3
  clear h hs hW1 hW2 hz B0 X0 Y0
  unfold foundT
  cases hq : storeOk t1 t2 t3
  · rw [hq] at C'
    have C := Lib.hid C'
    obtain ⟨x0, x1, x2⟩ := X1.out.cells
    clear C' hq
    go_enter Try.func32, Try.ntmps32
    go_wp2_with fail
    rw [HW.out, HW2.out]
    refine wp_loop_rounds 1 ?_
    rw [rounds_succ]
    go_wp2_with fail
    refine (C.out _ (H.out.next B1)).mono ?_
    rintro e w1 ⟨rfl, hb⟩
    have B2 := B1.trans (hb.mono B1.size)
    have O2 := own_next O1.out (grown_of_below hb)
    have O3 := Lib.hid (own_base O2 (Nat.le_add_right w.heap.size 2))
    clear hb O2 x0 x1 x2
    go_wp2_with fail
    go_ret
    exact ⟨_, rfl, by simpa using O3.out, B2⟩
  · rw [hq] at C'
    have C := Lib.hid C'
    clear C' hq
    go_enter Try.func32, Try.ntmps32
    go_wp2_with fail
    rw [HW.out, HW2.out]
    go_loopw [5, 6] (fun v i wr => ∃ (k : Nat) (u : Value), k ≤ n1 ∧ i = .int .i64 k ∧ u = v ∧ Hid (OwnT (w.heap.size + 2) wr u ((t1.take k).filter (fitT (s, p, o)))) ∧ Hid (Box wr w.heap.size (.slice a1 n1 c1) (.slice a2 n2 c2) (.slice a3 n3 c3) 39) ∧ Hid (Box wr (w.heap.size + 1) (.string s) (.string p) (.string o) 46) ∧ Below w.heap.size w wr) (fun _ i _ => n1 - (intOf i).toNat)
    case atStart => exact ⟨0, _, Nat.zero_le _, rfl, rfl, O1, X1, Y1, B1⟩
    case round =>
      obtain ⟨k, v0, hk, rfl, rfl, hown, hst, hbox, hnx⟩ := hrel
      clear B1 Y1 X1 O1
      obtain ⟨x0, x1, x2⟩ := hst.out.cells
      by_cases hlt : k < n1
      · have hk6 : (0 : Int) ≤ (k : Int) := by omega
        have hk7 : (k : Int) < (n1 : Int) := by omega
        go_wp2_with fail
        refine (C.out _ (H.out.next hnx)).mono ?_
        rintro e w1 ⟨rfl, hb⟩
        have B2 := Lib.hid (hnx.trans (hb.mono hnx.size))
        have X2 := Lib.hid (hst.out.next hb)
        have Y2 := Lib.hid (hbox.out.next hb)
        have O2 := Lib.hid (own_next hown.out (grown_of_below hb))
        clear hb hnx hst hbox hown x0 x1 x2
        obtain ⟨b, off, rfl, hb, _, _, hts, hcs⟩ := H.out.1.cells (by omega)
        have ht : t1[k]? = some (t1[k]'(by omega)) := List.getElem?_eq_getElem (by omega)
        obtain ⟨d0, d1, d2, m0, m1, m2⟩ := hcs k _ ht
        clear m0 m1 m2
        have DH := Lib.hid (And.intro d0 (And.intro d1 d2))
        rw [← B2.out.cell (p := ⟨b, _, none⟩) hb, ← World.cell?_drew] at d0 d1 d2
        generalize t1[k]'(by omega) = t at ht d0 d1 d2 DH
        have HF := Lib.hid (filt_step (fitT (s, p, o)) ht)
        have hln := filt_len t1 k (fitT (s, p, o))
        obtain ⟨acc, hacc⟩ : ∃ acc, (t1.take k).filter (fitT (s, p, o)) = acc := ⟨_, rfl⟩
        rw [hacc] at O2 HF hln
        obtain ⟨e0, e1, e2⟩ := t
        simp only at d0 d1 d2
        have CF' := specFits (s, p, o) (e0, e1, e2)
        obtain ⟨bb, hbb⟩ : ∃ bb, fitT (s, p, o) (e0, e1, e2) = bb := ⟨_, rfl⟩
        rw [hbb] at CF' HF
        have CF := Lib.hid CF'
        obtain ⟨x0, x1, x2⟩ := X2.out.drew.cells
        obtain ⟨y0, y1, y2⟩ := Y2.out.drew.cells
        clear ht hts hcs CF' hacc hbb x1 x2
        have x0' := X2.out.cells.1
        go_wp2_with fail
        clear x0'
        go_region_held3 (fun w' => w'.cell? ⟨w.heap.size, 0, none⟩ = some (.slice (some ⟨b, off, none⟩) n1 c1) ∧ w'.cell? ⟨w.heap.size + 1, 0, none⟩ = some (.string s) ∧ w'.cell? ⟨w.heap.size + 1, 1, none⟩ = some (.string p) ∧ w'.cell? ⟨w.heap.size + 1, 2, none⟩ = some (.string o) ∧ w'.cell? ⟨b, off + k * 3, none⟩ = some (.string e0) ∧ w'.cell? ⟨b, off + k * 3 + 1, none⟩ = some (.string e1) ∧ w'.cell? ⟨b, off + k * 3 + 2, none⟩ = some (.string e2))
          (first | go_keep | (go_split_ands; refine ⟨?_, ?_, ?_, ?_, ?_, ?_, ?_⟩ <;> (rw [hb2.cell (World.block_lt_of_cell? _ _ (by assumption))]; assumption)))
          (first | (go_at_call 77; refine (CF.out _).mono ?_; rintro e w2 ⟨rfl, hb2⟩))
        have B3 := B2.out.drew.trans (hb2.mono B2.out.size)
        have X3 := Lib.hid (X2.out.drew.next hb2)
        have Y3 := Lib.hid (Y2.out.drew.next hb2)
        have O3 := Lib.hid (own_next (World.ownsRow.drew O2.out) (grown_of_below hb2))
        obtain ⟨f0, f1, f2⟩ := DH.out
        try simp only at f0 f1 f2
        rw [← B3.cell (p := ⟨b, _, none⟩) hb] at f0 f1 f2
        clear hb2 B2 X2 Y2 O2 x0 y0 y1 y2 d0 d1 d2 CF DH
        obtain ⟨x0, x1, x2⟩ := X3.out.cells
        cases bb
        · have HN : Hid (OwnT (w.heap.size + 2) w2 v0 ((t1.take (k + 1)).filter (fitT (s, p, o)))) := Lib.hid (by rw [HF.out]; simpa using O3.out)
          clear O3 HF f0 f1 f2
          go_wp2_with fail
          go_roundw
          case rel => exact ⟨k + 1, v0, by omega, by go_num, rfl, HN, X3, Y3, B3⟩
          case measure => simp [intOf]; omega
        · have HC : ∀ (j : Nat) (x : Value), [Value.string e0, .string e1, .string e2][j]? = some x → (w2.alloc (.cells #[.string e0, .string e1, .string e2] 46)).cell? ((⟨w2.heap.size, 0, none⟩ : Addr).add j) = some x := three_cell
          have HH3 := Lib.hid HC
          have O4 := Lib.hid (World.ownsRow.alloc O3.out (.cells #[.string e0, .string e1, .string e2] 46))
          have B4 := B3.alloc B3.size (.cells #[.string e0, .string e1, .string e2] 46)
          have X4 := Lib.hid (X3.out.alloc (.cells #[.string e0, .string e1, .string e2] 46))
          have Y4 := Lib.hid (Y3.out.alloc (.cells #[.string e0, .string e1, .string e2] 46))
          have hne := fun j hj => World.ownsRow.lt O3.out j hj
          clear HC O3 B3 Y3 X3
          go_wp2_with (at_builtin; refine wpList_append_own _ rfl _ _ 27 rfl (w.heap.size + 2) 46 i0 (.agg #[.string ⟨#[]⟩, .string ⟨#[]⟩, .string ⟨#[]⟩]) 3 48 Try.underlying27 hi hz0 hz1 hz2 rfl (by decide) _ _ _ rfl O4.out ⟨w2.heap.size, 0, none⟩ 1 _ [.string e0, .string e1, .string e2] rfl rfl HH3.out (by intro x hx; simp at hx; rcases hx with rfl | rfl | rfl <;> rfl) ?h63 ?h48 ?hbs ?_)
          case h63 => unfold maxLen; omega
          case h48 => omega
          case hbs => have h9 := Y4.out.lt; first | omega | (simp only [World.size_alloc] at h9 ⊢; omega) | (rw [World.size_alloc] at h9; omega)
          intro v2 w3 hown2 hg2 _
          have HN : Hid (OwnT (w.heap.size + 2) w3 v2 ((t1.take (k + 1)).filter (fitT (s, p, o)))) := Lib.hid (by rw [HF.out]; exact own3_snoc (t := (e0, e1, e2)) hown2)
          have B5 := B4.grown hg2 B4.size (fun j hj => by have := (hne j hj).1; omega)
          have X5 := Lib.hid (X4.out.grown hg2 (fun e => by have := (hne _ e.symm).1; omega))
          have Y5 := Lib.hid (Y4.out.grown hg2 (fun e => by have := (hne _ e.symm).1; omega))
          clear hown2 hg2 O4 HH3 B4 Y4 X4 HF hne f0 f1 f2 x0 x1 x2
          go_wp2_with fail
          go_roundw
          case rel => exact ⟨k + 1, v2, by omega, by go_num, rfl, HN, X5, Y5, B5⟩
          case measure => simp [intOf]; omega
      · obtain rfl : k = n1 := by omega
        have HR : Hid (OwnT (w.heap.size + 2) wr v0 (t1.filter (fitT (s, p, o)))) := Lib.hid (by
          have := hown.out
          rwa [List.take_of_length_le (by rw [HL.out]; exact Nat.le_refl _)] at this)
        clear hown hbox
        go_wp2_with fail
        refine (C.out _ (H.out.next hnx)).mono ?_
        rintro e w1 ⟨rfl, hb⟩
        have B2 := hnx.trans (hb.mono hnx.size)
        have X2 := hst.out.next hb
        have O2 := Lib.hid (own_next HR.out (grown_of_below hb))
        clear hb hst x0 x1 x2 HR hnx
        obtain ⟨x0, x1, x2⟩ := X2.cells
        go_wp2_with fail
        go_ret
        exact ⟨v0, rfl, by simpa using own_base O2.out (Nat.le_add_right _ _), B2⟩
end Go.Proofs.Yteejpceliodcfaa
