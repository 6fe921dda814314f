/- What clashes: the program's way. -/
import Derived.Test.YteejpceliodcfaaClaM
import Derived.Test.YteejpceliodcfaaGraph
namespace Go.Proofs.Yteejpceliodcfaa
open Go.RowKit Go.WideShapes Go.Maps
theorem zeroBo (w : World) : (zeroValue 4).run Try.prog w = .ok (.bool false) w := by kernel_rfl
theorem look_run {w : World} {b n : Nat} {ts : List Tri3} (h : OwnSet w b n ts) {t : Tri3} (ht : SmK t) : (Instr.lookup 74 (.map (some b)) (strT t) false).run Try.prog w = .ok (.bool (decide (t ∈ ts))) w := by
  obtain ⟨D, hown, hD⟩ := h
  obtain ⟨f0, f1, f2, S⟩ := keyTri
  obtain ⟨v, ps, hrun, hv⟩ := hown.lookup lawTri Try.underlying74 (zeroBo w) (plainElem_bool Try.underlying4 false) (S.of ht)
  rw [hD.look S lawTri ht] at hv
  obtain ⟨y, rfl, e⟩ := bool_elem_inv Try.underlying4 hv
  simp only [DataW.lit.injEq, Lit.bool.injEq] at e
  subst e
  exact hrun
theorem ty_max : tyB.size ≤ maxLen := by decide
theorem di_max : diB.size ≤ maxLen := by decide
theorem ne_ty_sa : tyB ≠ bs [60, 115, 97, 109, 101, 62] := by decide
theorem ne_ty_dj : tyB ≠ bs [60, 100, 105, 115, 106, 62] := by decide
theorem ne_sa_ty : saB ≠ bs [60, 116, 121, 112, 101, 62] := by decide
theorem ne_sa_dj : saB ≠ bs [60, 100, 105, 115, 106, 62] := by decide
theorem ne_dj_ty : djB ≠ bs [60, 116, 121, 112, 101, 62] := by decide
theorem ne_dj_sa : djB ≠ bs [60, 115, 97, 109, 101, 62] := by decide
theorem lit_cells {w : World} {xs : List ByteArray} {cs : Array Value} {e g : Nat} (hcs : cs.toList = xs.map strV) (hg : g = w.heap.size) : ∀ (j : Nat) (x : ByteArray), xs[j]? = some x → (w.alloc (.cells cs e)).cell? ⟨g, 0 + j, none⟩ = some (.string x) := by
  subst hg
  intro j x hj
  have h1 : cs[j]? = some (.string x) := by rw [← Array.getElem?_toList, hcs, List.getElem?_map, hj]; rfl
  have hb : (w.alloc (.cells cs e)).heap[w.heap.size]? = some (.cells cs e (0, 0)) := heap_alloc_new w _
  rw [Nat.zero_add]
  simp only [World.cell?, hb, h1]
  rfl
theorem lit_one {w : World} {x : Value} {e g : Nat} (hg : g = w.heap.size) : ∀ (j : Nat) (u : Value), [x][j]? = some u → (w.alloc (.cells #[x] e)).cell? ((⟨g, 0, none⟩ : Addr).add j) = some u := by
  subst hg
  intro j u hj
  rw [add_plain, Nat.zero_add]
  match j, hj with
  | 0, hj =>
    have hb : (w.alloc (.cells #[x] e)).heap[w.heap.size]? = some (.cells #[x] e (0, 0)) := heap_alloc_new w _
    simp at hj; subst hj; simp only [World.cell?, hb]; rfl
  | j + 1, hj => simp at hj
theorem str_one (s : ByteArray) : ∀ u ∈ [Value.string s], u.oneCell' = true := by
  intro u hu
  simp only [List.mem_cons, List.not_mem_nil, or_false] at hu
  rw [hu]; rfl
set_option maxRecDepth 100000 in
set_option maxHeartbeats 3200000 in
theorem implClasses (a : Option Addr) (len cap b m : Nat) (g S : List Tri3) (c d : ByteArray) (w : World) (h : IsTris w a len cap g) (hl : len ≤ 80) (hs : OwnSet w b m S) (hS : ∀ t, t ∈ S ↔ t ∈ g) (hg : ∀ t ∈ g, t.1.size ≤ 2097152) (hc : c.size ≤ 2097152) (hd : d.size ≤ 2097152) :
    Calls Try.prog 103 #[.slice a len cap, .map (some b), .string c, .string d] w fun e w' => ∃ v, e = .returned v ∧ OwnS w.heap.size w' v ((g.flatMap (classW g c d)).map bs) ∧ Below w.heap.size w w' := by
  obtain ⟨i0, hi, hz0, hz1, hz2⟩ := info_parts infoStr
  have H := Lib.hid h
  have HS := Lib.hid hs
  have HE := Lib.hid hS
  have HG := Lib.hid hg
  have HLEN := Lib.hid h.len
  have HBM := Lib.hid hs.lt
  clear h hs hS hg
  have O0 : OwnS w.heap.size w (.slice none 0 0) ((([] : List Tri3).flatMap (classW g c d)).map bs) := ⟨rfl, .inl ⟨rfl, rfl⟩⟩
  have HO := Lib.hid O0
  clear O0
  go_enter Try.func103, Try.ntmps103
  go_wp2_with fail
  go_loopw [9, 14] (fun o i wr => ∃ k : Nat, k ≤ len ∧ i = .int .i64 k ∧ (∃ x n y, o = .slice x n y ∧ n ≤ k ∧ Hid (OwnS w.heap.size wr o (((g.take k).flatMap (classW g c d)).map bs) ∧ (((g.take k).flatMap (classW g c d)).map bs).length = n)) ∧ Below w.heap.size w wr) (fun _ i _ => len - (intOf i).toNat)
  case atStart => exact ⟨0, Nat.zero_le _, rfl, ⟨_, _, _, rfl, Nat.le_refl _, Lib.hid ⟨by rw [List.take_zero]; exact HO.out, by simp⟩⟩, Below.refl _ _⟩
  case round =>
    obtain ⟨k, hk, rfl, ⟨x, n, y, rfl, hn, HQ⟩, hnx⟩ := hrel
    clear HO
    have hk6 : (0 : Int) ≤ (k : Int) := by omega
    by_cases hlt : k < len
    · have hk7 : (k : Int) < (len : Int) := by omega
      obtain ⟨bb, off, rfl, hb, hl', hm, hts, hcs⟩ := H.out.cells (by omega)
      have ht : g[k]? = some (g[k]'(by omega)) := List.getElem?_eq_getElem (by omega)
      obtain ⟨d0, d1, d2, m0, m1, m2⟩ := hcs k _ ht
      rw [← hnx.cell (p := ⟨bb, _, none⟩) hb] at d0 d1 d2
      have HT : Hid ((g.take (k + 1)).flatMap (classW g c d) = (g.take k).flatMap (classW g c d) ++ classW g c d (g[k]'(by omega))) := Lib.hid (flat_take _ ht)
      have hs1 := HG.out _ (List.mem_of_getElem? ht)
      generalize g[k]'(by omega) = t at ht d0 d1 d2 m0 m1 m2 HT hs1
      obtain ⟨s, p, o⟩ := t
      try simp only at d0 d1 d2
      try simp only at m0 m1 m2
      try simp only at hs1
      have T0 := Box.new wr (.string s) (.string p) (.string o) 46
      have B1 := hnx.alloc hnx.size (.cells #[.string s, .string p, .string o] 46)
      have OS1 := (HS.out.next hnx).alloc (.cells #[.string s, .string p, .string o] 46)
      have O1 := Lib.hid (And.intro (World.ownsRow.alloc HQ.out.1 (.cells #[.string s, .string p, .string o] 46)) HQ.out.2)
      have hsz := hnx.size
      obtain ⟨c0, c1, c2⟩ := T0.cells
      clear HQ hnx ht hts hcs hm hl'
      have STAY : classW g c d (s, p, o) = [] → Hid (OwnS w.heap.size (wr.alloc (.cells #[.string s, .string p, .string o] 46)) (.slice x n y) (((g.take (k + 1)).flatMap (classW g c d)).map bs) ∧ (((g.take (k + 1)).flatMap (classW g c d)).map bs).length = n) := fun hc => Lib.hid (by
        rw [HT.out, hc, List.append_nil]
        exact O1.out)
      by_cases h1 : p = tyB
      rotate_left
      · have e1 := lit_not [60, 116, 121, 112, 101, 62] h1
        have HO2 := STAY (by unfold classW; rw [if_neg (fun h => h1 h.1)])
        clear STAY T0 h1 OS1 O1 m0 m1 m2
        go_wp2_with fail
        go_roundw
        case rel => exact ⟨k + 1, by omega, by go_num, ⟨x, n, y, rfl, by omega, HO2⟩, B1⟩
        case measure => simp [intOf]; omega
      by_cases h2 : o = c
      rotate_left
      · have e1 := lit_is [60, 116, 121, 112, 101, 62] h1
        have e2 := bl_not h2
        have HO2 := STAY (by unfold classW; rw [if_neg (fun h => h2 h.2.1)])
        clear STAY T0 h1 h2 OS1 O1 m0 m1 m2
        go_wp2_with fail
        go_roundw
        case rel => exact ⟨k + 1, by omega, by go_num, ⟨x, n, y, rfl, by omega, HO2⟩, B1⟩
        case measure => simp [intOf]; omega
      have e1 := lit_is [60, 116, 121, 112, 101, 62] h1
      have e2 := bl_is h2
      have hsk : SmK (s, tyB, d) := ⟨m0, ty_max, by unfold maxLen; simp only; omega⟩
      have LK := look_run OS1 hsk
      unfold strT at LK
      simp only at LK
      by_cases h3 : (s, tyB, d) ∈ g
      rotate_left
      · rw [decide_eq_false (fun h => h3 ((HE.out _).1 h))] at LK
        have HO2 := STAY (by unfold classW; rw [if_neg (fun h => h3 h.2.2)])
        clear STAY T0 h3 OS1 O1 m0 m1 m2
        subst h1 h2
        go_wp2_with fail
        go_roundw
        case rel => exact ⟨k + 1, by omega, by go_num, ⟨x, n, y, rfl, by omega, HO2⟩, B1⟩
        case measure => simp [intOf]; omega
      · rw [decide_eq_true ((HE.out _).2 h3)] at LK
        have HW : Hid (classW g c d (s, p, o) = [jnW [wDj, s, c, d]]) := Lib.hid (by unfold classW; rw [if_pos ⟨h1, h2, h3⟩])
        clear STAY h3 OS1 m0 m1 m2
        subst h1 h2
        go_wp2_with fail
        refine (implClashText _ 4 [wDj, s, o, d] _ rfl (lit_cells rfl (by simp)) (by simp) (by omega) (by rw [jn4_len, show (wDj : ByteArray).size = 4 from rfl]; omega)).mono ?_
        rintro e w5 ⟨rfl, hb5⟩
        have BL := B1.alloc B1.size (.cells #[.string wDj, .string s, .string o, .string d] 9)
        have OL := (World.ownsRow.alloc O1.out.1 (.cells #[.string wDj, .string s, .string o, .string d] 9))
        have B5 := BL.trans (hb5.mono BL.size)
        have O5 := OwnS.kept OL hb5
        clear BL OL hb5
        generalize hX : bs (jnW [wDj, s, o, d]) = X
        have B6 := B5.alloc B5.size (.cells #[.string X] 9)
        have O6 := World.ownsRow.alloc O5 (.cells #[.string X] 9)
        unfold OwnS at O6
        rw [O1.out.2] at O6
        have HO6 := Lib.hid O6
        have HX := Lib.hid hX
        clear O5 O6 B5 B1 hX
        go_wp2_with (at_builtin; refine wpList_append_own _ rfl _ _ 24 rfl w.heap.size 9 i0 (.string ⟨#[]⟩) 1 16 Try.underlying24 hi hz0 hz1 hz2 rfl (by decide) _ _ _ rfl HO6.out ⟨w5.heap.size, 0, none⟩ 1 1 [.string X] rfl rfl (lit_one rfl) (str_one X) ?qc4 ?qc5 ?qc6 ?_)
        case qc4 => unfold maxLen; omega
        case qc5 => omega
        case qc6 => exact B6.size
        intro v' w7 hown hgrow _
        have B7 := B6.grown hgrow B6.size (fun j hj => (World.ownsRow.lt O1.out.1 j hj).1)
        have O7 : OwnS w.heap.size w7 v' (((g.take (k + 1)).flatMap (classW g o d)).map bs) := by
          rw [HT.out, HW.out, List.map_append, List.map_singleton, HX.out]
          exact ownS_snoc (by rw [O1.out.2, List.map_map]; exact hown)
        obtain ⟨x7, y7, rfl, _⟩ := O7.is
        have hl7 : (((g.take (k + 1)).flatMap (classW g o d)).map bs).length = n + 1 := by
          rw [HT.out, HW.out, List.map_append, List.length_append, O1.out.2]; rfl
        rw [hl7] at O7 ⊢
        have H7 := Lib.hid (And.intro O7 hl7)
        clear hown hgrow O7 B6 hl7
        go_wp2_with fail
        go_roundw
        case rel => exact ⟨k + 1, by omega, by go_num, ⟨x7, n + 1, y7, rfl, by omega, H7⟩, B7⟩
        case measure => simp [intOf]; omega
    · obtain rfl : k = len := by omega
      have hkl : g.take k = g := List.take_of_length_le (by rw [HLEN.out]; exact Nat.le_refl _)
      have HO2 : Hid (OwnS w.heap.size wr (.slice x n y) ((g.flatMap (classW g c d)).map bs)) := Lib.hid (by have := HQ.out.1; rw [hkl] at this; exact this)
      clear HQ hkl
      go_wp2_with fail
      go_ret
      exact ⟨_, rfl, HO2.out, hnx⟩
set_option maxRecDepth 100000 in
set_option maxHeartbeats 3200000 in
theorem implClashesBy (a : Option Addr) (len cap b m : Nat) (g S : List Tri3) (s p o : ByteArray) (w : World) (h : IsTris w a len cap g) (hl : len ≤ 80) (hs : OwnSet w b m S) (hS : ∀ t, t ∈ S ↔ t ∈ g) (hg : ∀ t ∈ g, t.1.size ≤ 2097152) (hs1 : s.size ≤ 2097152) (ho1 : o.size ≤ 2097152) :
    Calls Try.prog 58 #[.slice a len cap, .map (some b), .agg #[.string s, .string p, .string o]] w fun e w' => ∃ v, e = .returned v ∧ OwnS w.heap.size w' v ((clashW g (s, p, o)).map bs) ∧ Below w.heap.size w w' := by
  have T0 := Box.new w (.string s) (.string p) (.string o) 46
  have B1 := (Below.refl w.heap.size w).alloc (Nat.le_refl _) (.cells #[.string s, .string p, .string o] 46)
  have OS1 := hs.alloc (.cells #[.string s, .string p, .string o] 46)
  have i1 := h.next B1
  obtain ⟨c0, c1, c2⟩ := T0.cells
  have NIL : ∀ W, OwnS w.heap.size W (.slice none 0 0) (([] : List Txt).map bs) := fun W => ⟨rfl, .inl ⟨rfl, rfl⟩⟩
  have ONE : ∀ (W : World) (X : ByteArray), w.heap.size ≤ W.heap.size → OwnS w.heap.size (W.alloc (.cells #[.string X] 9)) (.slice (some ⟨W.heap.size, 0, none⟩) 1 1) [X] := fun W X hW => World.ownsRow_lit (size := 1) (e := 9) W #[.string X] 1 hW (by unfold maxLen; omega) rfl
  have HNIL := Lib.hid NIL
  have HONE := Lib.hid ONE
  clear NIL ONE hs h
  by_cases h1 : p = tyB
  · subst h1
    have e1 := lit_is [60, 116, 121, 112, 101, 62] (rfl : tyB = bs _)
    by_cases h2 : o = noB
    · subst h2
      have HW : Hid ((clashW g (s, tyB, noB)).map bs = [bs (jnW [wNo, s])]) := Lib.hid (by unfold clashW; rw [if_pos rfl, if_pos rfl]; rfl)
      have e2 := lit_is [60, 110, 111, 116, 104, 105, 110, 103, 62] (rfl : noB = bs _)
      go_enter Try.func58, Try.ntmps58
      go_wp2_with fail
      refine (implClashText _ 2 [wNo, s] _ rfl (lit_cells rfl (by simp)) (by simp) (by omega) (by rw [jn2_len, show (wNo : ByteArray).size = 7 from rfl]; omega)).mono ?_
      rintro e w5 ⟨rfl, hb5⟩
      have B5 := (B1.alloc B1.size (.cells #[.string wNo, .string s] 9)).trans (hb5.mono (B1.alloc B1.size (.cells #[.string wNo, .string s] 9)).size)
      have HO := Lib.hid (HONE.out w5 (bs (jnW [wNo, s])) B5.size)
      have B6 := B5.alloc B5.size (.cells #[.string (bs (jnW [wNo, s]))] 9)
      generalize bs (jnW [wNo, s]) = X at HO B6 HW ⊢
      clear B5 hb5
      go_wp2_with fail
      go_ret
      exact ⟨_, rfl, by rw [HW.out]; exact HO.out, B6⟩
    · have HW : Hid ((clashW g (s, tyB, o)).map bs = []) := Lib.hid (by unfold clashW; rw [if_pos rfl, if_neg h2]; rfl)
      have e2 := lit_not [60, 110, 111, 116, 104, 105, 110, 103, 62] h2
      have e3 := lit_not [60, 115, 97, 109, 101, 62] ne_ty_sa
      have e4 := lit_not [60, 100, 105, 115, 106, 62] ne_ty_dj
      go_enter Try.func58, Try.ntmps58
      go_wp2_with fail
      go_ret
      exact ⟨_, rfl, by rw [HW.out]; exact HNIL.out _, B1⟩
  by_cases h2 : p = saB
  · subst h2
    have e1 := lit_not [60, 116, 121, 112, 101, 62] ne_sa_ty
    have e2 := lit_is [60, 115, 97, 109, 101, 62] (rfl : saB = bs _)
    have hsk : SmK (s, diB, o) := ⟨by unfold maxLen; simp only; omega, di_max, by unfold maxLen; simp only; omega⟩
    have LK := look_run OS1 hsk
    unfold strT at LK
    simp only at LK
    by_cases h3 : (s, diB, o) ∈ g
    · rw [decide_eq_true ((hS _).2 h3)] at LK
      have HW : Hid ((clashW g (s, saB, o)).map bs = [bs (jnW [wSa, s, o])]) := Lib.hid (by unfold clashW; rw [if_neg h1, if_pos rfl, if_pos h3]; rfl)
      clear h3
      go_enter Try.func58, Try.ntmps58
      go_wp2_with fail
      refine (implClashText _ 3 [wSa, s, o] _ rfl (lit_cells rfl (by simp)) (by simp) (by omega) (by rw [jn3_len, show (wSa : ByteArray).size = 4 from rfl]; omega)).mono ?_
      rintro e w5 ⟨rfl, hb5⟩
      have B5 := (B1.alloc B1.size (.cells #[.string wSa, .string s, .string o] 9)).trans (hb5.mono (B1.alloc B1.size (.cells #[.string wSa, .string s, .string o] 9)).size)
      have HO := Lib.hid (HONE.out w5 (bs (jnW [wSa, s, o])) B5.size)
      have B6 := B5.alloc B5.size (.cells #[.string (bs (jnW [wSa, s, o]))] 9)
      generalize bs (jnW [wSa, s, o]) = X at HO B6 HW ⊢
      clear B5 hb5
      go_wp2_with fail
      go_ret
      exact ⟨_, rfl, by rw [HW.out]; exact HO.out, B6⟩
    · rw [decide_eq_false (fun h => h3 ((hS _).1 h))] at LK
      have HW : Hid ((clashW g (s, saB, o)).map bs = []) := Lib.hid (by unfold clashW; rw [if_neg h1, if_pos rfl, if_neg h3]; rfl)
      have e4 := lit_not [60, 100, 105, 115, 106, 62] ne_sa_dj
      clear h3
      go_enter Try.func58, Try.ntmps58
      go_wp2_with fail
      go_ret
      exact ⟨_, rfl, by rw [HW.out]; exact HNIL.out _, B1⟩
  by_cases h3 : p = djB
  · subst h3
    have e1 := lit_not [60, 116, 121, 112, 101, 62] ne_dj_ty
    have e2 := lit_not [60, 115, 97, 109, 101, 62] ne_dj_sa
    have e3 := lit_is [60, 100, 105, 115, 106, 62] (rfl : djB = bs _)
    have HW : Hid (clashW g (s, djB, o) = g.flatMap (classW g s o)) := Lib.hid (by unfold clashW; rw [if_neg h1, if_neg h2, if_pos rfl])
    have C' := implClasses a len cap b m g S s o _ i1 hl OS1 hS hg hs1 ho1
    generalize hL : (g.flatMap (classW g s o)).map bs = L at C'
    have HL := Lib.hid hL
    have C := Lib.hid C'
    clear hS hg C' hL
    go_enter Try.func58, Try.ntmps58
    go_wp2_with fail
    refine C.out.mono ?_
    rintro e w5 ⟨v, rfl, O5, hb5⟩
    have B5 := B1.trans (hb5.mono B1.size)
    have O6 := Lib.hid (ownS_base O5 B1.size)
    obtain ⟨x5, y5, rfl, _⟩ := O5.is
    clear O5 hb5
    go_wp2_with fail
    go_ret
    exact ⟨_, rfl, by rw [HW.out, HL.out]; exact O6.out, B5⟩
  · have e1 := lit_not [60, 116, 121, 112, 101, 62] h1
    have e2 := lit_not [60, 115, 97, 109, 101, 62] h2
    have e3 := lit_not [60, 100, 105, 115, 106, 62] h3
    have HW : Hid ((clashW g (s, p, o)).map bs = []) := Lib.hid (by unfold clashW; rw [if_neg h1, if_neg h2, if_neg h3]; rfl)
    clear h1 h2 h3
    go_enter Try.func58, Try.ntmps58
    go_wp2_with fail
    go_ret
    exact ⟨_, rfl, by rw [HW.out]; exact HNIL.out _, B1⟩
open Go.RowKit Go.WideShapes Go.Maps
theorem IsStrs.far {w w' : World} {a : Option Addr} {len cap r : Nat} {ts : List ByteArray} (h : IsStrs w a len cap ts) (hg : w.grownBy w' (some r)) (hne : ∀ x, a = some x → x.block ≠ r) : IsStrs w' a len cap ts := by
  rcases h with h | ⟨b, off, rfl, h1, h2, h3, h4, h5⟩
  · exact .inl h
  · exact .inr ⟨b, off, rfl, Nat.lt_of_lt_of_le h1 hg.size, h2, h3, h4, fun i t hi => hg.cell (h5 i t hi) (fun e => hne _ rfl (by simpa using e))⟩
theorem clash_small {g : List Tri3} (hg : Sm g) {t : Tri3} (ht : t ∈ g) : ∀ x ∈ clashW g t, x.length ≤ 8000000 := by
  intro x hx
  have ht1 := hg t ht
  unfold clashW at hx
  split at hx
  · split at hx
    · rw [List.mem_singleton] at hx; subst hx; rw [jn2_len, show (wNo : ByteArray).size = 7 from rfl]; omega
    · cases hx
  · split at hx
    · split at hx
      · rw [List.mem_singleton] at hx; subst hx; rw [jn3_len, show (wSa : ByteArray).size = 4 from rfl]; omega
      · cases hx
    · split at hx
      · obtain ⟨u, hu, hx⟩ := List.mem_flatMap.1 hx
        have hu1 := hg u hu
        unfold classW at hx
        split at hx
        · rw [List.mem_singleton] at hx; subst hx; rw [jn4_len, show (wDj : ByteArray).size = 4 from rfl]; omega
        · cases hx
      · cases hx
set_option maxRecDepth 100000 in
set_option maxHeartbeats 3200000 in
theorem implClashesOf (a : Option Addr) (len cap : Nat) (g : List Tri3) (w : World) (h : IsTris w a len cap g) (hsm : Sm g) :
    Calls Try.prog 12 #[.slice a len cap] w fun e w' => ∃ v, e = .returned (.tuple #[v, .bool (graphOk g)]) ∧ OwnS w.heap.size w' v ((clashesT g).map bs) ∧ Below w.heap.size w w' := by
  have C' := implGraphOk a len cap g w h hsm
  have HL := Lib.hid h.len
  have HM := Lib.hid hsm
  have H := Lib.hid h
  clear h hsm
  unfold clashesT
  cases hq : graphOk g
  · rw [hq] at C'
    have C := Lib.hid C'
    clear C' hq
    go_enter Try.func12, Try.ntmps12
    go_wp2_with fail
    refine C.out.mono ?_
    rintro e w1 ⟨rfl, hb⟩
    go_wp2_with fail
    go_ret2
    exact ⟨.slice none 0 0, rfl, ⟨rfl, .inl ⟨rfl, rfl⟩⟩, hb⟩
  have hl80 : g.length ≤ 80 := graphOk_len hq
  have hlen : len ≤ 80 := by have := HL.out; omega
  have hmm := @run_makeMap Try.prog
  rw [hq] at C'
  have C := Lib.hid C'
  clear C' hq
  go_enter Try.func12, Try.ntmps12
  go_wp2_with fail
  refine C.out.mono ?_
  rintro e w1 ⟨rfl, hb1⟩
  have B2 := hb1.alloc hb1.size (.cells #[.slice a len cap] 27)
  have i2 := H.out.next B2
  have K2 := heap_alloc_new w1 (.cells #[.slice a len cap] 27)
  have hz1 := hb1.size
  clear hb1
  have TS := Lib.hid (implTripleSet w1.heap.size 1 [(a, len, cap, g)] (w1.alloc (.cells #[.slice a len cap] 27)) rfl (by simp) (by omega) (by simp [allT]; omega) (fun i x hx => by
    match i, hx with
    | 0, hx => simp at hx; subst hx; exact ⟨lit_one rfl 0 (.slice a len cap) rfl, i2⟩
    | i + 1, hx => simp at hx))
  clear K2
  go_wp2_with fail
  refine TS.out.mono ?_
  rintro e w3 ⟨tb, tm, rfl, htb, htm, OT, hb3⟩
  have B3 := B2.trans (hb3.mono B2.size)
  have hz13 : w1.heap.size ≤ tb := by simp at htb; omega
  have hS : Hid (∀ t, t ∈ addAll [] (allT [((a, len, cap, g) : Sl)]) ↔ t ∈ g) := Lib.hid (fun t => by rw [addAll_mem]; simp [allT])
  have O0 := Lib.hid (OwnSetS.made w3)
  have OT0 := OT.alloc (.map #[] 0)
  have B0 := B3.alloc B3.size (.map #[] 0)
  have hz3 := B3.size
  have hltb := OT.lt
  generalize addAll [] (allT [((a, len, cap, g) : Sl)]) = S at OT0 hS
  clear B2 i2 TS hb3 B3 OT htb
  have HT0 := Lib.hid OT0
  clear OT0
  go_wp2_with fail
  clear hmm
  go_loopw [19] (fun i wr => ∃ k n : Nat, k ≤ len ∧ i = .int .i64 k ∧ n ≤ 80 * k ∧ Hid (OwnSetS wr w3.heap.size n (addAllS [] ((g.take k).flatMap (clashW g)))) ∧ Hid (OwnSet wr tb tm S) ∧ Below w.heap.size w wr) (fun i _ => len - (intOf i).toNat)
  case atStart => exact ⟨0, 0, Nat.zero_le _, rfl, Nat.le_refl _, by simpa [addAllS] using O0, HT0, B0⟩
  case round =>
    obtain ⟨k, n, hk, rfl, hn, hown, hset, hnx⟩ := hrel
    clear O0 B0 HT0
    by_cases hlt : k < len
    · obtain ⟨b, off, rfl, hb, hl', hm, hts, hcs⟩ := H.out.cells (by omega)
      have ht : g[k]? = some (g[k]'(by omega)) := List.getElem?_eq_getElem (by omega)
      obtain ⟨d0, d1, d2, m0, m1, m2⟩ := hcs k _ ht
      have HT : Hid ((g.take (k + 1)).flatMap (clashW g) = (g.take k).flatMap (clashW g) ++ clashW g (g[k]'(by omega))) := Lib.hid (flat_take _ ht)
      have hmem := List.mem_of_getElem? ht
      have hs1 := HM.out _ hmem
      have hcl := clashW_len g (g[k]'(by omega)) hl80
      have hsmall := clash_small HM.out hmem
      rw [← hnx.cell (p := ⟨b, _, none⟩) hb] at d0 d1 d2
      generalize g[k]'(by omega) = t at ht d0 d1 d2 m0 m1 m2 HT hs1 hcl hsmall hmem
      obtain ⟨s, p, o⟩ := t
      try simp only at d0 d1 d2
      try simp only at hs1
      have hk6 : (0 : Int) ≤ (k : Int) := by omega
      have hk7 : (k : Int) < (len : Int) := by omega
      have E2 := Box.new wr (.string s) (.string p) (.string o) 46
      have B2 := hnx.alloc hnx.size (.cells #[.string s, .string p, .string o] 46)
      have hown3 := hown.out.lt
      have O2 := hown.out.alloc (.cells #[.string s, .string p, .string o] 46)
      have S2 := hset.out.alloc (.cells #[.string s, .string p, .string o] 46)
      obtain ⟨z0, z1, z2⟩ := E2.cells
      have CB' := implClashesBy (some ⟨b, off, none⟩) len cap tb tm g S s p o (wr.alloc (.cells #[.string s, .string p, .string o] 46)) (H.out.next B2) hlen S2 hS.out (fun t ht => (HM.out t ht).1) hs1.1 hs1.2.2
      obtain ⟨base, hbase⟩ : ∃ l, (g.take k).flatMap (clashW g) = l := ⟨_, rfl⟩
      rw [hbase] at HT O2
      generalize hcw : clashW g (s, p, o) = cw at CB' HT hcl hsmall
      have CB := Lib.hid CB'
      clear ht hts hcs hown hnx m0 m1 m2 hset hl' hm hmem hs1 CB' hbase hcw
      go_wp2_with fail
      refine CB.out.mono ?_
      rintro e w4 ⟨v, rfl, ov, hb4⟩
      have B4 := B2.trans (hb4.mono B2.size)
      have O4 := Lib.hid (O2.next hb4)
      have S4 := Lib.hid (S2.next hb4)
      have hvlt := fun j hj => (World.ownsRow.lt ov j hj).1
      have hw3 := hown3
      obtain ⟨va, vc, rfl, iv⟩ := ov.is
      have HVB : Hid (∀ x, va = some x → x.block ≠ w3.heap.size) := Lib.hid (fun x hx => by subst hx; have := hvlt x.block rfl; simp at this; omega)
      clear hvlt hw3 hown3
      rw [List.length_map] at iv ⊢
      obtain ⟨cl, hcwl⟩ : ∃ l, cw.length = l := ⟨_, rfl⟩
      rw [hcwl] at iv hcl ⊢
      have HCL := Lib.hid hcwl
      have HIV := Lib.hid iv
      have HSM := Lib.hid hsmall
      clear hb4 B2 O2 S2 E2 z0 z1 z2 d0 d1 d2 CB ov iv hcwl hsmall
      go_wp2_with fail
      go_loopw [28] (fun i w5 => ∃ j m : Nat, j ≤ cl ∧ i = .int .i64 j ∧ m ≤ n + j ∧ Hid (OwnSetS w5 w3.heap.size m (addAllS [] (base ++ cw.take j))) ∧ Hid (OwnSet w5 tb tm S) ∧ Hid (IsStrs w5 va cl vc (cw.map bs)) ∧ Below w.heap.size w w5) (fun i _ => cl - (intOf i).toNat)
      case atStart => exact ⟨0, n, by omega, rfl, by omega, by simpa using O4, S4, HIV, B4⟩
      case round =>
        obtain ⟨j, m, hj, rfl, hm, hown, hset, hiv, hnx⟩ := hrel
        clear O4 B4 S4 HIV
        by_cases hlj : j < cl
        · obtain ⟨vb, vo, rfl, hvb, _, _, hvl, hvc⟩ := hiv.out.cells (by omega)
          have hx : (cw.map bs)[j]? = some ((cw.map bs)[j]'(by rw [List.length_map, HCL.out]; exact hlj)) := List.getElem?_eq_getElem _
          have hx2 : cw[j]? = some (cw[j]'(by rw [HCL.out]; exact hlj)) := List.getElem?_eq_getElem _
          have hxs := HSM.out _ (List.mem_of_getElem? hx2)
          have c0 := hvc j _ hx
          rw [List.getElem_map] at c0
          have HT1 : Hid (cw.take (j + 1) = cw.take j ++ [cw[j]'(by rw [HCL.out]; exact hlj)]) := Lib.hid (List.take_succ_eq_append_getElem (by rw [HCL.out]; exact hlj))
          generalize cw[j]'(by rw [HCL.out]; exact hlj) = x at c0 HT1 hxs
          have hxm : (bs x).size ≤ maxLen := by rw [bs_size]; unfold maxLen; omega
          have hj6 : (0 : Int) ≤ (j : Int) := by omega
          have hj7 : (j : Int) < (cl : Int) := by omega
          have hml : m < maxLen := by unfold maxLen; omega
          generalize hX : bs x = X at c0 hxm
          have HX : Hid (X.data.toList = x) := Lib.hid (by rw [← hX]; rfl)
          clear hx hx2 hvc hxs hX hvl
          go_wp2_with (at_mapUpdate; refine wpList_putS _ rfl _ _ _ rfl w3.heap.size m (addAllS [] (base ++ cw.take j)) rfl hown.out hml X hxm rfl rfl ?_)
          intro w6 hown6 hg6
          have B6 : Below w.heap.size w w6 := hnx.grown hg6 hnx.size (fun r e => by cases e; exact hz3)
          have S6 := Lib.hid (hset.out.kept hg6 (by simp; omega))
          have HN : Hid (OwnSetS w6 w3.heap.size (m + 1) (addAllS [] (base ++ cw.take (j + 1)))) := Lib.hid (by rw [HT1.out, ← List.append_assoc, addAllS_snoc, ← HX.out]; exact hown6)
          have I6 := Lib.hid (hiv.out.far hg6 HVB.out)
          clear hown6 hg6 hown hset hiv HT1 HX hnx
          go_wp2_with fail
          go_roundw
          case rel => exact ⟨j + 1, m + 1, by omega, by go_num, by omega, HN, S6, I6, B6⟩
          case measure => simp [intOf]; omega
        · obtain rfl : j = cl := by omega
          have HN : Hid (OwnSetS wr w3.heap.size m (addAllS [] ((g.take (k + 1)).flatMap (clashW g)))) := Lib.hid (by
            have := hown.out
            rw [List.take_of_length_le (by rw [HCL.out]; exact Nat.le_refl _)] at this
            rw [HT.out]; exact this)
          clear hown hiv
          go_wp2_with fail
          go_roundw
          case rel => exact ⟨k + 1, m, by omega, by go_num, by omega, HN, hset, hnx⟩
          case measure => simp [intOf]; omega
    · obtain rfl : k = len := by omega
      have HN : Hid (OwnSetS wr w3.heap.size n (addAllS [] (g.flatMap (clashW g)))) := Lib.hid (by
        have := hown.out
        rwa [List.take_of_length_le (by rw [HL.out]; exact Nat.le_refl _)] at this)
      have hlw := clashes_len g hl80 g
      have hla := addAllS_len (g.flatMap (clashW g)) []
      have SK := Lib.hid (sortedTxt w3.heap.size n (addAllS [] (g.flatMap (clashW g))) wr HN.out (by simp only [List.length_nil] at hla; omega))
      clear hown hla hlw hset
      go_wp2_with fail
      refine (keysTxt _ _).mono ?_
      rintro e w6 ⟨rfl, rfl⟩
      go_wp2_with fail
      refine SK.out.mono ?_
      rintro e w7 ⟨v, rfl, o7, hb7⟩
      rw [sorted_words] at o7
      have B7 := hnx.trans (hb7.mono hnx.size)
      have O7 := Lib.hid (ownS_base o7 hnx.size)
      obtain ⟨va, vc, rfl, _⟩ := o7.is
      clear o7 hb7 SK
      go_wp2_with fail
      go_ret2
      exact ⟨_, rfl, by simpa using O7.out, B7⟩
end Go.Proofs.Yteejpceliodcfaa
