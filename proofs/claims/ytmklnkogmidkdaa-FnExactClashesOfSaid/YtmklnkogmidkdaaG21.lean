/- What clashes: the program's way. -/
import Derived.Test.YtmklnkogmidkdaaG20
import Derived.Test.YtmklnkogmidkdaaG08
import Derived.Test.YtmklnkogmidkdaaG16
import Derived.Laws.Concat
import Derived.StillTailTactics
import Derived.Deep.QuietTactic
import Derived.BigQuiet
namespace Go.Proofs.Ytmklnkogmidkdaa
open Go.RowKit Go.WideShapes Go.Maps
theorem zeroBo (w : World) : (zeroValue 4).run Try.prog w = .ok (.bool false) w := by kernel_rfl
theorem look_run {w : World} {b n : Nat} {ts : List Tri3} (h : OwnSet w b n ts) {t : Tri3} (ht : SmK t) : (Instr.lookup 59 (.map (some b)) (strT t) false).run Try.prog w = .ok (.bool (decide (t ∈ ts))) w := by
  obtain ⟨D, hown, hD⟩ := h
  obtain ⟨f0, f1, f2, S⟩ := keyTri
  obtain ⟨v, ps, hrun, hv⟩ := hown.lookup lawTri Try.underlying59 (zeroBo w) (plainElem_bool Try.underlying4 false) (S.of ht)
  rw [hD.look S lawTri ht] at hv
  obtain ⟨y, rfl, e⟩ := bool_elem_inv Try.underlying4 hv
  simp only [DataW.lit.injEq, Lit.bool.injEq] at e
  subst e
  exact hrun
theorem ty_max : tyB.size ≤ maxLen := by decide
theorem di_max : diB.size ≤ maxLen := by decide
theorem ne_ty_sa : tyB ≠ bs [60, 115, 97, 109, 101, 62] := by decide
theorem ne_ty_dj : tyB ≠ bs [60, 100, 105, 115, 106, 62] := by decide
theorem ne_sa_ty : saB ≠ bs [60, 116, 121, 112, 101, 62] := by decide
theorem ne_sa_dj : saB ≠ bs [60, 100, 105, 115, 106, 62] := by decide
theorem ne_dj_ty : djB ≠ bs [60, 116, 121, 112, 101, 62] := by decide
theorem ne_dj_sa : djB ≠ bs [60, 115, 97, 109, 101, 62] := by decide
theorem lit_cells {w : World} {xs : List ByteArray} {cs : Array Value} {e g : Nat} (hcs : cs.toList = xs.map strV) (hg : g = w.heap.size) : ∀ (j : Nat) (x : ByteArray), xs[j]? = some x → (w.alloc (.cells cs e)).cell? ⟨g, 0 + j, none⟩ = some (.string x) := by
  subst hg
  intro j x hj
  have h1 : cs[j]? = some (.string x) := by rw [← Array.getElem?_toList, hcs, List.getElem?_map, hj]; rfl
  have hb : (w.alloc (.cells cs e)).heap[w.heap.size]? = some (.cells cs e (0, 0)) := heap_alloc_new w _
  rw [Nat.zero_add]
  simp only [World.cell?, hb, h1]
  rfl
theorem lit_one {w : World} {x : Value} {e g : Nat} (hg : g = w.heap.size) : ∀ (j : Nat) (u : Value), [x][j]? = some u → (w.alloc (.cells #[x] e)).cell? ((⟨g, 0, none⟩ : Addr).add j) = some u := by
  subst hg
  intro j u hj
  rw [add_plain, Nat.zero_add]
  match j, hj with
  | 0, hj =>
    have hb : (w.alloc (.cells #[x] e)).heap[w.heap.size]? = some (.cells #[x] e (0, 0)) := heap_alloc_new w _
    simp at hj; subst hj; simp only [World.cell?, hb]; rfl
  | j + 1, hj => simp at hj
theorem str_one (s : ByteArray) : ∀ u ∈ [Value.string s], u.oneCell' = true := by
  intro u hu
  simp only [List.mem_cons, List.not_mem_nil, or_false] at hu
  rw [hu]; rfl
set_option maxRecDepth 100000 in
set_option maxHeartbeats 3200000 in
theorem implClasses (a : Option Addr) (len cap b m : Nat) (g S : List Tri3) (c d : ByteArray) (w : World) (h : IsTris w a len cap g) (hl : len ≤ 80) (hs : OwnSet w b m S) (hS : ∀ t, t ∈ S ↔ t ∈ g) (hg : ∀ t ∈ g, t.1.size ≤ 2097152) (hc : c.size ≤ 2097152) (hd : d.size ≤ 2097152) :
    Calls Try.prog 73 #[.slice a len cap, .map (some b), .string c, .string d] w fun e w' => ∃ v, e = .returned v ∧ OwnS w.heap.size w' v ((g.flatMap (classW g c d)).map bs) ∧ Below w.heap.size w w' := by
  obtain ⟨i0, hi, hz0, hz1, hz2⟩ := info_parts infoStr
  have H := Lib.hid h
  have HS := Lib.hid hs
  have HE := Lib.hid hS
  have HG := Lib.hid hg
  have HLEN := Lib.hid h.len
  have HBM := Lib.hid hs.lt
  clear h hs hS hg
  have O0 : OwnS w.heap.size w (.slice none 0 0) ((([] : List Tri3).flatMap (classW g c d)).map bs) := ⟨rfl, .inl ⟨rfl, rfl⟩⟩
  have HO := Lib.hid O0
  clear O0
  go_enter Try.func73, Try.ntmps73
  go_wp2_with fail
  go_loopw [9, 14] (fun o i wr => ∃ k : Nat, k ≤ len ∧ i = .int .i64 k ∧ (∃ x n y, o = .slice x n y ∧ n ≤ k ∧ Hid (OwnS w.heap.size wr o (((g.take k).flatMap (classW g c d)).map bs) ∧ (((g.take k).flatMap (classW g c d)).map bs).length = n)) ∧ Below w.heap.size w wr) (fun _ i _ => len - (intOf i).toNat)
  case atStart => exact ⟨0, Nat.zero_le _, rfl, ⟨_, _, _, rfl, Nat.le_refl _, Lib.hid ⟨by rw [List.take_zero]; exact HO.out, by simp⟩⟩, Below.refl _ _⟩
  case round =>
    obtain ⟨k, hk, rfl, ⟨x, n, y, rfl, hn, HQ⟩, hnx⟩ := hrel
    clear HO
    have hk6 : (0 : Int) ≤ (k : Int) := by omega
    by_cases hlt : k < len
    · have hk7 : (k : Int) < (len : Int) := by omega
      obtain ⟨bb, off, rfl, hb, hl', hm, hts, hcs⟩ := H.out.cells (by omega)
      have ht : g[k]? = some (g[k]'(by omega)) := List.getElem?_eq_getElem (by omega)
      obtain ⟨d0, d1, d2, m0, m1, m2⟩ := hcs k _ ht
      rw [← hnx.cell (p := ⟨bb, _, none⟩) hb] at d0 d1 d2
      have HT : Hid ((g.take (k + 1)).flatMap (classW g c d) = (g.take k).flatMap (classW g c d) ++ classW g c d (g[k]'(by omega))) := Lib.hid (flat_take _ ht)
      have hs1 := HG.out _ (List.mem_of_getElem? ht)
      generalize g[k]'(by omega) = t at ht d0 d1 d2 m0 m1 m2 HT hs1
      obtain ⟨s, p, o⟩ := t
      try simp only at d0 d1 d2
      try simp only at m0 m1 m2
      try simp only at hs1
      have T0 := Box.new wr (.string s) (.string p) (.string o) 26
      have B1 := hnx.alloc hnx.size (.cells #[.string s, .string p, .string o] 26)
      have OS1 := (HS.out.next hnx).alloc (.cells #[.string s, .string p, .string o] 26)
      have O1 := Lib.hid (And.intro (World.ownsRow.alloc HQ.out.1 (.cells #[.string s, .string p, .string o] 26)) HQ.out.2)
      have hsz := hnx.size
      obtain ⟨c0, c1, c2⟩ := T0.cells
      clear HQ hnx ht hts hcs hm hl'
      have STAY : classW g c d (s, p, o) = [] → Hid (OwnS w.heap.size (wr.alloc (.cells #[.string s, .string p, .string o] 26)) (.slice x n y) (((g.take (k + 1)).flatMap (classW g c d)).map bs) ∧ (((g.take (k + 1)).flatMap (classW g c d)).map bs).length = n) := fun hc => Lib.hid (by
        rw [HT.out, hc, List.append_nil]
        exact O1.out)
      by_cases h1 : p = tyB
      rotate_left
      · have e1 := lit_not [60, 116, 121, 112, 101, 62] h1
        have HO2 := STAY (by unfold classW; rw [if_neg (fun h => h1 h.1)])
        clear STAY T0 h1 OS1 O1 m0 m1 m2
        go_wp2_with fail
        go_roundw
        case rel => exact ⟨k + 1, by omega, by go_num, ⟨x, n, y, rfl, by omega, HO2⟩, B1⟩
        case measure => simp [intOf]; omega
      by_cases h2 : o = c
      rotate_left
      · have e1 := lit_is [60, 116, 121, 112, 101, 62] h1
        have e2 := bl_not h2
        have HO2 := STAY (by unfold classW; rw [if_neg (fun h => h2 h.2.1)])
        clear STAY T0 h1 h2 OS1 O1 m0 m1 m2
        go_wp2_with fail
        go_roundw
        case rel => exact ⟨k + 1, by omega, by go_num, ⟨x, n, y, rfl, by omega, HO2⟩, B1⟩
        case measure => simp [intOf]; omega
      have e1 := lit_is [60, 116, 121, 112, 101, 62] h1
      have e2 := bl_is h2
      have hsk : SmK (s, tyB, d) := ⟨m0, ty_max, by unfold maxLen; simp only; omega⟩
      have LK := look_run OS1 hsk
      unfold strT at LK
      simp only at LK
      by_cases h3 : (s, tyB, d) ∈ g
      rotate_left
      · rw [decide_eq_false (fun h => h3 ((HE.out _).1 h))] at LK
        have HO2 := STAY (by unfold classW; rw [if_neg (fun h => h3 h.2.2)])
        clear STAY T0 h3 OS1 O1 m0 m1 m2
        subst h1 h2
        go_wp2_with fail
        go_roundw
        case rel => exact ⟨k + 1, by omega, by go_num, ⟨x, n, y, rfl, by omega, HO2⟩, B1⟩
        case measure => simp [intOf]; omega
      · rw [decide_eq_true ((HE.out _).2 h3)] at LK
        have HW : Hid (classW g c d (s, p, o) = [jnW [wDj, s, c, d]]) := Lib.hid (by unfold classW; rw [if_pos ⟨h1, h2, h3⟩])
        clear STAY h3 OS1 m0 m1 m2
        subst h1 h2
        go_wp2_with fail
        refine (implClashText _ 4 [wDj, s, o, d] _ rfl (lit_cells rfl (by simp)) (by simp) (by omega) (by rw [jn4_len, show (wDj : ByteArray).size = 4 from rfl]; omega)).mono ?_
        rintro e w5 ⟨rfl, hb5⟩
        have BL := B1.alloc B1.size (.cells #[.string wDj, .string s, .string o, .string d] 9)
        have OL := (World.ownsRow.alloc O1.out.1 (.cells #[.string wDj, .string s, .string o, .string d] 9))
        have B5 := BL.trans (hb5.mono BL.size)
        have O5 := OwnS.kept OL hb5
        clear BL OL hb5
        generalize hX : bs (jnW [wDj, s, o, d]) = X
        have B6 := B5.alloc B5.size (.cells #[.string X] 9)
        have O6 := World.ownsRow.alloc O5 (.cells #[.string X] 9)
        unfold OwnS at O6
        rw [O1.out.2] at O6
        have HO6 := Lib.hid O6
        have HX := Lib.hid hX
        clear O5 O6 B5 B1 hX
        go_wp2_with (at_builtin; refine wpList_append_own _ rfl _ _ 46 rfl w.heap.size 9 i0 (.string ⟨#[]⟩) 1 16 Try.underlying46 hi hz0 hz1 hz2 rfl (by decide) _ _ _ rfl HO6.out ⟨w5.heap.size, 0, none⟩ 1 1 [.string X] rfl rfl (lit_one rfl) (str_one X) ?qc4 ?qc5 ?qc6 ?_)
        case qc4 => unfold maxLen; omega
        case qc5 => omega
        case qc6 => exact B6.size
        intro v' w7 hown hgrow _
        have B7 := B6.grown hgrow B6.size (fun j hj => (World.ownsRow.lt O1.out.1 j hj).1)
        have O7 : OwnS w.heap.size w7 v' (((g.take (k + 1)).flatMap (classW g o d)).map bs) := by
          rw [HT.out, HW.out, List.map_append, List.map_singleton, HX.out]
          exact ownS_snoc (by rw [O1.out.2, List.map_map]; exact hown)
        obtain ⟨x7, y7, rfl, _⟩ := O7.is
        have hl7 : (((g.take (k + 1)).flatMap (classW g o d)).map bs).length = n + 1 := by
          rw [HT.out, HW.out, List.map_append, List.length_append, O1.out.2]; rfl
        rw [hl7] at O7 ⊢
        have H7 := Lib.hid (And.intro O7 hl7)
        clear hown hgrow O7 B6 hl7
        go_wp2_with fail
        go_roundw
        case rel => exact ⟨k + 1, by omega, by go_num, ⟨x7, n + 1, y7, rfl, by omega, H7⟩, B7⟩
        case measure => simp [intOf]; omega
    · obtain rfl : k = len := by omega
      have hkl : g.take k = g := List.take_of_length_le (by rw [HLEN.out]; exact Nat.le_refl _)
      have HO2 : Hid (OwnS w.heap.size wr (.slice x n y) ((g.flatMap (classW g c d)).map bs)) := Lib.hid (by have := HQ.out.1; rw [hkl] at this; exact this)
      clear HQ hkl
      go_wp2_with fail
      go_ret
      exact ⟨_, rfl, HO2.out, hnx⟩
set_option maxRecDepth 100000 in
set_option maxHeartbeats 3200000 in
theorem implClashesBy (a : Option Addr) (len cap b m : Nat) (g S : List Tri3) (s p o : ByteArray) (w : World) (h : IsTris w a len cap g) (hl : len ≤ 80) (hs : OwnSet w b m S) (hS : ∀ t, t ∈ S ↔ t ∈ g) (hg : ∀ t ∈ g, t.1.size ≤ 2097152) (hs1 : s.size ≤ 2097152) (ho1 : o.size ≤ 2097152) :
    Calls Try.prog 60 #[.slice a len cap, .map (some b), .agg #[.string s, .string p, .string o]] w fun e w' => ∃ v, e = .returned v ∧ OwnS w.heap.size w' v ((clashW g (s, p, o)).map bs) ∧ Below w.heap.size w w' := by
  have T0 := Box.new w (.string s) (.string p) (.string o) 26
  have B1 := (Below.refl w.heap.size w).alloc (Nat.le_refl _) (.cells #[.string s, .string p, .string o] 26)
  have OS1 := hs.alloc (.cells #[.string s, .string p, .string o] 26)
  have i1 := h.next B1
  obtain ⟨c0, c1, c2⟩ := T0.cells
  have NIL : ∀ W, OwnS w.heap.size W (.slice none 0 0) (([] : List Txt).map bs) := fun W => ⟨rfl, .inl ⟨rfl, rfl⟩⟩
  have ONE : ∀ (W : World) (X : ByteArray), w.heap.size ≤ W.heap.size → OwnS w.heap.size (W.alloc (.cells #[.string X] 9)) (.slice (some ⟨W.heap.size, 0, none⟩) 1 1) [X] := fun W X hW => World.ownsRow_lit (size := 1) (e := 9) W #[.string X] 1 hW (by unfold maxLen; omega) rfl
  have HNIL := Lib.hid NIL
  have HONE := Lib.hid ONE
  clear NIL ONE hs h
  by_cases h1 : p = tyB
  · subst h1
    have e1 := lit_is [60, 116, 121, 112, 101, 62] (rfl : tyB = bs _)
    by_cases h2 : o = noB
    · subst h2
      have HW : Hid ((clashW g (s, tyB, noB)).map bs = [bs (jnW [wNo, s])]) := Lib.hid (by unfold clashW; rw [if_pos rfl, if_pos rfl]; rfl)
      have e2 := lit_is [60, 110, 111, 116, 104, 105, 110, 103, 62] (rfl : noB = bs _)
      go_enter Try.func60, Try.ntmps60
      go_wp2_with fail
      refine (implClashText _ 2 [wNo, s] _ rfl (lit_cells rfl (by simp)) (by simp) (by omega) (by rw [jn2_len, show (wNo : ByteArray).size = 7 from rfl]; omega)).mono ?_
      rintro e w5 ⟨rfl, hb5⟩
      have B5 := (B1.alloc B1.size (.cells #[.string wNo, .string s] 9)).trans (hb5.mono (B1.alloc B1.size (.cells #[.string wNo, .string s] 9)).size)
      have HO := Lib.hid (HONE.out w5 (bs (jnW [wNo, s])) B5.size)
      have B6 := B5.alloc B5.size (.cells #[.string (bs (jnW [wNo, s]))] 9)
      generalize bs (jnW [wNo, s]) = X at HO B6 HW ⊢
      clear B5 hb5
      go_wp2_with fail
      go_ret
      exact ⟨_, rfl, by rw [HW.out]; exact HO.out, B6⟩
    · have HW : Hid ((clashW g (s, tyB, o)).map bs = []) := Lib.hid (by unfold clashW; rw [if_pos rfl, if_neg h2]; rfl)
      have e2 := lit_not [60, 110, 111, 116, 104, 105, 110, 103, 62] h2
      have e3 := lit_not [60, 115, 97, 109, 101, 62] ne_ty_sa
      have e4 := lit_not [60, 100, 105, 115, 106, 62] ne_ty_dj
      go_enter Try.func60, Try.ntmps60
      go_wp2_with fail
      go_ret
      exact ⟨_, rfl, by rw [HW.out]; exact HNIL.out _, B1⟩
  by_cases h2 : p = saB
  · subst h2
    have e1 := lit_not [60, 116, 121, 112, 101, 62] ne_sa_ty
    have e2 := lit_is [60, 115, 97, 109, 101, 62] (rfl : saB = bs _)
    have hsk : SmK (s, diB, o) := ⟨by unfold maxLen; simp only; omega, di_max, by unfold maxLen; simp only; omega⟩
    have LK := look_run OS1 hsk
    unfold strT at LK
    simp only at LK
    by_cases h3 : (s, diB, o) ∈ g
    · rw [decide_eq_true ((hS _).2 h3)] at LK
      have HW : Hid ((clashW g (s, saB, o)).map bs = [bs (jnW [wSa, s, o])]) := Lib.hid (by unfold clashW; rw [if_neg h1, if_pos rfl, if_pos h3]; rfl)
      clear h3
      go_enter Try.func60, Try.ntmps60
      go_wp2_with fail
      refine (implClashText _ 3 [wSa, s, o] _ rfl (lit_cells rfl (by simp)) (by simp) (by omega) (by rw [jn3_len, show (wSa : ByteArray).size = 4 from rfl]; omega)).mono ?_
      rintro e w5 ⟨rfl, hb5⟩
      have B5 := (B1.alloc B1.size (.cells #[.string wSa, .string s, .string o] 9)).trans (hb5.mono (B1.alloc B1.size (.cells #[.string wSa, .string s, .string o] 9)).size)
      have HO := Lib.hid (HONE.out w5 (bs (jnW [wSa, s, o])) B5.size)
      have B6 := B5.alloc B5.size (.cells #[.string (bs (jnW [wSa, s, o]))] 9)
      generalize bs (jnW [wSa, s, o]) = X at HO B6 HW ⊢
      clear B5 hb5
      go_wp2_with fail
      go_ret
      exact ⟨_, rfl, by rw [HW.out]; exact HO.out, B6⟩
    · rw [decide_eq_false (fun h => h3 ((hS _).1 h))] at LK
      have HW : Hid ((clashW g (s, saB, o)).map bs = []) := Lib.hid (by unfold clashW; rw [if_neg h1, if_pos rfl, if_neg h3]; rfl)
      have e4 := lit_not [60, 100, 105, 115, 106, 62] ne_sa_dj
      clear h3
      go_enter Try.func60, Try.ntmps60
      go_wp2_with fail
      go_ret
      exact ⟨_, rfl, by rw [HW.out]; exact HNIL.out _, B1⟩
  by_cases h3 : p = djB
  · subst h3
    have e1 := lit_not [60, 116, 121, 112, 101, 62] ne_dj_ty
    have e2 := lit_not [60, 115, 97, 109, 101, 62] ne_dj_sa
    have e3 := lit_is [60, 100, 105, 115, 106, 62] (rfl : djB = bs _)
    have HW : Hid (clashW g (s, djB, o) = g.flatMap (classW g s o)) := Lib.hid (by unfold clashW; rw [if_neg h1, if_neg h2, if_pos rfl])
    have C' := implClasses a len cap b m g S s o _ i1 hl OS1 hS hg hs1 ho1
    generalize hL : (g.flatMap (classW g s o)).map bs = L at C'
    have HL := Lib.hid hL
    have C := Lib.hid C'
    clear hS hg C' hL
    go_enter Try.func60, Try.ntmps60
    go_wp2_with fail
    refine C.out.mono ?_
    rintro e w5 ⟨v, rfl, O5, hb5⟩
    have B5 := B1.trans (hb5.mono B1.size)
    have O6 := Lib.hid (ownS_base O5 B1.size)
    obtain ⟨x5, y5, rfl, _⟩ := O5.is
    clear O5 hb5
    go_wp2_with fail
    go_ret
    exact ⟨_, rfl, by rw [HW.out, HL.out]; exact O6.out, B5⟩
  · have e1 := lit_not [60, 116, 121, 112, 101, 62] h1
    have e2 := lit_not [60, 115, 97, 109, 101, 62] h2
    have e3 := lit_not [60, 100, 105, 115, 106, 62] h3
    have HW : Hid ((clashW g (s, p, o)).map bs = []) := Lib.hid (by unfold clashW; rw [if_neg h1, if_neg h2, if_neg h3]; rfl)
    clear h1 h2 h3
    go_enter Try.func60, Try.ntmps60
    go_wp2_with fail
    go_ret
    exact ⟨_, rfl, by rw [HW.out]; exact HNIL.out _, B1⟩
open Go.RowKit Go.WideShapes Go.Maps
theorem IsStrs.far {w w' : World} {a : Option Addr} {len cap r : Nat} {ts : List ByteArray} (h : IsStrs w a len cap ts) (hg : w.grownBy w' (some r)) (hne : ∀ x, a = some x → x.block ≠ r) : IsStrs w' a len cap ts := by
  rcases h with h | ⟨x, rfl, h2, h3, h4, h5⟩
  · exact .inl h
  · exact .inr ⟨x, rfl, h2, h3, h4, fun i t hi => hg.cell (h5 i t hi) (by
      rw [show (x.add i).block = x.block from by unfold Addr.add; split <;> rfl]
      exact fun e => hne x rfl (by simpa using e))⟩
theorem clash_small {g : List Tri3} (hg : Sm g) {t : Tri3} (ht : t ∈ g) : ∀ x ∈ clashW g t, x.length ≤ 8000000 := by
  intro x hx
  have ht1 := hg t ht
  unfold clashW at hx
  split at hx
  · split at hx
    · rw [List.mem_singleton] at hx; subst hx; rw [jn2_len, show (wNo : ByteArray).size = 7 from rfl]; omega
    · cases hx
  · split at hx
    · split at hx
      · rw [List.mem_singleton] at hx; subst hx; rw [jn3_len, show (wSa : ByteArray).size = 4 from rfl]; omega
      · cases hx
    · split at hx
      · obtain ⟨u, hu, hx⟩ := List.mem_flatMap.1 hx
        have hu1 := hg u hu
        unfold classW at hx
        split at hx
        · rw [List.mem_singleton] at hx; subst hx; rw [jn4_len, show (wDj : ByteArray).size = 4 from rfl]; omega
        · cases hx
      · cases hx
set_option maxRecDepth 100000 in
set_option maxHeartbeats 3200000 in
theorem implClashesOf (a : Option Addr) (len cap : Nat) (g : List Tri3) (w : World) (h : IsTris w a len cap g) (hsm : Sm g) :
    Calls Try.prog 35 #[.slice a len cap] w fun e w' => ∃ v, e = .returned (.tuple #[v, .bool (graphOk g)]) ∧ OwnS w.heap.size w' v ((clashesT g).map bs) ∧ Below w.heap.size w w' := by
  have C' := implGraphOk a len cap g w h hsm
  have HL := Lib.hid h.len
  have HM := Lib.hid hsm
  have H := Lib.hid h
  clear h hsm
  unfold clashesT
  cases hq : graphOk g
  · rw [hq] at C'
    have C := Lib.hid C'
    clear C' hq
    go_enter Try.func35, Try.ntmps35
    go_wp2_with fail
    refine C.out.mono ?_
    rintro e w1 ⟨rfl, hb⟩
    go_wp2_with fail
    go_ret2
    exact ⟨.slice none 0 0, rfl, ⟨rfl, .inl ⟨rfl, rfl⟩⟩, hb⟩
  have hl80 : g.length ≤ 80 := graphOk_len hq
  have hlen : len ≤ 80 := by have := HL.out; omega
  have hmm := @run_makeMap Try.prog
  rw [hq] at C'
  have C := Lib.hid C'
  clear C' hq
  go_enter Try.func35, Try.ntmps35
  go_wp2_with fail
  refine C.out.mono ?_
  rintro e w1 ⟨rfl, hb1⟩
  have B2 := hb1.alloc hb1.size (.cells #[.slice a len cap] 24)
  have i2 := H.out.next B2
  have K2 := heap_alloc_new w1 (.cells #[.slice a len cap] 24)
  have hz1 := hb1.size
  clear hb1
  have TS := Lib.hid (implTripleSet w1.heap.size 1 [(a, len, cap, g)] (w1.alloc (.cells #[.slice a len cap] 24)) rfl (by simp) (by omega) (by simp [allT]; omega) (fun i x hx => by
    match i, hx with
    | 0, hx => simp at hx; subst hx; exact ⟨lit_one rfl 0 (.slice a len cap) rfl, i2⟩
    | i + 1, hx => simp at hx))
  clear K2
  go_wp2_with fail
  refine TS.out.mono ?_
  rintro e w3 ⟨tb, tm, rfl, htb, htm, OT, hb3⟩
  have B3 := B2.trans (hb3.mono B2.size)
  have hz13 : w1.heap.size ≤ tb := by simp at htb; omega
  have hS : Hid (∀ t, t ∈ addAll [] (allT [((a, len, cap, g) : Sl)]) ↔ t ∈ g) := Lib.hid (fun t => by rw [addAll_mem]; simp [allT])
  have O0 := Lib.hid (OwnSetS.made w3)
  have OT0 := OT.alloc (.map #[] 0)
  have B0 := B3.alloc B3.size (.map #[] 0)
  have hz3 := B3.size
  have hltb := OT.lt
  generalize addAll [] (allT [((a, len, cap, g) : Sl)]) = S at OT0 hS
  clear B2 i2 TS hb3 B3 OT htb
  have HT0 := Lib.hid OT0
  clear OT0
  go_wp2_with fail
  clear hmm
  go_loopw [19] (fun i wr => ∃ k n : Nat, k ≤ len ∧ i = .int .i64 k ∧ n ≤ 80 * k ∧ Hid (OwnSetS wr w3.heap.size n (addAllS [] ((g.take k).flatMap (clashW g)))) ∧ Hid (OwnSet wr tb tm S) ∧ Below w.heap.size w wr) (fun i _ => len - (intOf i).toNat)
  case atStart => exact ⟨0, 0, Nat.zero_le _, rfl, Nat.le_refl _, by simpa [addAllS] using O0, HT0, B0⟩
  case round =>
    obtain ⟨k, n, hk, rfl, hn, hown, hset, hnx⟩ := hrel
    clear O0 B0 HT0
    by_cases hlt : k < len
    · obtain ⟨b, off, rfl, hb, hl', hm, hts, hcs⟩ := H.out.cells (by omega)
      have ht : g[k]? = some (g[k]'(by omega)) := List.getElem?_eq_getElem (by omega)
      obtain ⟨d0, d1, d2, m0, m1, m2⟩ := hcs k _ ht
      have HT : Hid ((g.take (k + 1)).flatMap (clashW g) = (g.take k).flatMap (clashW g) ++ clashW g (g[k]'(by omega))) := Lib.hid (flat_take _ ht)
      have hmem := List.mem_of_getElem? ht
      have hs1 := HM.out _ hmem
      have hcl := clashW_len g (g[k]'(by omega)) hl80
      have hsmall := clash_small HM.out hmem
      rw [← hnx.cell (p := ⟨b, _, none⟩) hb] at d0 d1 d2
      generalize g[k]'(by omega) = t at ht d0 d1 d2 m0 m1 m2 HT hs1 hcl hsmall hmem
      obtain ⟨s, p, o⟩ := t
      try simp only at d0 d1 d2
      try simp only at hs1
      have hk6 : (0 : Int) ≤ (k : Int) := by omega
      have hk7 : (k : Int) < (len : Int) := by omega
      have E2 := Box.new wr (.string s) (.string p) (.string o) 26
      have B2 := hnx.alloc hnx.size (.cells #[.string s, .string p, .string o] 26)
      have hown3 := hown.out.lt
      have O2 := hown.out.alloc (.cells #[.string s, .string p, .string o] 26)
      have S2 := hset.out.alloc (.cells #[.string s, .string p, .string o] 26)
      obtain ⟨z0, z1, z2⟩ := E2.cells
      have CB' := implClashesBy (some ⟨b, off, none⟩) len cap tb tm g S s p o (wr.alloc (.cells #[.string s, .string p, .string o] 26)) (H.out.next B2) hlen S2 hS.out (fun t ht => (HM.out t ht).1) hs1.1 hs1.2.2
      obtain ⟨base, hbase⟩ : ∃ l, (g.take k).flatMap (clashW g) = l := ⟨_, rfl⟩
      rw [hbase] at HT O2
      generalize hcw : clashW g (s, p, o) = cw at CB' HT hcl hsmall
      have CB := Lib.hid CB'
      clear ht hts hcs hown hnx m0 m1 m2 hset hl' hm hmem hs1 CB' hbase hcw
      go_wp2_with fail
      refine CB.out.mono ?_
      rintro e w4 ⟨v, rfl, ov, hb4⟩
      have B4 := B2.trans (hb4.mono B2.size)
      have O4 := Lib.hid (O2.next hb4)
      have S4 := Lib.hid (S2.next hb4)
      have hvlt := fun j hj => (World.ownsRow.lt ov j hj).1
      have hw3 := hown3
      obtain ⟨va, vc, rfl, iv⟩ := ov.is
      have HVB : Hid (∀ x, va = some x → x.block ≠ w3.heap.size) := Lib.hid (fun x hx => by subst hx; have := hvlt x.block rfl; simp at this; omega)
      clear hvlt hw3 hown3
      rw [List.length_map] at iv ⊢
      obtain ⟨cl, hcwl⟩ : ∃ l, cw.length = l := ⟨_, rfl⟩
      rw [hcwl] at iv hcl ⊢
      have HCL := Lib.hid hcwl
      have HIV := Lib.hid iv
      have HSM := Lib.hid hsmall
      clear hb4 B2 O2 S2 E2 z0 z1 z2 d0 d1 d2 CB ov iv hcwl hsmall
      go_wp2_with fail
      go_loopw [28] (fun i w5 => ∃ j m : Nat, j ≤ cl ∧ i = .int .i64 j ∧ m ≤ n + j ∧ Hid (OwnSetS w5 w3.heap.size m (addAllS [] (base ++ cw.take j))) ∧ Hid (OwnSet w5 tb tm S) ∧ Hid (IsStrs w5 va cl vc (cw.map bs)) ∧ Below w.heap.size w w5) (fun i _ => cl - (intOf i).toNat)
      case atStart => exact ⟨0, n, by omega, rfl, by omega, by simpa using O4, S4, HIV, B4⟩
      case round =>
        obtain ⟨j, m, hj, rfl, hm, hown, hset, hiv, hnx⟩ := hrel
        clear O4 B4 S4 HIV
        by_cases hlj : j < cl
        · obtain ⟨vb, vo, rfl, hvb, _, _, hvl, hvc⟩ := hiv.out.cells (by omega)
          have hx : (cw.map bs)[j]? = some ((cw.map bs)[j]'(by rw [List.length_map, HCL.out]; exact hlj)) := List.getElem?_eq_getElem _
          have hx2 : cw[j]? = some (cw[j]'(by rw [HCL.out]; exact hlj)) := List.getElem?_eq_getElem _
          have hxs := HSM.out _ (List.mem_of_getElem? hx2)
          have c0 := hvc j _ hx
          rw [List.getElem_map] at c0
          have HT1 : Hid (cw.take (j + 1) = cw.take j ++ [cw[j]'(by rw [HCL.out]; exact hlj)]) := Lib.hid (List.take_succ_eq_append_getElem (by rw [HCL.out]; exact hlj))
          generalize cw[j]'(by rw [HCL.out]; exact hlj) = x at c0 HT1 hxs
          have hxm : (bs x).size ≤ maxLen := by rw [bs_size]; unfold maxLen; omega
          have hj6 : (0 : Int) ≤ (j : Int) := by omega
          have hj7 : (j : Int) < (cl : Int) := by omega
          have hml : m < maxLen := by unfold maxLen; omega
          generalize hX : bs x = X at c0 hxm
          have HX : Hid (X.data.toList = x) := Lib.hid (by rw [← hX]; rfl)
          clear hx hx2 hvc hxs hX hvl
          go_wp2_with (at_mapUpdate; refine wpList_putS _ rfl _ _ _ rfl w3.heap.size m (addAllS [] (base ++ cw.take j)) rfl hown.out hml X hxm rfl rfl ?_)
          intro w6 hown6 hg6
          have B6 : Below w.heap.size w w6 := hnx.grown hg6 hnx.size (fun r e => by cases e; exact hz3)
          have S6 := Lib.hid (hset.out.kept hg6 (by simp; omega))
          have HN : Hid (OwnSetS w6 w3.heap.size (m + 1) (addAllS [] (base ++ cw.take (j + 1)))) := Lib.hid (by rw [HT1.out, ← List.append_assoc, addAllS_snoc, ← HX.out]; exact hown6)
          have I6 := Lib.hid (hiv.out.far hg6 HVB.out)
          clear hown6 hg6 hown hset hiv HT1 HX hnx
          go_wp2_with fail
          go_roundw
          case rel => exact ⟨j + 1, m + 1, by omega, by go_num, by omega, HN, S6, I6, B6⟩
          case measure => simp [intOf]; omega
        · obtain rfl : j = cl := by omega
          have HN : Hid (OwnSetS wr w3.heap.size m (addAllS [] ((g.take (k + 1)).flatMap (clashW g)))) := Lib.hid (by
            have := hown.out
            rw [List.take_of_length_le (by rw [HCL.out]; exact Nat.le_refl _)] at this
            rw [HT.out]; exact this)
          clear hown hiv
          go_wp2_with fail
          go_roundw
          case rel => exact ⟨k + 1, m, by omega, by go_num, by omega, HN, hset, hnx⟩
          case measure => simp [intOf]; omega
    · obtain rfl : k = len := by omega
      have HN : Hid (OwnSetS wr w3.heap.size n (addAllS [] (g.flatMap (clashW g)))) := Lib.hid (by
        have := hown.out
        rwa [List.take_of_length_le (by rw [HL.out]; exact Nat.le_refl _)] at this)
      have hlw := clashes_len g hl80 g
      have hla := addAllS_len (g.flatMap (clashW g)) []
      have SK := Lib.hid (sortedTxt w3.heap.size n (addAllS [] (g.flatMap (clashW g))) wr HN.out (by simp only [List.length_nil] at hla; omega))
      clear hown hla hlw hset
      go_wp2_with fail
      refine (keysTxt _ _).mono ?_
      rintro e w6 ⟨rfl, rfl⟩
      go_wp2_with fail
      refine SK.out.mono ?_
      rintro e w7 ⟨v, rfl, o7, hb7⟩
      rw [sorted_words] at o7
      have B7 := hnx.trans (hb7.mono hnx.size)
      have O7 := Lib.hid (ownS_base o7 hnx.size)
      obtain ⟨va, vc, rfl, _⟩ := o7.is
      clear o7 hb7 SK
      go_wp2_with fail
      go_ret2
      exact ⟨_, rfl, by simpa using O7.out, B7⟩
end Go.Proofs.Ytmklnkogmidkdaa
/- All that clashes in a graph: the specification's way. -/
namespace Go.Proofs.Ytmklnkogmidkdaa
open Go.RowKit Go.WideShapes Go.Maps
theorem addFactC {a b c : ByteArray} (h : a.size + b.size ≤ 9223372036854775807) (hc : a ++ b = c) : ∀ wx : World, (Op.stringOp .add a b).run Try.prog wx = .ok (.string c) wx := fun wx => by
  rw [run_string_add_sum wx _ _ h, hc]
theorem cat_is {a b c : ByteArray} (h : a.data.toList ++ b.data.toList = c.data.toList) : a ++ b = c := by
  apply data_inj
  rw [← h]; simp [ByteArray.data_append]
abbrev sNo : ByteArray := ⟨#[110, 111, 116, 104, 105, 110, 103, 32]⟩
abbrev sSa : ByteArray := ⟨#[115, 97, 109, 101, 32]⟩
abbrev sDj : ByteArray := ⟨#[100, 105, 115, 106, 32]⟩
abbrev sSp : ByteArray := ⟨#[32]⟩
theorem sum_no (s : ByteArray) : sNo ++ s = bs (jnW [wNo, s]) := cat_is (by rw [jn2]; rfl)
theorem sum_sa (s o : ByteArray) : ((sSa ++ s) ++ sSp) ++ o = bs (jnW [wSa, s, o]) := cat_is (by rw [jn3]; simp [ByteArray.data_append, bs])
theorem sum_dj (x c d : ByteArray) : ((((sDj ++ x) ++ sSp) ++ c) ++ sSp) ++ d = bs (jnW [wDj, x, c, d]) := cat_is (by rw [jn4]; simp [ByteArray.data_append, bs])
set_option maxRecDepth 100000 in
theorem spec8T (s p o : ByteArray) (w : World) : Calls Try.prog 59 #[.string s, .string p, .string o] w fun e w' => e = .returned (.agg #[.string s, .string p, .string o]) ∧ Below w.heap.size w w' := by
  go_enter Try.func59, Try.ntmps59
  go_wp2_with fail
  refine bodyPost_ret (v := .agg #[.string s, .string p, .string o]) (by simp [results, Try.results59, go_sem, *]) rfl ⟨rfl, ?_⟩
  exact (Below.refl _ _).alloc (Nat.le_refl _) _
theorem clashW_dj (g : List Tri3) (s o : ByteArray) : clashW g (s, djB, o) = g.flatMap (classW g s o) := by
  unfold clashW
  rw [if_neg (show ¬ ((s, djB, o) : Tri3).2.1 = tyB from ne_dj_ty), if_neg (show ¬ ((s, djB, o) : Tri3).2.1 = saB from ne_dj_sa), if_pos (show ((s, djB, o) : Tri3).2.1 = djB from rfl)]
theorem put_bound (g : List Tri3) (hg : g.length ≤ 80) (k : Nat) : (putAllS [] ((g.take k).flatMap (clashW g))).length ≤ 80 * k := by
  have h1 := putAllS_len ((g.take k).flatMap (clashW g)) []
  have h2 := clashes_len g hg (g.take k)
  have h3 : (g.take k).length ≤ k := List.length_take_le _ _
  simp only [List.length_nil] at h1
  omega
set_option maxRecDepth 100000 in
set_option maxHeartbeats 6400000 in
theorem specClashesOf (a : Option Addr) (len cap : Nat) (g : List Tri3) (w : World) (h : IsTris w a len cap g) (hsm : Sm g) :
    Calls Try.prog 34 #[.slice a len cap] w fun e w' => ∃ v, e = .returned (.tuple #[v, .bool (graphOk g)]) ∧ OwnS w.heap.size w' v ((clashesT g).map bs) ∧ Below w.heap.size w w' := by
  have C' := specGraphOk a len cap g w h hsm
  have HL := Lib.hid h.len
  have HM := Lib.hid hsm
  have H := Lib.hid h
  clear h hsm
  unfold clashesT
  cases hq : graphOk g
  · rw [hq] at C'
    have C := Lib.hid C'
    clear C' hq
    go_enter Try.func34, Try.ntmps34
    go_wp2_with fail
    refine C.out.mono ?_
    rintro e w1 ⟨rfl, hb⟩
    go_wp2_with fail
    go_ret2
    exact ⟨.slice none 0 0, rfl, ⟨rfl, .inl ⟨rfl, rfl⟩⟩, hb⟩
  have hl80 : g.length ≤ 80 := graphOk_len hq
  have hlen : len ≤ 80 := by have := HL.out; omega
  rw [hq] at C'
  have C := Lib.hid C'
  clear C' hq
  go_enter Try.func34, Try.ntmps34
  go_wp2_with fail
  refine C.out.mono ?_
  rintro e w1 ⟨rfl, hb1⟩
  have O0 : Hid (OwnS w.heap.size (w1.alloc (.cells #[] 9)) (.slice (some ⟨w1.heap.size, 0, none⟩) 0 0) ((putAllS [] ((g.take 0).flatMap (clashW g))).map bs) ∧ (putAllS [] ((g.take 0).flatMap (clashW g))).length = 0) := Lib.hid ⟨World.ownsRow_lit (size := 1) (e := 9) w1 #[] 0 hb1.size (by decide) rfl, rfl⟩
  have B0 := hb1.alloc hb1.size (.cells #[] 9)
  clear hb1 C
  go_wp2_with fail
  go_loopw [4, 5] (fun o i wr => ∃ k : Nat, k ≤ len ∧ i = .int .i64 k ∧ (∃ x n y, o = .slice (some ⟨x, 0, none⟩) n y ∧ Hid (OwnS w.heap.size wr o ((putAllS [] ((g.take k).flatMap (clashW g))).map bs) ∧ (putAllS [] ((g.take k).flatMap (clashW g))).length = n)) ∧ Below w.heap.size w wr) (fun _ i _ => len - (intOf i).toNat)
  case atStart => exact ⟨0, Nat.zero_le _, rfl, ⟨_, _, _, rfl, O0⟩, B0⟩
  case round =>
    obtain ⟨k, hk, rfl, ⟨x, n, y, rfl, HQ⟩, hnx⟩ := hrel
    clear O0 B0
    have hk6 : (0 : Int) ≤ (k : Int) := by omega
    by_cases hlt : k < len
    · have hk7 : (k : Int) < (len : Int) := by omega
      have hk9 : (0 : Int) < (len : Int) := by omega
      have hn80 : n ≤ 80 * k := by rw [← HQ.out.2]; exact put_bound g hl80 k
      obtain ⟨b, off, rfl, hb, hl', hm, hts, hcs⟩ := H.out.cells (by omega)
      have ht : g[k]? = some (g[k]'(by omega)) := List.getElem?_eq_getElem (by omega)
      obtain ⟨d0, d1, d2, m0, m1, m2⟩ := hcs k _ ht
      have HT : Hid ((g.take (k + 1)).flatMap (clashW g) = (g.take k).flatMap (clashW g) ++ clashW g (g[k]'(by omega))) := Lib.hid (flat_take _ ht)
      have hmem := List.mem_of_getElem? ht
      have hs1 := HM.out _ hmem
      rw [← hnx.cell (p := ⟨b, _, none⟩) hb] at d0 d1 d2
      generalize g[k]'(by omega) = t at ht d0 d1 d2 m0 m1 m2 HT hs1 hmem
      obtain ⟨s, p, o⟩ := t
      try simp only at d0 d1 d2
      try simp only at hs1
      obtain ⟨q1, q2, q3⟩ := hs1
      have T0 := Box.new wr (.string s) (.string p) (.string o) 26
      have B2 := hnx.alloc hnx.size (.cells #[.string s, .string p, .string o] 26)
      have O2 := OwnS.kept HQ.out.1 ((Below.refl wr.heap.size wr).alloc (Nat.le_refl _) (.cells #[.string s, .string p, .string o] 26))
      have hL := HQ.out.2
      obtain ⟨c0, c1, c2⟩ := T0.cells
      obtain ⟨base, hbase⟩ : ∃ l, (g.take k).flatMap (clashW g) = l := ⟨_, rfl⟩
      rw [hbase] at HT O2 hL
      have HLB := Lib.hid hL
      have HO2 := Lib.hid O2
      have T0h := Lib.hid T0
      have B2h := Lib.hid B2
      have HNB : Hid ((putAllS [] ((g.take (k + 1)).flatMap (clashW g))).length ≤ 80 * (k + 1)) := Lib.hid (put_bound g hl80 (k + 1))
      clear ht hts hcs hnx m0 m1 m2 hl' hm hmem hbase HQ hL O2 T0 B2
      by_cases hdj : p = djB
      · subst hdj
        have e1 := lit_not [60, 116, 121, 112, 101, 62] ne_dj_ty
        have e2 := lit_not [60, 115, 97, 109, 101, 62] ne_dj_sa
        have e3 := lit_is [60, 100, 105, 115, 106, 62] (rfl : djB = bs _)
        have HW : Hid (clashW g (s, djB, o) = g.flatMap (classW g s o)) := Lib.hid (clashW_dj g s o)
        have C8 := Lib.hid spec8T
        go_wp2_with fail
        clear c0 c1 c2 d0 d1 d2
        generalize wr.alloc (.cells #[.string s, .string djB, .string o] 26) = wz at HO2 B2h T0h ⊢
        generalize wr.heap.size = tb at T0h ⊢
        go_loopw [4, 7] (fun ou i w5 => ∃ j : Nat, j ≤ len ∧ i = .int .i64 j ∧ (∃ gx n' y', ou = .slice (some ⟨gx, 0, none⟩) n' y' ∧ n' ≤ n + j ∧ Hid (OwnS w.heap.size w5 ou ((putAllS [] (base ++ (g.take j).flatMap (classW g s o))).map bs) ∧ (putAllS [] (base ++ (g.take j).flatMap (classW g s o))).length = n')) ∧ Hid (Box w5 tb (.string s) (.string djB) (.string o) 26) ∧ Below w.heap.size w w5) (fun _ i _ => len - (intOf i).toNat)
        case atStart => exact ⟨0, Nat.zero_le _, rfl, ⟨x, n, y, rfl, by omega, Lib.hid ⟨by simpa using HO2.out, by simpa using HLB.out⟩⟩, T0h, B2h.out⟩
        case round =>
          obtain ⟨j, hj, rfl, ⟨gx, n', y', rfl, hn', HQ⟩, HX, hny⟩ := hrel
          clear HO2 T0h B2h HLB
          have hj6 : (0 : Int) ≤ (j : Int) := by omega
          obtain ⟨z0, z1, z2⟩ := HX.out.cells
          by_cases hlj : j < len
          · have hj7 : (j : Int) < (len : Int) := by omega
            obtain ⟨_, _, hbo, hb', hl', hm, hts, hcs⟩ := H.out.cells (by omega)
            cases hbo
            have hu : g[j]? = some (g[j]'(by omega)) := List.getElem?_eq_getElem (by omega)
            obtain ⟨d0, d1, d2, m0, m1, m2⟩ := hcs j _ hu
            have HU : Hid ((g.take (j + 1)).flatMap (classW g s o) = (g.take j).flatMap (classW g s o) ++ classW g s o (g[j]'(by omega))) := Lib.hid (flat_take _ hu)
            have hs1 := HM.out _ (List.mem_of_getElem? hu)
            rw [← hny.cell (p := ⟨b, _, none⟩) hb] at d0 d1 d2
            generalize g[j]'(by omega) = u at hu d0 d1 d2 m0 m1 m2 HU hs1
            obtain ⟨us, up, uo⟩ := u
            try simp only at d0 d1 d2
            try simp only at hs1
            obtain ⟨r1, r2, r3⟩ := hs1
            have hbx := HX.out.lt
            have hbl : b < wr.heap.size := Nat.lt_of_lt_of_le hb hny.size
            have HNY := Lib.hid hny
            have SAME : classW g s o (us, up, uo) = [] → ∀ W, Below wr.heap.size wr W → Hid (OwnS w.heap.size W (.slice (some ⟨gx, 0, none⟩) n' y') ((putAllS [] (base ++ (g.take (j + 1)).flatMap (classW g s o))).map bs) ∧ (putAllS [] (base ++ (g.take (j + 1)).flatMap (classW g s o))).length = n') := fun hc W hW => Lib.hid (by
              rw [HU.out, hc, List.append_nil]
              exact ⟨OwnS.kept HQ.out.1 hW, HQ.out.2⟩)
            clear hu hts hcs m0 m1 m2 hl' hm hny hb'
            by_cases h1 : up = tyB
            rotate_left
            · have f1 := lit_not [60, 116, 121, 112, 101, 62] h1
              have HS := Lib.hid (SAME (by unfold classW; rw [if_neg (fun h => h1 h.1)]))
              clear SAME h1
              go_wp2_with fail
              go_quiet (fail)
              have BD := below_drewN HNY.out nq
              have XD := Lib.hid (show Box (wr.drewN nq) tb (.string s) (.string djB) (.string o) 26 from HX.out)
              have HF := HS.out (wr.drewN nq) (below_drewN (Below.refl _ wr) nq)
              clear HS HX HNY HQ z0 z1 z2 d0 d1 d2
              generalize wr.drewN nq = wd at BD XD HF ⊢
              go_wp2_with fail
              go_roundw
              case rel => exact ⟨j + 1, by omega, by go_num, ⟨gx, n', y', rfl, by omega, HF⟩, XD, BD⟩
              case measure => simp [intOf]; omega
            have f1 := lit_is [60, 116, 121, 112, 101, 62] h1
            subst h1
            by_cases h2 : uo = s
            rotate_left
            · have f2 := bl_not h2
              have HS := Lib.hid (SAME (by unfold classW; rw [if_neg (fun h => h2 h.2.1)]))
              clear SAME h2
              go_wp2_with fail
              go_quiet (fail)
              have BD := below_drewN HNY.out nq
              have XD := Lib.hid (show Box (wr.drewN nq) tb (.string s) (.string djB) (.string o) 26 from HX.out)
              have HF := HS.out (wr.drewN nq) (below_drewN (Below.refl _ wr) nq)
              clear HS HX HNY HQ z0 z1 z2 d0 d1 d2
              generalize wr.drewN nq = wd at BD XD HF ⊢
              go_wp2_with fail
              go_roundw
              case rel => exact ⟨j + 1, by omega, by go_num, ⟨gx, n', y', rfl, by omega, HF⟩, XD, BD⟩
              case measure => simp [intOf]; omega
            have f2 := bl_is h2
            have CH' := fun W hi => specHas2 (some ⟨b, off, none⟩) len cap g us tyB o W hi (by omega)
            have d0d : wr.drew.cell? ⟨b, off + j * 3, none⟩ = some (.string us) := d0
            have d1d : wr.drew.cell? ⟨b, off + j * 3 + 1, none⟩ = some (.string tyB) := d1
            have d2d : wr.drew.cell? ⟨b, off + j * 3 + 2, none⟩ = some (.string uo) := d2
            obtain ⟨z0d, z1d, z2d⟩ := HX.out.drew.cells
            by_cases h3 : (us, tyB, o) ∈ g
            rotate_left
            · have hd := decide_eq_false h3
              simp only [hd] at CH'
              have CH := Lib.hid CH'
              have HS := Lib.hid (SAME (by unfold classW; rw [if_neg (fun h => h3 h.2.2)]))
              clear SAME h3 CH' hd d0 d1 d2
              go_wp2_with fail
              refine wp_region_any (by kernel_rfl) ?_
              change wpAny _ _ _ _ _ _ _ (World.drew _)
              refine wpAny_take (i := 0) (v := ?_) rfl (by kernel_rfl) (by kernel_rfl) (by kernel_rfl) (fun _ _ _ h => h) (Or.inl ⟨by kernel_rfl, ?_⟩) ?_
              rotate_left
              · intro w; go_simp; try with_reducible rfl
              refine wpAny_take (i := 1) (v := ?_) rfl (by kernel_rfl) (by kernel_rfl) (by kernel_rfl) (fun _ _ _ h => h) (Or.inl ⟨by kernel_rfl, ?_⟩) ?_
              rotate_left
              · intro w; go_simp; try with_reducible rfl
              refine wpAny_take (i := 2) (v := ?_) rfl (by kernel_rfl) (by kernel_rfl) (by kernel_rfl) (fun _ _ _ h => h) (Or.inl ⟨by kernel_rfl, ?_⟩) ?_
              rotate_left
              · intro w; go_simp; try with_reducible rfl
              refine wpAny_take (i := 3) (v := ?_) rfl (by kernel_rfl) (by kernel_rfl) (by kernel_rfl) (fun _ _ _ h => h) (Or.inl ⟨by kernel_rfl, ?_⟩) ?_
              rotate_left
              · intro w; go_simp; try with_reducible rfl
              refine wpAny_ready (rs := [4]) (by kernel_rfl) (by simp) ?_
              refine AllReady.cons rfl (fun K hK => ?_) AllReady.nil
              go_simp
              refine hK _ _ ?_
              clear hK K
              refine wpAny_take (i := 5) (v := ?_) rfl (by kernel_rfl) (by kernel_rfl) (by kernel_rfl) (fun _ _ _ h => h) (Or.inl ⟨by kernel_rfl, ?_⟩) ?_
              rotate_left
              · intro w; go_simp; try with_reducible rfl
              refine wpAny_take (i := 6) (v := ?_) rfl (by kernel_rfl) (by kernel_rfl) (by kernel_rfl) (fun _ _ _ h => h) (Or.inl ⟨by kernel_rfl, ?_⟩) ?_
              rotate_left
              · intro w; go_simp; try with_reducible rfl
              refine wpAny_take (i := 7) (v := ?_) rfl (by kernel_rfl) (by kernel_rfl) (by kernel_rfl) (fun _ _ _ h => h) (Or.inl ⟨by kernel_rfl, ?_⟩) ?_
              rotate_left
              · intro w; go_simp; try with_reducible rfl
              refine wpAny_take (i := 8) (v := ?_) rfl (by kernel_rfl) (by kernel_rfl) (by kernel_rfl) (fun _ _ _ h => h) (Or.inl ⟨by kernel_rfl, ?_⟩) ?_
              rotate_left
              · intro w; go_simp; try with_reducible rfl
              refine wpAny_take (i := 9) (v := ?_) rfl (by kernel_rfl) (by kernel_rfl) (by kernel_rfl) (fun _ _ _ h => h) (Or.inl ⟨by kernel_rfl, ?_⟩) ?_
              rotate_left
              · intro w; go_simp; try with_reducible rfl
              refine wpAny_take (i := 10) (v := ?_) rfl (by kernel_rfl) (by kernel_rfl) (by kernel_rfl) (fun _ _ _ h => h) (Or.inl ⟨by kernel_rfl, ?_⟩) ?_
              rotate_left
              · intro w; go_simp; try with_reducible rfl
              refine wpAny_take (i := 12) (v := ?_) rfl (by kernel_rfl) (by kernel_rfl) (by kernel_rfl) (fun _ _ _ h => h) (Or.inl ⟨by kernel_rfl, ?_⟩) ?_
              rotate_left
              · intro w; go_simp; try with_reducible rfl
              refine wpAny_ready (rs := [11, 13]) (by kernel_rfl) (by simp) ?_
              refine AllReady.cons rfl (fun K hK => ?_) (AllReady.cons rfl (fun K hK => ?_) AllReady.nil)
              · go_simp
                refine hK _ _ ?_
                clear hK K
                refine wpAny_ready (rs := [13]) (by kernel_rfl) (by simp) ?_
                refine AllReady.cons rfl (fun K hK => ?_) AllReady.nil
                go_simp
                refine hK _ _ ?_
                clear hK K
                refine wpAny_take (i := 14) (v := ?_) rfl (by kernel_rfl) (by kernel_rfl) (by kernel_rfl) (fun _ _ _ h => h) (Or.inl ⟨by kernel_rfl, ?_⟩) ?_
                rotate_left
                · intro w; go_simp; try with_reducible rfl
                refine wpAny_take (i := 15) (v := ?_) rfl (by kernel_rfl) (by kernel_rfl) (by kernel_rfl) (fun _ _ _ h => h) (Or.inl ⟨by kernel_rfl, ?_⟩) ?_
                rotate_left
                · intro w; go_simp; try with_reducible rfl
                refine wpAny_take (i := 16) (v := ?_) rfl (by kernel_rfl) (by kernel_rfl) (by kernel_rfl) (fun _ _ _ h => h) (Or.inl ⟨by kernel_rfl, ?_⟩) ?_
                rotate_left
                · intro w; go_simp; try with_reducible rfl
                refine wpAny_take (i := 17) (v := ?_) rfl (by kernel_rfl) (by kernel_rfl) (by kernel_rfl) (fun _ _ _ h => h) (Or.inl ⟨by kernel_rfl, ?_⟩) ?_
                rotate_left
                · intro w; go_simp; try with_reducible rfl
                refine wpAny_take (i := 18) (v := ?_) rfl (by kernel_rfl) (by kernel_rfl) (by kernel_rfl) (fun _ _ _ h => h) (Or.inl ⟨by kernel_rfl, ?_⟩) ?_
                rotate_left
                · intro w; go_simp; try with_reducible rfl
                refine wpAny_take (i := 19) (v := ?_) rfl (by kernel_rfl) (by kernel_rfl) (by kernel_rfl) (fun _ _ _ h => h) (Or.inl ⟨by kernel_rfl, ?_⟩) ?_
                rotate_left
                · intro w; go_simp; try with_reducible rfl
                refine wpAny_take (i := 20) (v := ?_) rfl (by kernel_rfl) (by kernel_rfl) (by kernel_rfl) (fun _ _ _ h => h) (Or.inl ⟨by kernel_rfl, ?_⟩) ?_
                rotate_left
                · intro w; go_simp; try with_reducible rfl
                refine wpAny_take (i := 21) (v := ?_) rfl (by kernel_rfl) (by kernel_rfl) (by kernel_rfl) (fun _ _ _ h => h) (Or.inl ⟨by kernel_rfl, ?_⟩) ?_
                rotate_left
                · intro w; go_simp; try with_reducible rfl
                refine wpAny_take (i := 23) (v := ?_) rfl (by kernel_rfl) (by kernel_rfl) (by kernel_rfl) (fun _ _ _ h => h) (Or.inl ⟨by kernel_rfl, ?_⟩) ?_
                rotate_left
                · intro w; go_simp; try with_reducible rfl
                refine wpAny_ready (rs := [22, 24]) (by kernel_rfl) (by simp) ?_
                refine AllReady.cons rfl (fun K hK => ?_) (AllReady.cons rfl (fun K hK => ?_) AllReady.nil)
                · go_simp
                  refine hK _ _ ?_
                  clear hK K
                  refine wpAny_ready (rs := [24]) (by kernel_rfl) (by simp) ?_
                  refine AllReady.cons rfl (fun K hK => ?_) AllReady.nil
                  go_simp
                  refine hK _ _ ?_
                  clear hK K
                  refine wpAny_ready (rs := [25]) (by kernel_rfl) (by simp) ?_
                  refine AllReady.cons rfl (fun K hK => ?_) AllReady.nil
                  go_simp
                  refine (C8.out us tyB o _).mono ?_
                  rintro e w6 ⟨rfl, hb6⟩
                  have B6 := Lib.hid ((Below.drew HNY.out).trans (hb6.mono HNY.out.size))
                  have X6 := Lib.hid (HX.out.drew.next hb6)
                  have D6 := Lib.hid (And.intro ((hb6.cell (p := ⟨b, off + j * 3, none⟩) hbl).trans d0d) (And.intro ((hb6.cell (p := ⟨b, off + j * 3 + 1, none⟩) hbl).trans d1d) ((hb6.cell (p := ⟨b, off + j * 3 + 2, none⟩) hbl).trans d2d)))
                  have F6 := Lib.hid ((Below.refl wr.heap.size wr).drew.trans (hb6.mono (Nat.le_refl _)))
                  clear hb6
                  go_wp2_with fail
                  refine wpAny_ready (rs := [26]) (by kernel_rfl) (by simp) ?_
                  refine AllReady.cons rfl (fun K hK => ?_) AllReady.nil
                  go_simp
                  refine (CH.out _ (H.out.next B6.out)).mono ?_
                  rintro e w7 ⟨rfl, hb7⟩
                  have B7 := Lib.hid (B6.out.trans (hb7.mono B6.out.size))
                  have X7 := Lib.hid (X6.out.next hb7)
                  have F7 := Lib.hid (F6.out.trans (hb7.mono F6.out.size))
                  have D7 := Lib.hid (And.intro ((hb7.cell (p := ⟨b, off + j * 3, none⟩) (Nat.lt_of_lt_of_le hbl F6.out.size)).trans D6.out.1) (And.intro ((hb7.cell (p := ⟨b, off + j * 3 + 1, none⟩) (Nat.lt_of_lt_of_le hbl F6.out.size)).trans D6.out.2.1) ((hb7.cell (p := ⟨b, off + j * 3 + 2, none⟩) (Nat.lt_of_lt_of_le hbl F6.out.size)).trans D6.out.2.2)))
                  clear hb7
                  go_wp2_with fail
                  refine wpAny_take (i := 27) (v := ?_) rfl (by kernel_rfl) (by kernel_rfl) (by kernel_rfl) (fun _ _ _ h => h) (Or.inl ⟨by kernel_rfl, ?_⟩) ?_
                  rotate_left
                  · intro w; go_simp; try with_reducible rfl
                  refine wpAny_done (by kernel_rfl) ?_ _
                  try simp only [Act.put, List.setIfInBounds_toArray, List.set_cons_zero, List.set_cons_succ, List.getElem_toArray, List.getElem_cons_zero, List.getElem_cons_succ]
                  have HF := HS.out w7 F7.out
                  clear HS HX HNY HQ z0d z1d z2d d0d d1d d2d D6 X6 B6 F6 D7 F7
                  go_wp2_with fail
                  go_roundw
                  case rel => exact ⟨j + 1, by omega, by go_num, ⟨gx, n', y', rfl, by omega, HF⟩, X7, B7.out⟩
                  case measure => simp [intOf]; omega
                · go_simp
                  refine hK _ _ ?_
                  clear hK K
                  refine wpAny_ready (rs := [22]) (by kernel_rfl) (by simp) ?_
                  refine AllReady.cons rfl (fun K hK => ?_) AllReady.nil
                  go_simp
                  refine hK _ _ ?_
                  clear hK K
                  refine wpAny_ready (rs := [25]) (by kernel_rfl) (by simp) ?_
                  refine AllReady.cons rfl (fun K hK => ?_) AllReady.nil
                  go_simp
                  refine (C8.out us tyB o _).mono ?_
                  rintro e w6 ⟨rfl, hb6⟩
                  have B6 := Lib.hid ((Below.drew HNY.out).trans (hb6.mono HNY.out.size))
                  have X6 := Lib.hid (HX.out.drew.next hb6)
                  have D6 := Lib.hid (And.intro ((hb6.cell (p := ⟨b, off + j * 3, none⟩) hbl).trans d0d) (And.intro ((hb6.cell (p := ⟨b, off + j * 3 + 1, none⟩) hbl).trans d1d) ((hb6.cell (p := ⟨b, off + j * 3 + 2, none⟩) hbl).trans d2d)))
                  have F6 := Lib.hid ((Below.refl wr.heap.size wr).drew.trans (hb6.mono (Nat.le_refl _)))
                  clear hb6
                  go_wp2_with fail
                  refine wpAny_ready (rs := [26]) (by kernel_rfl) (by simp) ?_
                  refine AllReady.cons rfl (fun K hK => ?_) AllReady.nil
                  go_simp
                  refine (CH.out _ (H.out.next B6.out)).mono ?_
                  rintro e w7 ⟨rfl, hb7⟩
                  have B7 := Lib.hid (B6.out.trans (hb7.mono B6.out.size))
                  have X7 := Lib.hid (X6.out.next hb7)
                  have F7 := Lib.hid (F6.out.trans (hb7.mono F6.out.size))
                  have D7 := Lib.hid (And.intro ((hb7.cell (p := ⟨b, off + j * 3, none⟩) (Nat.lt_of_lt_of_le hbl F6.out.size)).trans D6.out.1) (And.intro ((hb7.cell (p := ⟨b, off + j * 3 + 1, none⟩) (Nat.lt_of_lt_of_le hbl F6.out.size)).trans D6.out.2.1) ((hb7.cell (p := ⟨b, off + j * 3 + 2, none⟩) (Nat.lt_of_lt_of_le hbl F6.out.size)).trans D6.out.2.2)))
                  clear hb7
                  go_wp2_with fail
                  refine wpAny_take (i := 27) (v := ?_) rfl (by kernel_rfl) (by kernel_rfl) (by kernel_rfl) (fun _ _ _ h => h) (Or.inl ⟨by kernel_rfl, ?_⟩) ?_
                  rotate_left
                  · intro w; go_simp; try with_reducible rfl
                  refine wpAny_done (by kernel_rfl) ?_ _
                  try simp only [Act.put, List.setIfInBounds_toArray, List.set_cons_zero, List.set_cons_succ, List.getElem_toArray, List.getElem_cons_zero, List.getElem_cons_succ]
                  have HF := HS.out w7 F7.out
                  clear HS HX HNY HQ z0d z1d z2d d0d d1d d2d D6 X6 B6 F6 D7 F7
                  go_wp2_with fail
                  go_roundw
                  case rel => exact ⟨j + 1, by omega, by go_num, ⟨gx, n', y', rfl, by omega, HF⟩, X7, B7.out⟩
                  case measure => simp [intOf]; omega
              · go_simp
                refine hK _ _ ?_
                clear hK K
                refine wpAny_ready (rs := [11]) (by kernel_rfl) (by simp) ?_
                refine AllReady.cons rfl (fun K hK => ?_) AllReady.nil
                go_simp
                refine hK _ _ ?_
                clear hK K
                refine wpAny_take (i := 14) (v := ?_) rfl (by kernel_rfl) (by kernel_rfl) (by kernel_rfl) (fun _ _ _ h => h) (Or.inl ⟨by kernel_rfl, ?_⟩) ?_
                rotate_left
                · intro w; go_simp; try with_reducible rfl
                refine wpAny_take (i := 15) (v := ?_) rfl (by kernel_rfl) (by kernel_rfl) (by kernel_rfl) (fun _ _ _ h => h) (Or.inl ⟨by kernel_rfl, ?_⟩) ?_
                rotate_left
                · intro w; go_simp; try with_reducible rfl
                refine wpAny_take (i := 16) (v := ?_) rfl (by kernel_rfl) (by kernel_rfl) (by kernel_rfl) (fun _ _ _ h => h) (Or.inl ⟨by kernel_rfl, ?_⟩) ?_
                rotate_left
                · intro w; go_simp; try with_reducible rfl
                refine wpAny_take (i := 17) (v := ?_) rfl (by kernel_rfl) (by kernel_rfl) (by kernel_rfl) (fun _ _ _ h => h) (Or.inl ⟨by kernel_rfl, ?_⟩) ?_
                rotate_left
                · intro w; go_simp; try with_reducible rfl
                refine wpAny_take (i := 18) (v := ?_) rfl (by kernel_rfl) (by kernel_rfl) (by kernel_rfl) (fun _ _ _ h => h) (Or.inl ⟨by kernel_rfl, ?_⟩) ?_
                rotate_left
                · intro w; go_simp; try with_reducible rfl
                refine wpAny_take (i := 19) (v := ?_) rfl (by kernel_rfl) (by kernel_rfl) (by kernel_rfl) (fun _ _ _ h => h) (Or.inl ⟨by kernel_rfl, ?_⟩) ?_
                rotate_left
                · intro w; go_simp; try with_reducible rfl
                refine wpAny_take (i := 20) (v := ?_) rfl (by kernel_rfl) (by kernel_rfl) (by kernel_rfl) (fun _ _ _ h => h) (Or.inl ⟨by kernel_rfl, ?_⟩) ?_
                rotate_left
                · intro w; go_simp; try with_reducible rfl
                refine wpAny_take (i := 21) (v := ?_) rfl (by kernel_rfl) (by kernel_rfl) (by kernel_rfl) (fun _ _ _ h => h) (Or.inl ⟨by kernel_rfl, ?_⟩) ?_
                rotate_left
                · intro w; go_simp; try with_reducible rfl
                refine wpAny_take (i := 23) (v := ?_) rfl (by kernel_rfl) (by kernel_rfl) (by kernel_rfl) (fun _ _ _ h => h) (Or.inl ⟨by kernel_rfl, ?_⟩) ?_
                rotate_left
                · intro w; go_simp; try with_reducible rfl
                refine wpAny_ready (rs := [22, 24]) (by kernel_rfl) (by simp) ?_
                refine AllReady.cons rfl (fun K hK => ?_) (AllReady.cons rfl (fun K hK => ?_) AllReady.nil)
                · go_simp
                  refine hK _ _ ?_
                  clear hK K
                  refine wpAny_ready (rs := [24]) (by kernel_rfl) (by simp) ?_
                  refine AllReady.cons rfl (fun K hK => ?_) AllReady.nil
                  go_simp
                  refine hK _ _ ?_
                  clear hK K
                  refine wpAny_ready (rs := [25]) (by kernel_rfl) (by simp) ?_
                  refine AllReady.cons rfl (fun K hK => ?_) AllReady.nil
                  go_simp
                  refine (C8.out us tyB o _).mono ?_
                  rintro e w6 ⟨rfl, hb6⟩
                  have B6 := Lib.hid ((Below.drew HNY.out).trans (hb6.mono HNY.out.size))
                  have X6 := Lib.hid (HX.out.drew.next hb6)
                  have D6 := Lib.hid (And.intro ((hb6.cell (p := ⟨b, off + j * 3, none⟩) hbl).trans d0d) (And.intro ((hb6.cell (p := ⟨b, off + j * 3 + 1, none⟩) hbl).trans d1d) ((hb6.cell (p := ⟨b, off + j * 3 + 2, none⟩) hbl).trans d2d)))
                  have F6 := Lib.hid ((Below.refl wr.heap.size wr).drew.trans (hb6.mono (Nat.le_refl _)))
                  clear hb6
                  go_wp2_with fail
                  refine wpAny_ready (rs := [26]) (by kernel_rfl) (by simp) ?_
                  refine AllReady.cons rfl (fun K hK => ?_) AllReady.nil
                  go_simp
                  refine (CH.out _ (H.out.next B6.out)).mono ?_
                  rintro e w7 ⟨rfl, hb7⟩
                  have B7 := Lib.hid (B6.out.trans (hb7.mono B6.out.size))
                  have X7 := Lib.hid (X6.out.next hb7)
                  have F7 := Lib.hid (F6.out.trans (hb7.mono F6.out.size))
                  have D7 := Lib.hid (And.intro ((hb7.cell (p := ⟨b, off + j * 3, none⟩) (Nat.lt_of_lt_of_le hbl F6.out.size)).trans D6.out.1) (And.intro ((hb7.cell (p := ⟨b, off + j * 3 + 1, none⟩) (Nat.lt_of_lt_of_le hbl F6.out.size)).trans D6.out.2.1) ((hb7.cell (p := ⟨b, off + j * 3 + 2, none⟩) (Nat.lt_of_lt_of_le hbl F6.out.size)).trans D6.out.2.2)))
                  clear hb7
                  go_wp2_with fail
                  refine wpAny_take (i := 27) (v := ?_) rfl (by kernel_rfl) (by kernel_rfl) (by kernel_rfl) (fun _ _ _ h => h) (Or.inl ⟨by kernel_rfl, ?_⟩) ?_
                  rotate_left
                  · intro w; go_simp; try with_reducible rfl
                  refine wpAny_done (by kernel_rfl) ?_ _
                  try simp only [Act.put, List.setIfInBounds_toArray, List.set_cons_zero, List.set_cons_succ, List.getElem_toArray, List.getElem_cons_zero, List.getElem_cons_succ]
                  have HF := HS.out w7 F7.out
                  clear HS HX HNY HQ z0d z1d z2d d0d d1d d2d D6 X6 B6 F6 D7 F7
                  go_wp2_with fail
                  go_roundw
                  case rel => exact ⟨j + 1, by omega, by go_num, ⟨gx, n', y', rfl, by omega, HF⟩, X7, B7.out⟩
                  case measure => simp [intOf]; omega
                · go_simp
                  refine hK _ _ ?_
                  clear hK K
                  refine wpAny_ready (rs := [22]) (by kernel_rfl) (by simp) ?_
                  refine AllReady.cons rfl (fun K hK => ?_) AllReady.nil
                  go_simp
                  refine hK _ _ ?_
                  clear hK K
                  refine wpAny_ready (rs := [25]) (by kernel_rfl) (by simp) ?_
                  refine AllReady.cons rfl (fun K hK => ?_) AllReady.nil
                  go_simp
                  refine (C8.out us tyB o _).mono ?_
                  rintro e w6 ⟨rfl, hb6⟩
                  have B6 := Lib.hid ((Below.drew HNY.out).trans (hb6.mono HNY.out.size))
                  have X6 := Lib.hid (HX.out.drew.next hb6)
                  have D6 := Lib.hid (And.intro ((hb6.cell (p := ⟨b, off + j * 3, none⟩) hbl).trans d0d) (And.intro ((hb6.cell (p := ⟨b, off + j * 3 + 1, none⟩) hbl).trans d1d) ((hb6.cell (p := ⟨b, off + j * 3 + 2, none⟩) hbl).trans d2d)))
                  have F6 := Lib.hid ((Below.refl wr.heap.size wr).drew.trans (hb6.mono (Nat.le_refl _)))
                  clear hb6
                  go_wp2_with fail
                  refine wpAny_ready (rs := [26]) (by kernel_rfl) (by simp) ?_
                  refine AllReady.cons rfl (fun K hK => ?_) AllReady.nil
                  go_simp
                  refine (CH.out _ (H.out.next B6.out)).mono ?_
                  rintro e w7 ⟨rfl, hb7⟩
                  have B7 := Lib.hid (B6.out.trans (hb7.mono B6.out.size))
                  have X7 := Lib.hid (X6.out.next hb7)
                  have F7 := Lib.hid (F6.out.trans (hb7.mono F6.out.size))
                  have D7 := Lib.hid (And.intro ((hb7.cell (p := ⟨b, off + j * 3, none⟩) (Nat.lt_of_lt_of_le hbl F6.out.size)).trans D6.out.1) (And.intro ((hb7.cell (p := ⟨b, off + j * 3 + 1, none⟩) (Nat.lt_of_lt_of_le hbl F6.out.size)).trans D6.out.2.1) ((hb7.cell (p := ⟨b, off + j * 3 + 2, none⟩) (Nat.lt_of_lt_of_le hbl F6.out.size)).trans D6.out.2.2)))
                  clear hb7
                  go_wp2_with fail
                  refine wpAny_take (i := 27) (v := ?_) rfl (by kernel_rfl) (by kernel_rfl) (by kernel_rfl) (fun _ _ _ h => h) (Or.inl ⟨by kernel_rfl, ?_⟩) ?_
                  rotate_left
                  · intro w; go_simp; try with_reducible rfl
                  refine wpAny_done (by kernel_rfl) ?_ _
                  try simp only [Act.put, List.setIfInBounds_toArray, List.set_cons_zero, List.set_cons_succ, List.getElem_toArray, List.getElem_cons_zero, List.getElem_cons_succ]
                  have HF := HS.out w7 F7.out
                  clear HS HX HNY HQ z0d z1d z2d d0d d1d d2d D6 X6 B6 F6 D7 F7
                  go_wp2_with fail
                  go_roundw
                  case rel => exact ⟨j + 1, by omega, by go_num, ⟨gx, n', y', rfl, by omega, HF⟩, X7, B7.out⟩
                  case measure => simp [intOf]; omega
            · have hd := decide_eq_true h3
              simp only [hd] at CH'
              have CH := Lib.hid CH'
              have HV : Hid (classW g s o (us, tyB, uo) = [jnW [wDj, us, s, o]]) := Lib.hid (by unfold classW; rw [if_pos ⟨rfl, h2, h3⟩])
              clear SAME h3 CH' hd d0 d1 d2
              go_wp2_with fail
              refine wp_region_any (by kernel_rfl) ?_
              change wpAny _ _ _ _ _ _ _ (World.drew _)
              refine wpAny_take (i := 0) (v := ?_) rfl (by kernel_rfl) (by kernel_rfl) (by kernel_rfl) (fun _ _ _ h => h) (Or.inl ⟨by kernel_rfl, ?_⟩) ?_
              rotate_left
              · intro w; go_simp; try with_reducible rfl
              refine wpAny_take (i := 1) (v := ?_) rfl (by kernel_rfl) (by kernel_rfl) (by kernel_rfl) (fun _ _ _ h => h) (Or.inl ⟨by kernel_rfl, ?_⟩) ?_
              rotate_left
              · intro w; go_simp; try with_reducible rfl
              refine wpAny_take (i := 2) (v := ?_) rfl (by kernel_rfl) (by kernel_rfl) (by kernel_rfl) (fun _ _ _ h => h) (Or.inl ⟨by kernel_rfl, ?_⟩) ?_
              rotate_left
              · intro w; go_simp; try with_reducible rfl
              refine wpAny_take (i := 3) (v := ?_) rfl (by kernel_rfl) (by kernel_rfl) (by kernel_rfl) (fun _ _ _ h => h) (Or.inl ⟨by kernel_rfl, ?_⟩) ?_
              rotate_left
              · intro w; go_simp; try with_reducible rfl
              refine wpAny_ready (rs := [4]) (by kernel_rfl) (by simp) ?_
              refine AllReady.cons rfl (fun K hK => ?_) AllReady.nil
              go_simp
              refine hK _ _ ?_
              clear hK K
              refine wpAny_take (i := 5) (v := ?_) rfl (by kernel_rfl) (by kernel_rfl) (by kernel_rfl) (fun _ _ _ h => h) (Or.inl ⟨by kernel_rfl, ?_⟩) ?_
              rotate_left
              · intro w; go_simp; try with_reducible rfl
              refine wpAny_take (i := 6) (v := ?_) rfl (by kernel_rfl) (by kernel_rfl) (by kernel_rfl) (fun _ _ _ h => h) (Or.inl ⟨by kernel_rfl, ?_⟩) ?_
              rotate_left
              · intro w; go_simp; try with_reducible rfl
              refine wpAny_take (i := 7) (v := ?_) rfl (by kernel_rfl) (by kernel_rfl) (by kernel_rfl) (fun _ _ _ h => h) (Or.inl ⟨by kernel_rfl, ?_⟩) ?_
              rotate_left
              · intro w; go_simp; try with_reducible rfl
              refine wpAny_take (i := 8) (v := ?_) rfl (by kernel_rfl) (by kernel_rfl) (by kernel_rfl) (fun _ _ _ h => h) (Or.inl ⟨by kernel_rfl, ?_⟩) ?_
              rotate_left
              · intro w; go_simp; try with_reducible rfl
              refine wpAny_take (i := 9) (v := ?_) rfl (by kernel_rfl) (by kernel_rfl) (by kernel_rfl) (fun _ _ _ h => h) (Or.inl ⟨by kernel_rfl, ?_⟩) ?_
              rotate_left
              · intro w; go_simp; try with_reducible rfl
              refine wpAny_take (i := 10) (v := ?_) rfl (by kernel_rfl) (by kernel_rfl) (by kernel_rfl) (fun _ _ _ h => h) (Or.inl ⟨by kernel_rfl, ?_⟩) ?_
              rotate_left
              · intro w; go_simp; try with_reducible rfl
              refine wpAny_take (i := 12) (v := ?_) rfl (by kernel_rfl) (by kernel_rfl) (by kernel_rfl) (fun _ _ _ h => h) (Or.inl ⟨by kernel_rfl, ?_⟩) ?_
              rotate_left
              · intro w; go_simp; try with_reducible rfl
              refine wpAny_ready (rs := [11, 13]) (by kernel_rfl) (by simp) ?_
              refine AllReady.cons rfl (fun K hK => ?_) (AllReady.cons rfl (fun K hK => ?_) AllReady.nil)
              · go_simp
                refine hK _ _ ?_
                clear hK K
                refine wpAny_ready (rs := [13]) (by kernel_rfl) (by simp) ?_
                refine AllReady.cons rfl (fun K hK => ?_) AllReady.nil
                go_simp
                refine hK _ _ ?_
                clear hK K
                refine wpAny_take (i := 14) (v := ?_) rfl (by kernel_rfl) (by kernel_rfl) (by kernel_rfl) (fun _ _ _ h => h) (Or.inl ⟨by kernel_rfl, ?_⟩) ?_
                rotate_left
                · intro w; go_simp; try with_reducible rfl
                refine wpAny_take (i := 15) (v := ?_) rfl (by kernel_rfl) (by kernel_rfl) (by kernel_rfl) (fun _ _ _ h => h) (Or.inl ⟨by kernel_rfl, ?_⟩) ?_
                rotate_left
                · intro w; go_simp; try with_reducible rfl
                refine wpAny_take (i := 16) (v := ?_) rfl (by kernel_rfl) (by kernel_rfl) (by kernel_rfl) (fun _ _ _ h => h) (Or.inl ⟨by kernel_rfl, ?_⟩) ?_
                rotate_left
                · intro w; go_simp; try with_reducible rfl
                refine wpAny_take (i := 17) (v := ?_) rfl (by kernel_rfl) (by kernel_rfl) (by kernel_rfl) (fun _ _ _ h => h) (Or.inl ⟨by kernel_rfl, ?_⟩) ?_
                rotate_left
                · intro w; go_simp; try with_reducible rfl
                refine wpAny_take (i := 18) (v := ?_) rfl (by kernel_rfl) (by kernel_rfl) (by kernel_rfl) (fun _ _ _ h => h) (Or.inl ⟨by kernel_rfl, ?_⟩) ?_
                rotate_left
                · intro w; go_simp; try with_reducible rfl
                refine wpAny_take (i := 19) (v := ?_) rfl (by kernel_rfl) (by kernel_rfl) (by kernel_rfl) (fun _ _ _ h => h) (Or.inl ⟨by kernel_rfl, ?_⟩) ?_
                rotate_left
                · intro w; go_simp; try with_reducible rfl
                refine wpAny_take (i := 20) (v := ?_) rfl (by kernel_rfl) (by kernel_rfl) (by kernel_rfl) (fun _ _ _ h => h) (Or.inl ⟨by kernel_rfl, ?_⟩) ?_
                rotate_left
                · intro w; go_simp; try with_reducible rfl
                refine wpAny_take (i := 21) (v := ?_) rfl (by kernel_rfl) (by kernel_rfl) (by kernel_rfl) (fun _ _ _ h => h) (Or.inl ⟨by kernel_rfl, ?_⟩) ?_
                rotate_left
                · intro w; go_simp; try with_reducible rfl
                refine wpAny_take (i := 23) (v := ?_) rfl (by kernel_rfl) (by kernel_rfl) (by kernel_rfl) (fun _ _ _ h => h) (Or.inl ⟨by kernel_rfl, ?_⟩) ?_
                rotate_left
                · intro w; go_simp; try with_reducible rfl
                refine wpAny_ready (rs := [22, 24]) (by kernel_rfl) (by simp) ?_
                refine AllReady.cons rfl (fun K hK => ?_) (AllReady.cons rfl (fun K hK => ?_) AllReady.nil)
                · go_simp
                  refine hK _ _ ?_
                  clear hK K
                  refine wpAny_ready (rs := [24]) (by kernel_rfl) (by simp) ?_
                  refine AllReady.cons rfl (fun K hK => ?_) AllReady.nil
                  go_simp
                  refine hK _ _ ?_
                  clear hK K
                  refine wpAny_ready (rs := [25]) (by kernel_rfl) (by simp) ?_
                  refine AllReady.cons rfl (fun K hK => ?_) AllReady.nil
                  go_simp
                  refine (C8.out us tyB o _).mono ?_
                  rintro e w6 ⟨rfl, hb6⟩
                  have B6 := Lib.hid ((Below.drew HNY.out).trans (hb6.mono HNY.out.size))
                  have X6 := Lib.hid (HX.out.drew.next hb6)
                  have D6 := Lib.hid (And.intro ((hb6.cell (p := ⟨b, off + j * 3, none⟩) hbl).trans d0d) (And.intro ((hb6.cell (p := ⟨b, off + j * 3 + 1, none⟩) hbl).trans d1d) ((hb6.cell (p := ⟨b, off + j * 3 + 2, none⟩) hbl).trans d2d)))
                  have F6 := Lib.hid ((Below.refl wr.heap.size wr).drew.trans (hb6.mono (Nat.le_refl _)))
                  clear hb6
                  go_wp2_with fail
                  refine wpAny_ready (rs := [26]) (by kernel_rfl) (by simp) ?_
                  refine AllReady.cons rfl (fun K hK => ?_) AllReady.nil
                  go_simp
                  refine (CH.out _ (H.out.next B6.out)).mono ?_
                  rintro e w7 ⟨rfl, hb7⟩
                  have B7 := Lib.hid (B6.out.trans (hb7.mono B6.out.size))
                  have X7 := Lib.hid (X6.out.next hb7)
                  have F7 := Lib.hid (F6.out.trans (hb7.mono F6.out.size))
                  have D7 := Lib.hid (And.intro ((hb7.cell (p := ⟨b, off + j * 3, none⟩) (Nat.lt_of_lt_of_le hbl F6.out.size)).trans D6.out.1) (And.intro ((hb7.cell (p := ⟨b, off + j * 3 + 1, none⟩) (Nat.lt_of_lt_of_le hbl F6.out.size)).trans D6.out.2.1) ((hb7.cell (p := ⟨b, off + j * 3 + 2, none⟩) (Nat.lt_of_lt_of_le hbl F6.out.size)).trans D6.out.2.2)))
                  clear hb7
                  go_wp2_with fail
                  refine wpAny_take (i := 27) (v := ?_) rfl (by kernel_rfl) (by kernel_rfl) (by kernel_rfl) (fun _ _ _ h => h) (Or.inl ⟨by kernel_rfl, ?_⟩) ?_
                  rotate_left
                  · intro w; go_simp; try with_reducible rfl
                  refine wpAny_done (by kernel_rfl) ?_ _
                  try simp only [Act.put, List.setIfInBounds_toArray, List.set_cons_zero, List.set_cons_succ, List.getElem_toArray, List.getElem_cons_zero, List.getElem_cons_succ]
                  have hq := sum_dj us s o
                  generalize hX0 : bs (jnW [wDj, us, s, o]) = X at hq
                  have HXL : Hid (jnW [wDj, us, s, o] = X.data.toList) := Lib.hid (by rw [← hX0]; rfl)
                  obtain ⟨k0, g0⟩ : ∃ k, sDj ++ us = k := ⟨_, rfl⟩
                  obtain ⟨k1, g1⟩ : ∃ k, k0 ++ sSp = k := ⟨_, rfl⟩
                  obtain ⟨k2, g2⟩ : ∃ k, k1 ++ s = k := ⟨_, rfl⟩
                  obtain ⟨k3, g3⟩ : ∃ k, k2 ++ sSp = k := ⟨_, rfl⟩
                  have y0 : k0.size ≤ 2097157 := by rw [← g0, ByteArray.size_append, show (sDj : ByteArray).size = 5 from rfl]; omega
                  have y1 : k1.size ≤ 2097158 := by rw [← g1, ByteArray.size_append, show (sSp : ByteArray).size = 1 from rfl]; omega
                  have y2 : k2.size ≤ 4194310 := by rw [← g2, ByteArray.size_append]; omega
                  have y3 : k3.size ≤ 4194311 := by rw [← g3, ByteArray.size_append, show (sSp : ByteArray).size = 1 from rfl]; omega
                  have a0 := addFactC (by rw [show (sDj : ByteArray).size = 5 from rfl]; omega) g0
                  have a1 := addFactC (by rw [show (sSp : ByteArray).size = 1 from rfl]; omega) g1
                  have a2 := addFactC (by omega) g2
                  have a3 := addFactC (by rw [show (sSp : ByteArray).size = 1 from rfl]; omega) g3
                  rw [g0, g1, g2, g3] at hq
                  have a4 := addFactC (by omega) hq
                  have P1 := Lib.hid (fun W (hW : Below wr.heap.size wr W) => specPut1 w.heap.size gx n' y' (putAllS [] (base ++ (g.take j).flatMap (classW g s o))) X W (OwnS.kept HQ.out.1 hW) HQ.out.2 (by omega) (Nat.le_trans HNY.out.size hW.size))
                  clear hq g0 g1 g2 g3 hX0 y0 y1 y2 y3 z0 z1 z2 z0d z1d z2d d0d d1d d2d X6 D6 B6 F6
                  obtain ⟨z0, z1, z2⟩ := X7.out.drew.cells
                  obtain ⟨d0, d1, d2⟩ := D7.out
                  have d0d : w7.drew.cell? ⟨b, off + j * 3, none⟩ = some (.string us) := d0
                  clear d0 d1 d2 D7
                  have hbl7 : b < w7.drew.heap.size := Nat.lt_of_lt_of_le hbl F7.out.size
                  go_wp2_with fail
                  go_region_held3 (fun w' => w'.cell? ⟨b, off + j * 3, none⟩ = some (.string us) ∧ w'.cell? ⟨tb, 0, none⟩ = some (.string s) ∧ w'.cell? ⟨tb, 2, none⟩ = some (.string o))
                    (first | go_keep | (have QX := (X7.out.drew.next hb8).cells; have QD := (hb8.cell (p := ⟨b, off + j * 3, none⟩) hbl7).trans d0d; with_reducible exact ⟨QD, QX.1, QX.2.2⟩))
                    (first | (go_at_call 58; refine (P1.out _ (F7.out.trans ((Below.refl w7.heap.size w7).drew.mono F7.out.size))).mono ?_; rintro e w8 ⟨g8, n8, y8, rfl, o8, l8, hb8⟩))
                  have B8 := (Below.drew B7.out).trans (hb8.mono B7.out.size)
                  have X8 := Lib.hid (X7.out.drew.next hb8)
                  have hn8 : n8 ≤ n + (j + 1) := by have := putS_len (putAllS [] (base ++ (g.take j).flatMap (classW g s o))) X.data.toList; have := HQ.out.2; omega
                  have HF : Hid (OwnS w.heap.size w8 (.slice (some ⟨g8, 0, none⟩) n8 y8) ((putAllS [] (base ++ (g.take (j + 1)).flatMap (classW g s o))).map bs) ∧ (putAllS [] (base ++ (g.take (j + 1)).flatMap (classW g s o))).length = n8) := Lib.hid (by
                    rw [HU.out, HV.out, ← List.append_assoc, putAllS_snoc, HXL.out]
                    exact ⟨o8, l8⟩)
                  clear o8 l8 hb8 HQ HX P1 HNY X7 F7 B7 z0 z1 z2 d0d a0 a1 a2 a3 a4
                  go_wp2_with fail
                  go_roundw
                  case rel => exact ⟨j + 1, by omega, by go_num, ⟨g8, n8, y8, rfl, hn8, HF⟩, X8, B8⟩
                  case measure => simp [intOf]; omega
                · go_simp
                  refine hK _ _ ?_
                  clear hK K
                  refine wpAny_ready (rs := [22]) (by kernel_rfl) (by simp) ?_
                  refine AllReady.cons rfl (fun K hK => ?_) AllReady.nil
                  go_simp
                  refine hK _ _ ?_
                  clear hK K
                  refine wpAny_ready (rs := [25]) (by kernel_rfl) (by simp) ?_
                  refine AllReady.cons rfl (fun K hK => ?_) AllReady.nil
                  go_simp
                  refine (C8.out us tyB o _).mono ?_
                  rintro e w6 ⟨rfl, hb6⟩
                  have B6 := Lib.hid ((Below.drew HNY.out).trans (hb6.mono HNY.out.size))
                  have X6 := Lib.hid (HX.out.drew.next hb6)
                  have D6 := Lib.hid (And.intro ((hb6.cell (p := ⟨b, off + j * 3, none⟩) hbl).trans d0d) (And.intro ((hb6.cell (p := ⟨b, off + j * 3 + 1, none⟩) hbl).trans d1d) ((hb6.cell (p := ⟨b, off + j * 3 + 2, none⟩) hbl).trans d2d)))
                  have F6 := Lib.hid ((Below.refl wr.heap.size wr).drew.trans (hb6.mono (Nat.le_refl _)))
                  clear hb6
                  go_wp2_with fail
                  refine wpAny_ready (rs := [26]) (by kernel_rfl) (by simp) ?_
                  refine AllReady.cons rfl (fun K hK => ?_) AllReady.nil
                  go_simp
                  refine (CH.out _ (H.out.next B6.out)).mono ?_
                  rintro e w7 ⟨rfl, hb7⟩
                  have B7 := Lib.hid (B6.out.trans (hb7.mono B6.out.size))
                  have X7 := Lib.hid (X6.out.next hb7)
                  have F7 := Lib.hid (F6.out.trans (hb7.mono F6.out.size))
                  have D7 := Lib.hid (And.intro ((hb7.cell (p := ⟨b, off + j * 3, none⟩) (Nat.lt_of_lt_of_le hbl F6.out.size)).trans D6.out.1) (And.intro ((hb7.cell (p := ⟨b, off + j * 3 + 1, none⟩) (Nat.lt_of_lt_of_le hbl F6.out.size)).trans D6.out.2.1) ((hb7.cell (p := ⟨b, off + j * 3 + 2, none⟩) (Nat.lt_of_lt_of_le hbl F6.out.size)).trans D6.out.2.2)))
                  clear hb7
                  go_wp2_with fail
                  refine wpAny_take (i := 27) (v := ?_) rfl (by kernel_rfl) (by kernel_rfl) (by kernel_rfl) (fun _ _ _ h => h) (Or.inl ⟨by kernel_rfl, ?_⟩) ?_
                  rotate_left
                  · intro w; go_simp; try with_reducible rfl
                  refine wpAny_done (by kernel_rfl) ?_ _
                  try simp only [Act.put, List.setIfInBounds_toArray, List.set_cons_zero, List.set_cons_succ, List.getElem_toArray, List.getElem_cons_zero, List.getElem_cons_succ]
                  have hq := sum_dj us s o
                  generalize hX0 : bs (jnW [wDj, us, s, o]) = X at hq
                  have HXL : Hid (jnW [wDj, us, s, o] = X.data.toList) := Lib.hid (by rw [← hX0]; rfl)
                  obtain ⟨k0, g0⟩ : ∃ k, sDj ++ us = k := ⟨_, rfl⟩
                  obtain ⟨k1, g1⟩ : ∃ k, k0 ++ sSp = k := ⟨_, rfl⟩
                  obtain ⟨k2, g2⟩ : ∃ k, k1 ++ s = k := ⟨_, rfl⟩
                  obtain ⟨k3, g3⟩ : ∃ k, k2 ++ sSp = k := ⟨_, rfl⟩
                  have y0 : k0.size ≤ 2097157 := by rw [← g0, ByteArray.size_append, show (sDj : ByteArray).size = 5 from rfl]; omega
                  have y1 : k1.size ≤ 2097158 := by rw [← g1, ByteArray.size_append, show (sSp : ByteArray).size = 1 from rfl]; omega
                  have y2 : k2.size ≤ 4194310 := by rw [← g2, ByteArray.size_append]; omega
                  have y3 : k3.size ≤ 4194311 := by rw [← g3, ByteArray.size_append, show (sSp : ByteArray).size = 1 from rfl]; omega
                  have a0 := addFactC (by rw [show (sDj : ByteArray).size = 5 from rfl]; omega) g0
                  have a1 := addFactC (by rw [show (sSp : ByteArray).size = 1 from rfl]; omega) g1
                  have a2 := addFactC (by omega) g2
                  have a3 := addFactC (by rw [show (sSp : ByteArray).size = 1 from rfl]; omega) g3
                  rw [g0, g1, g2, g3] at hq
                  have a4 := addFactC (by omega) hq
                  have P1 := Lib.hid (fun W (hW : Below wr.heap.size wr W) => specPut1 w.heap.size gx n' y' (putAllS [] (base ++ (g.take j).flatMap (classW g s o))) X W (OwnS.kept HQ.out.1 hW) HQ.out.2 (by omega) (Nat.le_trans HNY.out.size hW.size))
                  clear hq g0 g1 g2 g3 hX0 y0 y1 y2 y3 z0 z1 z2 z0d z1d z2d d0d d1d d2d X6 D6 B6 F6
                  obtain ⟨z0, z1, z2⟩ := X7.out.drew.cells
                  obtain ⟨d0, d1, d2⟩ := D7.out
                  have d0d : w7.drew.cell? ⟨b, off + j * 3, none⟩ = some (.string us) := d0
                  clear d0 d1 d2 D7
                  have hbl7 : b < w7.drew.heap.size := Nat.lt_of_lt_of_le hbl F7.out.size
                  go_wp2_with fail
                  go_region_held3 (fun w' => w'.cell? ⟨b, off + j * 3, none⟩ = some (.string us) ∧ w'.cell? ⟨tb, 0, none⟩ = some (.string s) ∧ w'.cell? ⟨tb, 2, none⟩ = some (.string o))
                    (first | go_keep | (have QX := (X7.out.drew.next hb8).cells; have QD := (hb8.cell (p := ⟨b, off + j * 3, none⟩) hbl7).trans d0d; with_reducible exact ⟨QD, QX.1, QX.2.2⟩))
                    (first | (go_at_call 58; refine (P1.out _ (F7.out.trans ((Below.refl w7.heap.size w7).drew.mono F7.out.size))).mono ?_; rintro e w8 ⟨g8, n8, y8, rfl, o8, l8, hb8⟩))
                  have B8 := (Below.drew B7.out).trans (hb8.mono B7.out.size)
                  have X8 := Lib.hid (X7.out.drew.next hb8)
                  have hn8 : n8 ≤ n + (j + 1) := by have := putS_len (putAllS [] (base ++ (g.take j).flatMap (classW g s o))) X.data.toList; have := HQ.out.2; omega
                  have HF : Hid (OwnS w.heap.size w8 (.slice (some ⟨g8, 0, none⟩) n8 y8) ((putAllS [] (base ++ (g.take (j + 1)).flatMap (classW g s o))).map bs) ∧ (putAllS [] (base ++ (g.take (j + 1)).flatMap (classW g s o))).length = n8) := Lib.hid (by
                    rw [HU.out, HV.out, ← List.append_assoc, putAllS_snoc, HXL.out]
                    exact ⟨o8, l8⟩)
                  clear o8 l8 hb8 HQ HX P1 HNY X7 F7 B7 z0 z1 z2 d0d a0 a1 a2 a3 a4
                  go_wp2_with fail
                  go_roundw
                  case rel => exact ⟨j + 1, by omega, by go_num, ⟨g8, n8, y8, rfl, hn8, HF⟩, X8, B8⟩
                  case measure => simp [intOf]; omega
              · go_simp
                refine hK _ _ ?_
                clear hK K
                refine wpAny_ready (rs := [11]) (by kernel_rfl) (by simp) ?_
                refine AllReady.cons rfl (fun K hK => ?_) AllReady.nil
                go_simp
                refine hK _ _ ?_
                clear hK K
                refine wpAny_take (i := 14) (v := ?_) rfl (by kernel_rfl) (by kernel_rfl) (by kernel_rfl) (fun _ _ _ h => h) (Or.inl ⟨by kernel_rfl, ?_⟩) ?_
                rotate_left
                · intro w; go_simp; try with_reducible rfl
                refine wpAny_take (i := 15) (v := ?_) rfl (by kernel_rfl) (by kernel_rfl) (by kernel_rfl) (fun _ _ _ h => h) (Or.inl ⟨by kernel_rfl, ?_⟩) ?_
                rotate_left
                · intro w; go_simp; try with_reducible rfl
                refine wpAny_take (i := 16) (v := ?_) rfl (by kernel_rfl) (by kernel_rfl) (by kernel_rfl) (fun _ _ _ h => h) (Or.inl ⟨by kernel_rfl, ?_⟩) ?_
                rotate_left
                · intro w; go_simp; try with_reducible rfl
                refine wpAny_take (i := 17) (v := ?_) rfl (by kernel_rfl) (by kernel_rfl) (by kernel_rfl) (fun _ _ _ h => h) (Or.inl ⟨by kernel_rfl, ?_⟩) ?_
                rotate_left
                · intro w; go_simp; try with_reducible rfl
                refine wpAny_take (i := 18) (v := ?_) rfl (by kernel_rfl) (by kernel_rfl) (by kernel_rfl) (fun _ _ _ h => h) (Or.inl ⟨by kernel_rfl, ?_⟩) ?_
                rotate_left
                · intro w; go_simp; try with_reducible rfl
                refine wpAny_take (i := 19) (v := ?_) rfl (by kernel_rfl) (by kernel_rfl) (by kernel_rfl) (fun _ _ _ h => h) (Or.inl ⟨by kernel_rfl, ?_⟩) ?_
                rotate_left
                · intro w; go_simp; try with_reducible rfl
                refine wpAny_take (i := 20) (v := ?_) rfl (by kernel_rfl) (by kernel_rfl) (by kernel_rfl) (fun _ _ _ h => h) (Or.inl ⟨by kernel_rfl, ?_⟩) ?_
                rotate_left
                · intro w; go_simp; try with_reducible rfl
                refine wpAny_take (i := 21) (v := ?_) rfl (by kernel_rfl) (by kernel_rfl) (by kernel_rfl) (fun _ _ _ h => h) (Or.inl ⟨by kernel_rfl, ?_⟩) ?_
                rotate_left
                · intro w; go_simp; try with_reducible rfl
                refine wpAny_take (i := 23) (v := ?_) rfl (by kernel_rfl) (by kernel_rfl) (by kernel_rfl) (fun _ _ _ h => h) (Or.inl ⟨by kernel_rfl, ?_⟩) ?_
                rotate_left
                · intro w; go_simp; try with_reducible rfl
                refine wpAny_ready (rs := [22, 24]) (by kernel_rfl) (by simp) ?_
                refine AllReady.cons rfl (fun K hK => ?_) (AllReady.cons rfl (fun K hK => ?_) AllReady.nil)
                · go_simp
                  refine hK _ _ ?_
                  clear hK K
                  refine wpAny_ready (rs := [24]) (by kernel_rfl) (by simp) ?_
                  refine AllReady.cons rfl (fun K hK => ?_) AllReady.nil
                  go_simp
                  refine hK _ _ ?_
                  clear hK K
                  refine wpAny_ready (rs := [25]) (by kernel_rfl) (by simp) ?_
                  refine AllReady.cons rfl (fun K hK => ?_) AllReady.nil
                  go_simp
                  refine (C8.out us tyB o _).mono ?_
                  rintro e w6 ⟨rfl, hb6⟩
                  have B6 := Lib.hid ((Below.drew HNY.out).trans (hb6.mono HNY.out.size))
                  have X6 := Lib.hid (HX.out.drew.next hb6)
                  have D6 := Lib.hid (And.intro ((hb6.cell (p := ⟨b, off + j * 3, none⟩) hbl).trans d0d) (And.intro ((hb6.cell (p := ⟨b, off + j * 3 + 1, none⟩) hbl).trans d1d) ((hb6.cell (p := ⟨b, off + j * 3 + 2, none⟩) hbl).trans d2d)))
                  have F6 := Lib.hid ((Below.refl wr.heap.size wr).drew.trans (hb6.mono (Nat.le_refl _)))
                  clear hb6
                  go_wp2_with fail
                  refine wpAny_ready (rs := [26]) (by kernel_rfl) (by simp) ?_
                  refine AllReady.cons rfl (fun K hK => ?_) AllReady.nil
                  go_simp
                  refine (CH.out _ (H.out.next B6.out)).mono ?_
                  rintro e w7 ⟨rfl, hb7⟩
                  have B7 := Lib.hid (B6.out.trans (hb7.mono B6.out.size))
                  have X7 := Lib.hid (X6.out.next hb7)
                  have F7 := Lib.hid (F6.out.trans (hb7.mono F6.out.size))
                  have D7 := Lib.hid (And.intro ((hb7.cell (p := ⟨b, off + j * 3, none⟩) (Nat.lt_of_lt_of_le hbl F6.out.size)).trans D6.out.1) (And.intro ((hb7.cell (p := ⟨b, off + j * 3 + 1, none⟩) (Nat.lt_of_lt_of_le hbl F6.out.size)).trans D6.out.2.1) ((hb7.cell (p := ⟨b, off + j * 3 + 2, none⟩) (Nat.lt_of_lt_of_le hbl F6.out.size)).trans D6.out.2.2)))
                  clear hb7
                  go_wp2_with fail
                  refine wpAny_take (i := 27) (v := ?_) rfl (by kernel_rfl) (by kernel_rfl) (by kernel_rfl) (fun _ _ _ h => h) (Or.inl ⟨by kernel_rfl, ?_⟩) ?_
                  rotate_left
                  · intro w; go_simp; try with_reducible rfl
                  refine wpAny_done (by kernel_rfl) ?_ _
                  try simp only [Act.put, List.setIfInBounds_toArray, List.set_cons_zero, List.set_cons_succ, List.getElem_toArray, List.getElem_cons_zero, List.getElem_cons_succ]
                  have hq := sum_dj us s o
                  generalize hX0 : bs (jnW [wDj, us, s, o]) = X at hq
                  have HXL : Hid (jnW [wDj, us, s, o] = X.data.toList) := Lib.hid (by rw [← hX0]; rfl)
                  obtain ⟨k0, g0⟩ : ∃ k, sDj ++ us = k := ⟨_, rfl⟩
                  obtain ⟨k1, g1⟩ : ∃ k, k0 ++ sSp = k := ⟨_, rfl⟩
                  obtain ⟨k2, g2⟩ : ∃ k, k1 ++ s = k := ⟨_, rfl⟩
                  obtain ⟨k3, g3⟩ : ∃ k, k2 ++ sSp = k := ⟨_, rfl⟩
                  have y0 : k0.size ≤ 2097157 := by rw [← g0, ByteArray.size_append, show (sDj : ByteArray).size = 5 from rfl]; omega
                  have y1 : k1.size ≤ 2097158 := by rw [← g1, ByteArray.size_append, show (sSp : ByteArray).size = 1 from rfl]; omega
                  have y2 : k2.size ≤ 4194310 := by rw [← g2, ByteArray.size_append]; omega
                  have y3 : k3.size ≤ 4194311 := by rw [← g3, ByteArray.size_append, show (sSp : ByteArray).size = 1 from rfl]; omega
                  have a0 := addFactC (by rw [show (sDj : ByteArray).size = 5 from rfl]; omega) g0
                  have a1 := addFactC (by rw [show (sSp : ByteArray).size = 1 from rfl]; omega) g1
                  have a2 := addFactC (by omega) g2
                  have a3 := addFactC (by rw [show (sSp : ByteArray).size = 1 from rfl]; omega) g3
                  rw [g0, g1, g2, g3] at hq
                  have a4 := addFactC (by omega) hq
                  have P1 := Lib.hid (fun W (hW : Below wr.heap.size wr W) => specPut1 w.heap.size gx n' y' (putAllS [] (base ++ (g.take j).flatMap (classW g s o))) X W (OwnS.kept HQ.out.1 hW) HQ.out.2 (by omega) (Nat.le_trans HNY.out.size hW.size))
                  clear hq g0 g1 g2 g3 hX0 y0 y1 y2 y3 z0 z1 z2 z0d z1d z2d d0d d1d d2d X6 D6 B6 F6
                  obtain ⟨z0, z1, z2⟩ := X7.out.drew.cells
                  obtain ⟨d0, d1, d2⟩ := D7.out
                  have d0d : w7.drew.cell? ⟨b, off + j * 3, none⟩ = some (.string us) := d0
                  clear d0 d1 d2 D7
                  have hbl7 : b < w7.drew.heap.size := Nat.lt_of_lt_of_le hbl F7.out.size
                  go_wp2_with fail
                  go_region_held3 (fun w' => w'.cell? ⟨b, off + j * 3, none⟩ = some (.string us) ∧ w'.cell? ⟨tb, 0, none⟩ = some (.string s) ∧ w'.cell? ⟨tb, 2, none⟩ = some (.string o))
                    (first | go_keep | (have QX := (X7.out.drew.next hb8).cells; have QD := (hb8.cell (p := ⟨b, off + j * 3, none⟩) hbl7).trans d0d; with_reducible exact ⟨QD, QX.1, QX.2.2⟩))
                    (first | (go_at_call 58; refine (P1.out _ (F7.out.trans ((Below.refl w7.heap.size w7).drew.mono F7.out.size))).mono ?_; rintro e w8 ⟨g8, n8, y8, rfl, o8, l8, hb8⟩))
                  have B8 := (Below.drew B7.out).trans (hb8.mono B7.out.size)
                  have X8 := Lib.hid (X7.out.drew.next hb8)
                  have hn8 : n8 ≤ n + (j + 1) := by have := putS_len (putAllS [] (base ++ (g.take j).flatMap (classW g s o))) X.data.toList; have := HQ.out.2; omega
                  have HF : Hid (OwnS w.heap.size w8 (.slice (some ⟨g8, 0, none⟩) n8 y8) ((putAllS [] (base ++ (g.take (j + 1)).flatMap (classW g s o))).map bs) ∧ (putAllS [] (base ++ (g.take (j + 1)).flatMap (classW g s o))).length = n8) := Lib.hid (by
                    rw [HU.out, HV.out, ← List.append_assoc, putAllS_snoc, HXL.out]
                    exact ⟨o8, l8⟩)
                  clear o8 l8 hb8 HQ HX P1 HNY X7 F7 B7 z0 z1 z2 d0d a0 a1 a2 a3 a4
                  go_wp2_with fail
                  go_roundw
                  case rel => exact ⟨j + 1, by omega, by go_num, ⟨g8, n8, y8, rfl, hn8, HF⟩, X8, B8⟩
                  case measure => simp [intOf]; omega
                · go_simp
                  refine hK _ _ ?_
                  clear hK K
                  refine wpAny_ready (rs := [22]) (by kernel_rfl) (by simp) ?_
                  refine AllReady.cons rfl (fun K hK => ?_) AllReady.nil
                  go_simp
                  refine hK _ _ ?_
                  clear hK K
                  refine wpAny_ready (rs := [25]) (by kernel_rfl) (by simp) ?_
                  refine AllReady.cons rfl (fun K hK => ?_) AllReady.nil
                  go_simp
                  refine (C8.out us tyB o _).mono ?_
                  rintro e w6 ⟨rfl, hb6⟩
                  have B6 := Lib.hid ((Below.drew HNY.out).trans (hb6.mono HNY.out.size))
                  have X6 := Lib.hid (HX.out.drew.next hb6)
                  have D6 := Lib.hid (And.intro ((hb6.cell (p := ⟨b, off + j * 3, none⟩) hbl).trans d0d) (And.intro ((hb6.cell (p := ⟨b, off + j * 3 + 1, none⟩) hbl).trans d1d) ((hb6.cell (p := ⟨b, off + j * 3 + 2, none⟩) hbl).trans d2d)))
                  have F6 := Lib.hid ((Below.refl wr.heap.size wr).drew.trans (hb6.mono (Nat.le_refl _)))
                  clear hb6
                  go_wp2_with fail
                  refine wpAny_ready (rs := [26]) (by kernel_rfl) (by simp) ?_
                  refine AllReady.cons rfl (fun K hK => ?_) AllReady.nil
                  go_simp
                  refine (CH.out _ (H.out.next B6.out)).mono ?_
                  rintro e w7 ⟨rfl, hb7⟩
                  have B7 := Lib.hid (B6.out.trans (hb7.mono B6.out.size))
                  have X7 := Lib.hid (X6.out.next hb7)
                  have F7 := Lib.hid (F6.out.trans (hb7.mono F6.out.size))
                  have D7 := Lib.hid (And.intro ((hb7.cell (p := ⟨b, off + j * 3, none⟩) (Nat.lt_of_lt_of_le hbl F6.out.size)).trans D6.out.1) (And.intro ((hb7.cell (p := ⟨b, off + j * 3 + 1, none⟩) (Nat.lt_of_lt_of_le hbl F6.out.size)).trans D6.out.2.1) ((hb7.cell (p := ⟨b, off + j * 3 + 2, none⟩) (Nat.lt_of_lt_of_le hbl F6.out.size)).trans D6.out.2.2)))
                  clear hb7
                  go_wp2_with fail
                  refine wpAny_take (i := 27) (v := ?_) rfl (by kernel_rfl) (by kernel_rfl) (by kernel_rfl) (fun _ _ _ h => h) (Or.inl ⟨by kernel_rfl, ?_⟩) ?_
                  rotate_left
                  · intro w; go_simp; try with_reducible rfl
                  refine wpAny_done (by kernel_rfl) ?_ _
                  try simp only [Act.put, List.setIfInBounds_toArray, List.set_cons_zero, List.set_cons_succ, List.getElem_toArray, List.getElem_cons_zero, List.getElem_cons_succ]
                  have hq := sum_dj us s o
                  generalize hX0 : bs (jnW [wDj, us, s, o]) = X at hq
                  have HXL : Hid (jnW [wDj, us, s, o] = X.data.toList) := Lib.hid (by rw [← hX0]; rfl)
                  obtain ⟨k0, g0⟩ : ∃ k, sDj ++ us = k := ⟨_, rfl⟩
                  obtain ⟨k1, g1⟩ : ∃ k, k0 ++ sSp = k := ⟨_, rfl⟩
                  obtain ⟨k2, g2⟩ : ∃ k, k1 ++ s = k := ⟨_, rfl⟩
                  obtain ⟨k3, g3⟩ : ∃ k, k2 ++ sSp = k := ⟨_, rfl⟩
                  have y0 : k0.size ≤ 2097157 := by rw [← g0, ByteArray.size_append, show (sDj : ByteArray).size = 5 from rfl]; omega
                  have y1 : k1.size ≤ 2097158 := by rw [← g1, ByteArray.size_append, show (sSp : ByteArray).size = 1 from rfl]; omega
                  have y2 : k2.size ≤ 4194310 := by rw [← g2, ByteArray.size_append]; omega
                  have y3 : k3.size ≤ 4194311 := by rw [← g3, ByteArray.size_append, show (sSp : ByteArray).size = 1 from rfl]; omega
                  have a0 := addFactC (by rw [show (sDj : ByteArray).size = 5 from rfl]; omega) g0
                  have a1 := addFactC (by rw [show (sSp : ByteArray).size = 1 from rfl]; omega) g1
                  have a2 := addFactC (by omega) g2
                  have a3 := addFactC (by rw [show (sSp : ByteArray).size = 1 from rfl]; omega) g3
                  rw [g0, g1, g2, g3] at hq
                  have a4 := addFactC (by omega) hq
                  have P1 := Lib.hid (fun W (hW : Below wr.heap.size wr W) => specPut1 w.heap.size gx n' y' (putAllS [] (base ++ (g.take j).flatMap (classW g s o))) X W (OwnS.kept HQ.out.1 hW) HQ.out.2 (by omega) (Nat.le_trans HNY.out.size hW.size))
                  clear hq g0 g1 g2 g3 hX0 y0 y1 y2 y3 z0 z1 z2 z0d z1d z2d d0d d1d d2d X6 D6 B6 F6
                  obtain ⟨z0, z1, z2⟩ := X7.out.drew.cells
                  obtain ⟨d0, d1, d2⟩ := D7.out
                  have d0d : w7.drew.cell? ⟨b, off + j * 3, none⟩ = some (.string us) := d0
                  clear d0 d1 d2 D7
                  have hbl7 : b < w7.drew.heap.size := Nat.lt_of_lt_of_le hbl F7.out.size
                  go_wp2_with fail
                  go_region_held3 (fun w' => w'.cell? ⟨b, off + j * 3, none⟩ = some (.string us) ∧ w'.cell? ⟨tb, 0, none⟩ = some (.string s) ∧ w'.cell? ⟨tb, 2, none⟩ = some (.string o))
                    (first | go_keep | (have QX := (X7.out.drew.next hb8).cells; have QD := (hb8.cell (p := ⟨b, off + j * 3, none⟩) hbl7).trans d0d; with_reducible exact ⟨QD, QX.1, QX.2.2⟩))
                    (first | (go_at_call 58; refine (P1.out _ (F7.out.trans ((Below.refl w7.heap.size w7).drew.mono F7.out.size))).mono ?_; rintro e w8 ⟨g8, n8, y8, rfl, o8, l8, hb8⟩))
                  have B8 := (Below.drew B7.out).trans (hb8.mono B7.out.size)
                  have X8 := Lib.hid (X7.out.drew.next hb8)
                  have hn8 : n8 ≤ n + (j + 1) := by have := putS_len (putAllS [] (base ++ (g.take j).flatMap (classW g s o))) X.data.toList; have := HQ.out.2; omega
                  have HF : Hid (OwnS w.heap.size w8 (.slice (some ⟨g8, 0, none⟩) n8 y8) ((putAllS [] (base ++ (g.take (j + 1)).flatMap (classW g s o))).map bs) ∧ (putAllS [] (base ++ (g.take (j + 1)).flatMap (classW g s o))).length = n8) := Lib.hid (by
                    rw [HU.out, HV.out, ← List.append_assoc, putAllS_snoc, HXL.out]
                    exact ⟨o8, l8⟩)
                  clear o8 l8 hb8 HQ HX P1 HNY X7 F7 B7 z0 z1 z2 d0d a0 a1 a2 a3 a4
                  go_wp2_with fail
                  go_roundw
                  case rel => exact ⟨j + 1, by omega, by go_num, ⟨g8, n8, y8, rfl, hn8, HF⟩, X8, B8⟩
                  case measure => simp [intOf]; omega
          · obtain rfl : j = len := by omega
            have HF : Hid (OwnS w.heap.size wr (.slice (some ⟨gx, 0, none⟩) n' y') ((putAllS [] ((g.take (k + 1)).flatMap (clashW g))).map bs) ∧ (putAllS [] ((g.take (k + 1)).flatMap (clashW g))).length = n') := Lib.hid (by
              have := HQ.out
              rw [List.take_of_length_le (by rw [HL.out]; exact Nat.le_refl _)] at this
              rw [HT.out, HW.out]; exact this)
            clear HQ HX
            go_wp2_with fail
            go_roundw
            case rel => exact ⟨k + 1, by omega, by go_num, ⟨gx, n', y', rfl, HF⟩, hny⟩
            case measure => simp [intOf]; omega
      · have e3 := lit_not [60, 100, 105, 115, 106, 62] hdj
        have STAY : clashW g (s, p, o) = [] → Hid (OwnS w.heap.size (wr.alloc (.cells #[.string s, .string p, .string o] 26)) (.slice (some ⟨x, 0, none⟩) n y) ((putAllS [] ((g.take (k + 1)).flatMap (clashW g))).map bs) ∧ (putAllS [] ((g.take (k + 1)).flatMap (clashW g))).length = n) := fun hc => Lib.hid (by
          rw [HT.out, hc, List.append_nil]
          exact ⟨HO2.out, HLB.out⟩)
        have MORE : ∀ (X : ByteArray) (W : World), Below (wr.alloc (.cells #[.string s, .string p, .string o] 26)).heap.size (wr.alloc (.cells #[.string s, .string p, .string o] 26)) W → Calls Try.prog 58 #[.slice (some ⟨x, 0, none⟩) n y, .string X] W fun e w' => ∃ g' n' c', e = .returned (.slice (some ⟨g', 0, none⟩) n' c') ∧ (clashW g (s, p, o) = [X.data.toList] → Hid (OwnS w.heap.size w' (.slice (some ⟨g', 0, none⟩) n' c') ((putAllS [] ((g.take (k + 1)).flatMap (clashW g))).map bs) ∧ (putAllS [] ((g.take (k + 1)).flatMap (clashW g))).length = n')) ∧ Below W.heap.size W w' := fun X W hW =>
          (specPut1 w.heap.size x n y (putAllS [] base) X W (OwnS.kept HO2.out hW) HLB.out (by omega) (Nat.le_trans B2h.out.size hW.size)).mono (by
            rintro e w' ⟨g', n', c', rfl, h1, h2, h3⟩
            refine ⟨g', n', c', rfl, fun hc => Lib.hid ?_, h3⟩
            rw [HT.out, hc, putAllS_snoc]
            exact ⟨h1, h2⟩)
        have HMORE := Lib.hid MORE
        clear MORE HO2
        have C8 := Lib.hid spec8T
        have CH := Lib.hid (fun W hi => specHas2 (some ⟨b, off, none⟩) len cap g s diB o W hi (by omega))
        by_cases h1 : p = tyB
        · subst h1
          have e1 := lit_is [60, 116, 121, 112, 101, 62] (rfl : tyB = bs _)
          have e2 := lit_not [60, 115, 97, 109, 101, 62] ne_ty_sa
          by_cases h2 : o = noB
          · subst h2
            have e4 := lit_is [60, 110, 111, 116, 104, 105, 110, 103, 62] (rfl : noB = bs _)
            have HW : Hid (clashW g (s, tyB, noB) = [(bs (jnW [wNo, s])).data.toList]) := Lib.hid (by unfold clashW; rw [if_pos rfl, if_pos rfl]; rfl)
            have hq := sum_no s
            generalize bs (jnW [wNo, s]) = X at hq HW
            have a0 := addFactC (a := sNo) (by rw [show (sNo : ByteArray).size = 8 from rfl]; omega) hq
            clear STAY hq
            go_wp2_with fail
            refine (HMORE.out X _ (Below.refl _ _)).mono ?_
            rintro e wz ⟨gz, nz, yz, rfl, hf, hbz⟩
            have HF := hf HW.out
            have BF := Lib.hid ((B2h.out).trans (hbz.mono (B2h.out).size))
            have TZ := Lib.hid ((T0h.out).next hbz)
            clear hf hbz c0 c1 c2 d0 d1 d2
            obtain ⟨z0, z1, z2⟩ := TZ.out.cells
            go_wp2_with fail
            go_loopw [4, 7] (fun o i w5 => o = .slice (some ⟨gz, 0, none⟩) nz yz ∧ i = .int .i64 0 ∧ w5 = wz) (fun _ _ _ => 0)
            case atStart => exact ⟨rfl, rfl, rfl⟩
            case round =>
              obtain ⟨rfl, rfl, rfl⟩ := hrel
              go_wp2_with fail
              go_roundw
              case rel => exact ⟨k + 1, by omega, by go_num, ⟨gz, nz, yz, rfl, HF⟩, BF.out⟩
              case measure => simp [intOf]; omega
          · have e4 := lit_not [60, 110, 111, 116, 104, 105, 110, 103, 62] h2
            have HF := STAY (by unfold clashW; rw [if_pos rfl, if_neg h2])
            have BF := B2h
            have TZ := T0h
            clear STAY HMORE B2h T0h
            go_wp2_with fail
            clear c0 c1 c2 d0 d1 d2
            generalize wr.alloc (.cells #[.string s, .string tyB, .string o] 26) = wz at HF BF TZ ⊢
            obtain ⟨z0, z1, z2⟩ := TZ.out.cells
            go_loopw [4, 7] (fun o i w5 => o = .slice (some ⟨x, 0, none⟩) n y ∧ i = .int .i64 0 ∧ w5 = wz) (fun _ _ _ => 0)
            case atStart => exact ⟨rfl, rfl, rfl⟩
            case round =>
              obtain ⟨rfl, rfl, rfl⟩ := hrel
              go_wp2_with fail
              go_roundw
              case rel => exact ⟨k + 1, by omega, by go_num, ⟨x, n, y, rfl, HF⟩, BF.out⟩
              case measure => simp [intOf]; omega
        · have e1 := lit_not [60, 116, 121, 112, 101, 62] h1
          by_cases h2 : p = saB
          · subst h2
            have e2 := lit_is [60, 115, 97, 109, 101, 62] (rfl : saB = bs _)
            go_wp2_with fail
            refine (C8.out s diB o _).mono ?_
            rintro e w5 ⟨rfl, hb5⟩
            have T5 := T0h.out.next hb5
            have F5 := hb5
            have B5 := B2h.out.trans (hb5.mono B2h.out.size)
            clear hb5 c0 c1 c2
            obtain ⟨c0, c1, c2⟩ := T5.cells
            go_wp2_with fail
            refine (CH.out _ (H.out.next B5)).mono ?_
            rintro e w6 ⟨rfl, hb6⟩
            have T6 := T5.next hb6
            have F6 := F5.trans (hb6.mono F5.size)
            have B6 := B5.trans (hb6.mono B5.size)
            clear hb6 c0 c1 c2 d0 d1 d2 T5 F5 B5 CH C8
            obtain ⟨c0, c1, c2⟩ := T6.cells
            by_cases h3 : (s, diB, o) ∈ g
            · have HD : Hid (decide ((s, diB, o) ∈ g) = true) := Lib.hid (decide_eq_true h3)
              rw [HD.out]
              have HW : Hid (clashW g (s, saB, o) = [(bs (jnW [wSa, s, o])).data.toList]) := Lib.hid (by unfold clashW; rw [if_neg h1, if_pos rfl, if_pos h3]; rfl)
              have hq := sum_sa s o
              generalize bs (jnW [wSa, s, o]) = X at hq HW
              obtain ⟨k0, g0⟩ : ∃ k, sSa ++ s = k := ⟨_, rfl⟩
              obtain ⟨k1, g1⟩ : ∃ k, k0 ++ sSp = k := ⟨_, rfl⟩
              have z0 : k0.size ≤ 2097157 := by rw [← g0, ByteArray.size_append, show (sSa : ByteArray).size = 5 from rfl]; omega
              have z1 : k1.size ≤ 2097158 := by rw [← g1, ByteArray.size_append, show (sSp : ByteArray).size = 1 from rfl]; omega
              have a0 := addFactC (by rw [show (sSa : ByteArray).size = 5 from rfl]; omega) g0
              have a1 := addFactC (by rw [show (sSp : ByteArray).size = 1 from rfl]; omega) g1
              rw [g0, g1] at hq
              have a2 := addFactC (by omega) hq
              clear hq g0 g1 STAY h3 HD z0 z1
              go_wp2_with fail
              refine (HMORE.out X _ F6).mono ?_
              rintro e wz ⟨gz, nz, yz, rfl, hf, hbz⟩
              have HF := hf HW.out
              have BF := Lib.hid ((B6).trans (hbz.mono (B6).size))
              have TZ := Lib.hid ((T6).next hbz)
              clear hf hbz c0 c1 c2
              obtain ⟨z0, z1, z2⟩ := TZ.out.cells
              go_wp2_with fail
              go_loopw [4, 7] (fun o i w5 => o = .slice (some ⟨gz, 0, none⟩) nz yz ∧ i = .int .i64 0 ∧ w5 = wz) (fun _ _ _ => 0)
              case atStart => exact ⟨rfl, rfl, rfl⟩
              case round =>
                obtain ⟨rfl, rfl, rfl⟩ := hrel
                go_wp2_with fail
                go_roundw
                case rel => exact ⟨k + 1, by omega, by go_num, ⟨gz, nz, yz, rfl, HF⟩, BF.out⟩
                case measure => simp [intOf]; omega
            · have HD : Hid (decide ((s, diB, o) ∈ g) = false) := Lib.hid (decide_eq_false h3)
              rw [HD.out]
              have HF0 := STAY (by unfold clashW; rw [if_neg h1, if_pos rfl, if_neg h3])
              have HF : Hid (OwnS w.heap.size w6 (.slice (some ⟨x, 0, none⟩) n y) ((putAllS [] ((g.take (k + 1)).flatMap (clashW g))).map bs) ∧ (putAllS [] ((g.take (k + 1)).flatMap (clashW g))).length = n) := Lib.hid ⟨OwnS.kept HF0.out.1 F6, HF0.out.2⟩
              have BF := Lib.hid B6
              have TZ := Lib.hid T6
              clear STAY HF0 HMORE B2h T0h h3 HD
              go_wp2_with fail
              clear c0 c1 c2 T6 B6 F6
              obtain ⟨z0, z1, z2⟩ := TZ.out.cells
              go_loopw [4, 7] (fun o i w5 => o = .slice (some ⟨x, 0, none⟩) n y ∧ i = .int .i64 0 ∧ w5 = w6) (fun _ _ _ => 0)
              case atStart => exact ⟨rfl, rfl, rfl⟩
              case round =>
                obtain ⟨rfl, rfl, rfl⟩ := hrel
                go_wp2_with fail
                go_roundw
                case rel => exact ⟨k + 1, by omega, by go_num, ⟨x, n, y, rfl, HF⟩, BF.out⟩
                case measure => simp [intOf]; omega
          · have e2 := lit_not [60, 115, 97, 109, 101, 62] h2
            have HF := STAY (by unfold clashW; rw [if_neg h1, if_neg h2, if_neg hdj])
            have BF := B2h
            have TZ := T0h
            clear STAY HMORE B2h T0h
            go_wp2_with fail
            clear c0 c1 c2 d0 d1 d2
            generalize wr.alloc (.cells #[.string s, .string p, .string o] 26) = wz at HF BF TZ ⊢
            obtain ⟨z0, z1, z2⟩ := TZ.out.cells
            go_loopw [4, 7] (fun o i w5 => o = .slice (some ⟨x, 0, none⟩) n y ∧ i = .int .i64 0 ∧ w5 = wz) (fun _ _ _ => 0)
            case atStart => exact ⟨rfl, rfl, rfl⟩
            case round =>
              obtain ⟨rfl, rfl, rfl⟩ := hrel
              go_wp2_with fail
              go_roundw
              case rel => exact ⟨k + 1, by omega, by go_num, ⟨x, n, y, rfl, HF⟩, BF.out⟩
              case measure => simp [intOf]; omega
    · obtain rfl : k = len := by omega
      have HF : Hid (OwnS w.heap.size wr (.slice (some ⟨x, 0, none⟩) n y) ((putAllS [] (g.flatMap (clashW g))).map bs)) := Lib.hid (by
        have := HQ.out.1
        rwa [List.take_of_length_le (by rw [HL.out]; exact Nat.le_refl _)] at this)
      clear HQ
      go_wp2_with fail
      go_ret2
      exact ⟨_, rfl, by simpa using HF.out, hnx⟩
end Go.Proofs.Ytmklnkogmidkdaa
