/- Rows in order, with one more: the specification's own. -/
import Derived.Test.YtnmoobahchlliaaJExactProjected28
import Derived.Test.YtnmoobahchlliaaJExactProjected24
import Derived.Laws.AppendOwnNone
import Derived.Test.YtnmoobahchlliaaJExactProjected21
namespace Go.Proofs.Ytnmoobahchlliaa
open Go.RowKit Go.WideShapes Go.Maps
/-- A slice of the call's own whose cells are the handles of these rows. -/
def OutI (B : Nat) (w : World) (v : Value) (rs : List RowV) (us : List Value) : Prop :=
  w.ownsRow B 56 1 v rs.length us ∧ us.length = rs.length ∧ (∀ (i : Nat) (u : Value) (r : RowV), us[i]? = some u → rs[i]? = some r → RowIn w u r)
theorem RowIn.lt {w : World} {u : Value} {r : RowV} (h : RowIn w u r) (hr : 0 < r.length) : ∀ j, u.ownBlock = some j → j < w.heap.size := by
  obtain ⟨a, n, c, rfl, hz⟩ := h
  have hl := hz.len
  obtain ⟨b, off, rfl, hb, _⟩ := hz.cells (by omega)
  intro j hj
  simp [Value.ownBlock] at hj
  omega
theorem RowIn.one {w : World} {u : Value} {r : RowV} (h : RowIn w u r) : u.oneCell' = true := by
  obtain ⟨a, n, c, rfl, _⟩ := h
  rfl
theorem IsPres.keptAt {w w' : World} {row : Option Nat} {a : Option Addr} {len cap : Nat} {ts : List Pre2} (h : IsPres w a len cap ts) (hg : w.grownBy w' row) (hne : 0 < len → ∀ x, a = some x → some x.block ≠ row) : IsPres w' a len cap ts := by
  rcases h with h | ⟨x, rfl, h1, h2, h3, h4⟩
  · exact .inl h
  · refine .inr ⟨x, rfl, h1, h2, h3, fun i t hi => ?_⟩
    have hn := hne (by have := (List.getElem?_eq_some_iff.1 hi).1; omega) x rfl
    obtain ⟨c0, c1, w0, w1⟩ := h4 i t hi
    have e : ∀ j, (x.add j).block = x.block := fun j => by unfold Addr.add; split <;> rfl
    exact ⟨hg.cell c0 (by rw [e]; exact hn), hg.cell c1 (by rw [e]; exact hn), w0, w1⟩
theorem RowIn.kept {w w' : World} {row : Option Nat} {u : Value} {r : RowV} (h : RowIn w u r) (hg : w.grownBy w' row) (hne : ∀ j, u.ownBlock = some j → some j ≠ row) : RowIn w' u r := by
  obtain ⟨a, n, c, rfl, hz⟩ := h
  exact ⟨a, n, c, rfl, hz.keptAt hg (fun _ x hx => hne _ (by subst hx; rfl))⟩
theorem OutI.is {B : Nat} {w : World} {v : Value} {rs : List RowV} {us : List Value} (h : OutI B w v rs us) : ∃ a cap, v = .slice a rs.length cap ∧ IsRows w a rs.length cap rs := by
  obtain ⟨ho, hl, hi⟩ := h
  have h0 := ho
  obtain ⟨_, hc⟩ := ho
  rcases hc with ⟨rfl, hl0⟩ | ⟨g, cap, cur, rfl, _, _, h1, h2, _⟩
  · exact ⟨none, 0, by rw [hl0], .inl ⟨rfl, hl0, rfl, List.length_eq_zero_iff.1 hl0⟩⟩
  · refine ⟨_, cap, rfl, .inr ⟨_, rfl, h1, h2, rfl, fun i r hr => ?_⟩⟩
    have hil : i < rs.length := (List.getElem?_eq_some_iff.1 hr).1
    have hu : us[i]? = some (us[i]'(by omega)) := List.getElem?_eq_getElem _
    obtain ⟨a', n', c', ev, ii⟩ := hi i _ r hu hr
    refine ⟨a', n', c', ?_, ii⟩
    rw [add_plain, Nat.zero_add]
    exact (h0.cellAt i (by omega)).trans (by rw [hu, ev])
theorem OutI.next {B : Nat} {w w' : World} {v : Value} {rs : List RowV} {us : List Value} (h : OutI B w v rs us) (hb : Below w.heap.size w w') : OutI B w' v rs us := by
  obtain ⟨ho, hl, hi⟩ := h
  refine ⟨ho.kept (grown_of_below hb) (by
    rcases hv : v.ownBlock with _ | i
    · exact .inl rfl
    · exact .inr (by simp)), hl, fun i u r hu hr => (hi i u r hu hr).next hb⟩
theorem OutI.base {B C : Nat} {w : World} {v : Value} {rs : List RowV} {us : List Value} (h : OutI B w v rs us) (hc : C ≤ B) : OutI C w v rs us := by
  obtain ⟨⟨h1, h2⟩, h3⟩ := h
  refine ⟨⟨h1, ?_⟩, h3⟩
  rcases h2 with h2 | ⟨g, cap, cur, e, hB, r⟩
  · exact .inl h2
  · exact .inr ⟨g, cap, cur, e, Nat.le_trans hc hB, r⟩
theorem own_some {B : Nat} {w : World} {v : Value} {n : Nat} {us : List Value} (h : w.ownsRow B 56 1 v n us) (h0 : 0 < n) : ∃ g c, v = .slice (some ⟨g, 0, none⟩) n c := by
  rcases h.2 with ⟨_, e⟩ | ⟨g, c, cur, rfl, _⟩
  · omega
  · exact ⟨g, c, rfl⟩
/-- Handles in a row, each of its row: what is taken of them, and one more among them. -/
theorem ins_at {α : Type} {xs : List α} {x y : α} {k i : Nat} (hk : k ≤ xs.length) (h : ((xs.take k ++ [x]) ++ xs.drop k)[i]? = some y) : (i < k ∧ xs[i]? = some y) ∨ (i = k ∧ y = x) ∨ (k < i ∧ xs[i - 1]? = some y) := by
  have hl : (xs.take k ++ [x]).length = k + 1 := by simp [List.length_take]; omega
  rcases Nat.lt_trichotomy i k with g | g | g
  · rw [List.getElem?_append_left (by omega), List.getElem?_append_left (by rw [List.length_take]; omega), List.getElem?_take_of_lt g] at h
    exact .inl ⟨g, h⟩
  · subst g
    rw [List.getElem?_append_left (by omega), List.getElem?_append_right (by rw [List.length_take]; omega)] at h
    have e : i - (xs.take i).length = 0 := by rw [List.length_take]; omega
    rw [e] at h
    simp at h
    exact .inr (.inl ⟨rfl, h.symm⟩)
  · rw [List.getElem?_append_right (by omega), List.getElem?_drop, hl] at h
    have e : k + (i - (k + 1)) = i - 1 := by omega
    rw [e] at h
    exact .inr (.inr ⟨g, h⟩)
theorem OutI.ins {B k n : Nat} {w : World} {v u : Value} {L : List RowV} {us : List Value} {r : RowV} (hn : L.length = n) (hl : us.length = n) (hk : k ≤ n) (ho : w.ownsRow B 56 1 v (n + 1) ((us.take k ++ [u]) ++ us.drop k))
    (hi : ∀ (i : Nat) (u : Value) (r : RowV), us[i]? = some u → L[i]? = some r → RowIn w u r) (hu : RowIn w u r) : OutI B w v ((L.take k ++ [r]) ++ L.drop k) ((us.take k ++ [u]) ++ us.drop k) := by
  have e : ((L.take k ++ [r]) ++ L.drop k).length = n + 1 := by simp [List.length_take]; omega
  refine ⟨by rw [e]; exact ho, by simp [List.length_take]; omega, fun i x s hx hs => ?_⟩
  rcases ins_at (by omega) hx with ⟨g, hx⟩ | ⟨g, rfl⟩ | ⟨g, hx⟩
  all_goals rcases ins_at (by omega) hs with ⟨g', hs⟩ | ⟨g', rfl⟩ | ⟨g', hs⟩
  all_goals first | omega | exact hu | exact hi _ _ _ hx hs
set_option maxRecDepth 100000 in
set_option maxHeartbeats 6400000 in
theorem specAdd (B g n c : Nat) (L : List RowV) (us : List Value) (a : Option Addr) (len cap : Nat) (r : RowV) (w : World) (h : OutI B w (.slice (some ⟨g, 0, none⟩) n c) L us) (hn : L.length = n) (hl : n ≤ 1048576) (hB : B ≤ w.heap.size)
    (hr : IsPres w a len cap r) (hlr : len ≤ 1048576) (hL : LongR L) (hrL : (rowTextL r).length ≤ 140737488355328) :
    Calls Try.prog 35 #[.slice (some ⟨g, 0, none⟩) n c, .slice a len cap] w fun e w' => ∃ g' n' c' us', e = .returned (.slice (some ⟨g', 0, none⟩) n' c') ∧ OutI B w' (.slice (some ⟨g', 0, none⟩) n' c') (addR L r) us' ∧ (addR L r).length = n' ∧ Below w.heap.size w w' := by
  obtain ⟨i0, hi, hz0, hz1, hz2⟩ := info_parts infoRow
  obtain ⟨j0, hj, hy0, hy1, hy2⟩ := info_parts infoPair
  have hgw : g < w.heap.size := (World.ownsRow.lt h.1 g (by simp [Value.ownBlock])).2
  have hnc : n ≤ c := by
    rcases h.1.2 with ⟨e, _⟩ | ⟨_, _, _, e, _, _, h1, _⟩
    · cases e
    · cases e; rw [hn] at h1; exact h1
  have hul : us.length = n := by rw [h.2.1, hn]
  have HC : Hid (∀ (j : Nat) (u : Value), us[j]? = some u → w.cell? ⟨g, j, none⟩ = some u) := Lib.hid (fun j u hj => by
    have hjl := (List.getElem?_eq_some_iff.1 hj).1
    have h1 := h.1
    rw [hn] at h1
    rw [World.ownsRow.cellAt h1 j (by omega)]; exact hj)
  have HIN : Hid (∀ (i : Nat) (u : Value) (r : RowV), us[i]? = some u → L[i]? = some r → RowIn w u r) := Lib.hid h.2.2
  have HONE : Hid (∀ u ∈ us, u.oneCell' = true) := Lib.hid (fun u hu => by
    obtain ⟨i, hi⟩ := List.mem_iff_getElem?.1 hu
    exact (h.2.2 i u _ hi (List.getElem?_eq_getElem (by have := (List.getElem?_eq_some_iff.1 hi).1; omega))).one)
  have C1 := Lib.hid (specRowText a len cap r w hr hrL)
  have HL := Lib.hid hn
  have HUL := Lib.hid hul
  have HLL := Lib.hid hL
  have HR := Lib.hid hr
  clear h hn hul hL hr
  go_enter Try.func35, Try.ntmps35
  go_wp2_with fail
  refine C1.out.mono ?_
  rintro e w1 ⟨rfl, hb1⟩
  clear C1
  obtain ⟨ky, hky⟩ : ∃ y, bs (rowTextL r) = y := ⟨_, rfl⟩
  rw [hky]
  have HKY : Hid (ky.toList = rowTextL r) := Lib.hid (by rw [← hky]; exact bs_list _)
  obtain ⟨rk, hrk⟩ : ∃ y, rowTextL r = y := ⟨_, rfl⟩
  have HRK := Lib.hid hrk
  rw [hrk] at HKY
  clear hky hrk hrL
  obtain ⟨K, hK⟩ : ∃ K, L.map rowTextL = K := ⟨_, rfl⟩
  have HKL : Hid (K.length = n) := Lib.hid (by rw [← hK, List.length_map, HL.out])
  have HK := Lib.hid hK
  clear hK
  go_wp2_with fail
  go_loopw [6] (fun i wr => ∃ k : Nat, k ≤ n ∧ i = .int .i64 k ∧ Hid (∀ i u, i < k → K[i]? = some u → lessS u rk = true) ∧ Below w.heap.size w wr) (fun i _ => n - (intOf i).toNat)
  case atStart => exact ⟨0, Nat.zero_le _, rfl, Lib.hid (fun i u hi => by omega), hb1⟩
  case round =>
    obtain ⟨k, hk, rfl, hah, hnx⟩ := hrel
    clear hb1
    have hk6 : (0 : Int) ≤ (k : Int) := by omega
    by_cases hlt : k < n
    case' pos =>
      have hu : L[k]? = some (L[k]'(by have := HL.out; omega)) := List.getElem?_eq_getElem _
      have hv : us[k]? = some (us[k]'(by have := HUL.out; omega)) := List.getElem?_eq_getElem _
      have c0 := HC.out k _ hv
      rw [← hnx.cell (p := ⟨g, _, none⟩) hgw] at c0
      obtain ⟨a1, n1, c1, he1, hz⟩ := (HIN.out k _ _ hv hu).next hnx
      rw [he1] at c0
      have hll := HLL.out _ (List.getElem_mem (by have := HL.out; omega : k < L.length))
      have hKk : K[k]? = some (rowTextL (L[k]'(by have := HL.out; omega))) := by rw [← HK.out, List.getElem?_map, hu]; rfl
      generalize L[k]'(by have := HL.out; omega) = s at hu hz hll hKk
      have E := Lib.hid (fun W (h : Below wr.heap.size wr W) => specRowText a1 n1 c1 s W (hz.next h) hll)
      have hbl : Op.bytesLess (bs (rowTextL s)).toList ky.toList = lessS (rowTextL s) rk := by unfold lessS; rw [bs_list, HKY.out]
      have HU := Lib.hid hKk
      have hk7 : (k : Int) < (n : Int) := by omega
      clear hz hll hu hv he1 hKk
      generalize rowTextL s = sk at hbl HU E
      generalize bs sk = sb at hbl E
      go_wp2_with fail
      refine (E.out _ (by first | exact Below.refl _ _ | exact Below.drew (Below.refl _ _))).mono ?_
      rintro e w2 ⟨rfl, hb2⟩
      have B2 := hnx.trans (hb2.mono hnx.size)
      clear hnx hb2 E c0
      cases hq : lessS sk rk
      case' true =>
        have HN : Hid (∀ i u, i < k + 1 → K[i]? = some u → lessS u rk = true) := Lib.hid (fun i v hi hv => by
          rcases Nat.lt_or_ge i k with g | g
          · exact hah.out i v g hv
          · obtain rfl : i = k := by omega
            rw [HU.out] at hv; obtain rfl := Option.some.inj hv; exact hq)
        rw [hq] at hbl
        clear hq hah HU
        go_wp2_with fail
        go_roundw
        case rel => exact ⟨k + 1, by omega, by go_num, HN, B2⟩
        case measure => simp [intOf]; omega
      case' false =>
        have HAT : Hid (atS rk K = k) := Lib.hid (atS_is hah.out (by have := HKL.out; omega) (fun v hv => by rw [HU.out] at hv; obtain rfl := Option.some.inj hv; exact hq))
        rw [hq] at hbl
        clear hq hah HU hlt
        obtain ⟨wt, rfl⟩ : ∃ x, x = w2 := ⟨_, rfl⟩
        have BT := B2
        clear B2
    case' neg =>
      have HAT : Hid (atS rk K = k) := Lib.hid (atS_is hah.out (by have := HKL.out; omega) (fun v hv => by have := (List.getElem?_eq_some_iff.1 hv).1; have := HKL.out; omega))
      clear hah
      obtain ⟨wt, rfl⟩ : ∃ x, x = wr := ⟨_, rfl⟩
      have BT := hnx
      clear hnx
    all_goals
      have hwt := BT.size
      have O0 : (wt.alloc (.cells #[] 56)).ownsRow wt.heap.size 56 1 (.slice (some ⟨wt.heap.size, 0, none⟩) 0 0) 0 [] := World.ownsRow_lit (size := 1) (e := 56) wt #[] 0 (Nat.le_refl _) (by decide) rfl
      have BA := BT.alloc BT.size (.cells #[] 56)
      have HO := Lib.hid O0
      obtain ⟨tk, htk⟩ : ∃ l, us.take k = l := ⟨_, rfl⟩
      have HTL : Hid (tk.length = k * 1) := Lib.hid (by rw [← htk, List.length_take, HUL.out]; omega)
      have HTK := Lib.hid htk
      have HT1 : Hid (∀ u ∈ tk, u.oneCell' = true) := Lib.hid (fun u hu => HONE.out u (by rw [← HTK.out] at hu; exact List.mem_of_mem_take hu))
      have HCA : Hid (∀ (j : Nat) (u : Value), tk[j]? = some u → (wt.alloc (.cells #[] 56)).cell? ((⟨g, 0, none⟩ : Addr).add j) = some u) := Lib.hid (fun j u hj => by
        rw [add_plain, Nat.zero_add, BA.cell (p := ⟨g, j, none⟩) hgw]
        refine HC.out j u ?_
        rw [← HTK.out] at hj
        exact (List.getElem?_take_of_lt (by have := (List.getElem?_eq_some_iff.1 hj).1; simp at this; omega)).symm.trans hj)
      clear htk O0
      go_wp2_with (at_builtin; refine wpList_append_own_at _ rfl _ _ 26 rfl wt.heap.size 56 i0 (.slice none 0 0) 1 24 Try.underlying26 hi hz0 hz1 hz2 rfl (by decide) _ _ _ rfl HO.out ⟨g, 0, none⟩ k _ tk rfl HTL.out HCA.out HT1.out ?h63a ?h48a ?hbsa ?_)
      case h63a => unfold maxLen; omega
      case h48a => omega
      case hbsa => simp
      intro v1 w3 hown1 hg1 _ _
      have O1 : w3.ownsRow wt.heap.size 56 1 v1 k tk := by simpa using hown1
      have B3 := BA.grown hg1 BA.size (fun j hj => by simp [Value.ownBlock] at hj; omega)
      have hw3 : wt.heap.size < w3.heap.size := by have := hg1.size; simp at this; omega
      clear hown1 hg1 HO HCA BA
      try clear hlt
      try clear hk7
      rcases Nat.lt_or_ge k n with hlt | hge0
      case' inl =>
        have hu : L[k]? = some (L[k]'(by have := HL.out; omega)) := List.getElem?_eq_getElem _
        have hv : us[k]? = some (us[k]'(by have := HUL.out; omega)) := List.getElem?_eq_getElem _
        have c0 := HC.out k _ hv
        rw [← B3.cell (p := ⟨g, _, none⟩) hgw] at c0
        obtain ⟨a1, n1, c1, he1, hz⟩ := (HIN.out k _ _ hv hu).next B3
        rw [he1] at c0
        have hll := HLL.out _ (List.getElem_mem (by have := HL.out; omega : k < L.length))
        have hKk : K[k]? = some (rowTextL (L[k]'(by have := HL.out; omega))) := by rw [← HK.out, List.getElem?_map, hu]; rfl
        generalize L[k]'(by have := HL.out; omega) = s at hu hz hll hKk
        have E := Lib.hid (fun W (h : Below w3.heap.size w3 W) => specRowText a1 n1 c1 s W (hz.next h) hll)
        have HBE : Hid ((bs (rowTextL s)).toList = rowTextL s) := Lib.hid (bs_list _)
        have HU := Lib.hid hKk
        have hk7 : (k : Int) < (n : Int) := by omega
        clear hz hll hu hv he1 hKk
        generalize rowTextL s = sk at HU E HBE
        generalize bs sk = sb at E HBE
        go_wp2_with fail
        refine (E.out _ (by first | exact Below.refl _ _ | exact Below.drew (Below.refl _ _))).mono ?_
        rintro e w4 ⟨rfl, hb4⟩
        have B4 := B3.trans (hb4.mono B3.size)
        have O4 := Lib.hid (O1.kept (grown_of_below hb4) (by
          rcases hv : v1.ownBlock with _ | j
          · exact .inl rfl
          · exact .inr (by simp)))
        have hw4 := hb4.size
        clear hb4 E c0 B3 O1
        by_cases he : sk = rk
        case' pos =>
          have heq : (sb.toList == ky.toList) = true := by rw [HBE.out, HKY.out, he]; simp
          have HSAME : Hid (addR L r = L) := Lib.hid (addR_same (k := k) (by rw [HRK.out, HK.out]; exact HAT.out) (by rw [HRK.out, HK.out, HU.out, he]))
          have HTS : Hid (tk ++ us.drop k = us) := Lib.hid (by rw [← HTK.out]; exact List.take_append_drop ..)
          obtain ⟨td, htd⟩ : ∃ l, us.drop k = l := ⟨_, rfl⟩
          rw [htd] at HTS
          have HDL : Hid (td.length = (n - k) * 1) := Lib.hid (by rw [← htd, List.length_drop, HUL.out]; omega)
          have HD1 : Hid (∀ u ∈ td, u.oneCell' = true) := Lib.hid (fun u hu => HONE.out u (by rw [← htd] at hu; exact List.mem_of_mem_drop hu))
          have HDC : Hid (∀ (j : Nat) (u : Value), td[j]? = some u → w4.cell? ((⟨g, k, none⟩ : Addr).add j) = some u) := Lib.hid (fun j u hj => by
            rw [add_plain, B4.cell (p := ⟨g, k + j, none⟩) hgw]
            refine HC.out (k + j) u ?_
            rw [← htd, List.getElem?_drop] at hj
            exact hj)
          have hbw : wt.heap.size ≤ w4.heap.size := by omega
          have hcq : ¬ c = k := by omega
          clear htd he HU HAT HBE
          go_wp2_with (at_builtin; refine wpList_append_own_at _ rfl _ _ 26 rfl wt.heap.size 56 i0 (.slice none 0 0) 1 24 Try.underlying26 hi hz0 hz1 hz2 rfl (by decide) _ _ _ rfl O4.out _ (n - k) _ td rfl HDL.out ?hdc HD1.out ?h63b ?h48b hbw ?_)
          case hdc => intro j u hj; first | exact HDC.out j u hj | (simpa using HDC.out j u hj)
          case h63b => unfold maxLen; omega
          case h48b => omega
          intro v5 w5 hown5 hg5 _ _
          have B5 := B4.grown hg5 B4.size (fun j hj => by have := (World.ownsRow.lt O4.out j hj).1; omega)
          have e5 : k + (n - k) = n := by omega
          rw [HTS.out] at hown5
          try rw [e5] at hown5
          obtain ⟨g5, c5, rfl⟩ := own_some hown5 (by omega)
          have HF : Hid (OutI B w5 (.slice (some ⟨g5, 0, none⟩) n c5) (addR L r) us ∧ (addR L r).length = n) := Lib.hid (by
            rw [HSAME.out]
            exact ⟨OutI.base (B := wt.heap.size) ⟨by rw [HL.out]; exact hown5, by rw [HUL.out, HL.out], fun i u s hu hs => (HIN.out i u s hu hs).next B5⟩ (by omega), HL.out⟩)
          clear hown5 hg5 O4 B4 HDC
          clear e5
          go_wp2_with fail
          go_ret
          exact ⟨g5, n, c5, us, rfl, HF.out.1, HF.out.2, B5⟩
        case' neg =>
          have heq : (sb.toList == ky.toList) = false := by rw [HBE.out, HKY.out]; exact beq_eq_false_iff_ne.2 he
          have HMORE : Hid (addR L r = (L.take k ++ [r]) ++ L.drop k) := Lib.hid (addR_more (k := k) (by rw [HRK.out, HK.out]; exact HAT.out) (by rw [HRK.out, HK.out, HU.out]; exact fun e => he (Option.some.inj e)))
          clear HU HAT HBE he
          obtain ⟨wq, rfl⟩ : ∃ x, x = w4 := ⟨_, rfl⟩
          have BQ := B4
          have hwq : w3.heap.size ≤ wq.heap.size := hw4
          have OQ := O4
          clear B4 O4 hw4
      case' inr =>
        have hge : ¬ k < n := by omega
        have HMORE : Hid (addR L r = (L.take k ++ [r]) ++ L.drop k) := Lib.hid (addR_more (k := k) (by rw [HRK.out, HK.out]; exact HAT.out) (by rw [HRK.out, HK.out]; exact fun e => by have := (List.getElem?_eq_some_iff.1 e).1; have := HKL.out; omega))
        obtain ⟨wq, hwq0⟩ : ∃ x, x = w3 := ⟨_, rfl⟩
        have hwq : w3.heap.size ≤ wq.heap.size := by rw [hwq0]; exact Nat.le_refl _
        have BQ := B3
        have OQ := Lib.hid O1
        rw [← hwq0] at BQ OQ ⊢
        clear HAT B3 O1 hwq0
      all_goals
        have hv1 := fun j hj => World.ownsRow.lt OQ.out j hj
        have P0 : OwnP wq.heap.size (wq.alloc (.cells #[] 59)) (.slice (some ⟨wq.heap.size, 0, none⟩) 0 0) [] := World.ownsRow_lit (size := 2) (e := 59) wq #[] 0 (Nat.le_refl _) (by decide) rfl
        have BP := BQ.alloc BQ.size (.cells #[] 59)
        have OP := Lib.hid (World.ownsRow.alloc OQ.out (.cells #[] 59))
        have HP := Lib.hid P0
        have HRS := Lib.hid HR.out.small
        have hr5 := HR.out.next BP
        clear P0
        rcases hr5 with ⟨rfl, rfl, rfl, hr0⟩ | ⟨x, rfl, h1, h2, h3, h4⟩
        case' inl =>
          have HU5 : Hid (OwnP wq.heap.size (wq.alloc (.cells #[] 59)) (.slice (some ⟨wq.heap.size, 0, none⟩) 0 0) r) := Lib.hid (by rw [hr0]; exact HP.out)
          have B5 := BP
          have O5 := OP
          have hw5 : wq.heap.size < (wq.alloc (.cells #[] 59)).heap.size := by simp
          have OA := Lib.hid (World.ownsRow.alloc O5.out (.cells #[.slice (some ⟨wq.heap.size, 0, none⟩) 0 0] 56))
          have BA2 := Lib.hid (B5.alloc B5.size (.cells #[.slice (some ⟨wq.heap.size, 0, none⟩) 0 0] 56))
          have hb6 : wt.heap.size ≤ ((wq.alloc (.cells #[] 59)).alloc (.cells #[.slice (some ⟨wq.heap.size, 0, none⟩) 0 0] 56)).heap.size := by simp; omega
          have HT1' := HT1
          go_wp2_with (at_builtin; refine wpList_append_own_at _ rfl _ _ 26 rfl wt.heap.size 56 i0 (.slice none 0 0) 1 24 Try.underlying26 hi hz0 hz1 hz2 rfl (by decide) _ _ _ rfl OA.out ⟨_, 0, none⟩ 1 1 [.slice (some ⟨wq.heap.size, 0, none⟩) 0 0] rfl rfl ?d1 ?d2 ?d3 ?d4 hb6 ?_)
          case d1 => exact one_cellV (by first | rfl | simp)
          case d2 => exact one_slice _ _ _
          case d3 => unfold maxLen; omega
          case d4 => omega
          intro v6 w6 hown6 hg6 _ hat6
          have hub := fun j hj => World.ownsRow.lt HU5.out j hj
          have U6 : RowIn w6 (.slice (some ⟨wq.heap.size, 0, none⟩) 0 0) r := by
            obtain ⟨a9, c9, e9, i9⟩ := HU5.out.is HRS.out
            have i9' : RowIn (wq.alloc (.cells #[] 59)) (.slice (some ⟨wq.heap.size, 0, none⟩) 0 0) r := ⟨a9, _, c9, e9, i9⟩
            have i10 := i9'.next ((Below.refl (wq.alloc (.cells #[] 59)).heap.size (wq.alloc (.cells #[] 59))).alloc (Nat.le_refl _) (.cells #[.slice (some ⟨wq.heap.size, 0, none⟩) 0 0] 56))
            exact i10.kept hg6 (fun j hj e => by
              have := (hub j hj).1
              have := (hv1 j e.symm).2
              omega)
          have hv6 : ∀ j, (Value.slice (some ⟨wq.heap.size, 0, none⟩) 0 0).ownBlock = some j → v6.ownBlock ≠ some j := fun j hj e => by
            rcases hat6 with h | h
            · rw [h] at e
              have := (hub j hj).1
              have := (hv1 j e).2
              omega
            · rw [h] at e
              have h9 := (hub j hj).2
              simp only [Option.some.injEq, World.size_alloc] at e
              try simp only [World.size_alloc] at h9
              omega
          have B6 := BA2.out.grown hg6 BA2.out.size (fun j hj => by have := (World.ownsRow.lt O5.out j hj).1; omega)
          have hw6 : wt.heap.size ≤ w6.heap.size := by have := hg6.size; omega
          have HU6 := Lib.hid U6
          have HO6 := Lib.hid hown6
          have hv6l := fun j hj => (World.ownsRow.lt hown6 j hj).1
          clear hown6 hg6 hat6 OA BA2 HU5 O5 B5 hub U6 HP BP OP BQ OQ
          generalize Value.slice (some ⟨wq.heap.size, 0, none⟩) 0 0 = uz at HU6 hv6 HO6
        case' inr =>
          have A := Lib.hid (fun j u hj => pres_news h4 j u hj)
          have H3 := Lib.hid h3
          have HF2 := Lib.hid (flatP_one r)
          clear h4 h3
          go_wp2_with (at_builtin; refine wpList_append_own_at _ rfl _ _ 56 rfl wq.heap.size 59 j0 (.agg #[.string ⟨#[]⟩, .string ⟨#[]⟩]) 2 32 Try.underlying56 hj hy0 hy1 hy2 rfl (by decide) _ _ _ rfl HP.out x len cap (flatP r) rfl (by rw [flatP_len, H3.out]) A.out HF2.out ?qc4 ?qc5 ?qc6 ?_)
          case qc4 => (try rw [List.length_nil]); unfold maxLen; omega
          case qc5 => (try rw [List.length_nil]); omega
          case qc6 => simp
          intro uz wz hown hgrow _ _
          have HU5 : Hid (OwnP wq.heap.size wz uz r) := Lib.hid (by unfold OwnP; rw [H3.out]; simpa [flatP] using hown)
          have B5 := BP.grown hgrow BP.size (fun j hj => by simp [Value.ownBlock] at hj; have := BQ.size; omega)
          have O5 : Hid (wz.ownsRow wt.heap.size 56 1 v1 k tk) := Lib.hid (World.ownsRow.kept OP.out hgrow (by
            rcases hv : v1.ownBlock with _ | j
            · exact .inl rfl
            · refine .inr (fun e => ?_)
              simp [Value.ownBlock] at e
              have := (hv1 j hv).2
              omega))
          have hw5 : wq.heap.size < wz.heap.size := by have := hgrow.size; simp at this; omega
          obtain ⟨ga, ca, hua, _⟩ := HU5.out.is HRS.out
          obtain ⟨la, hla⟩ : ∃ n, r.length = n := ⟨_, rfl⟩
          rw [hla] at hua
          subst hua
          clear hown hgrow HP OP BP BQ OQ A H3 HF2 hla h1 h2
          have OA := Lib.hid (World.ownsRow.alloc O5.out (.cells #[.slice ga la ca] 56))
          have BA2 := Lib.hid (B5.alloc B5.size (.cells #[.slice ga la ca] 56))
          have hb6 : wt.heap.size ≤ (wz.alloc (.cells #[.slice ga la ca] 56)).heap.size := by simp; omega
          have HT1' := HT1
          go_wp2_with (at_builtin; refine wpList_append_own_at _ rfl _ _ 26 rfl wt.heap.size 56 i0 (.slice none 0 0) 1 24 Try.underlying26 hi hz0 hz1 hz2 rfl (by decide) _ _ _ rfl OA.out ⟨_, 0, none⟩ 1 1 [.slice ga la ca] rfl rfl ?d1 ?d2 ?d3 ?d4 hb6 ?_)
          case d1 => exact one_cellV (by first | rfl | simp)
          case d2 => exact one_slice _ _ _
          case d3 => unfold maxLen; omega
          case d4 => omega
          intro v6 w6 hown6 hg6 _ hat6
          have hub := fun j hj => World.ownsRow.lt HU5.out j hj
          have U6 : RowIn w6 (.slice ga la ca) r := by
            obtain ⟨a9, c9, e9, i9⟩ := HU5.out.is HRS.out
            have i9' : RowIn wz (.slice ga la ca) r := ⟨a9, _, c9, e9, i9⟩
            have i10 := i9'.next ((Below.refl wz.heap.size wz).alloc (Nat.le_refl _) (.cells #[.slice ga la ca] 56))
            exact i10.kept hg6 (fun j hj e => by
              have := (hub j hj).1
              have := (hv1 j e.symm).2
              omega)
          have hv6 : ∀ j, (Value.slice ga la ca).ownBlock = some j → v6.ownBlock ≠ some j := fun j hj e => by
            rcases hat6 with h | h
            · rw [h] at e
              have := (hub j hj).1
              have := (hv1 j e).2
              omega
            · rw [h] at e
              have h9 := (hub j hj).2
              simp only [Option.some.injEq, World.size_alloc] at e
              try simp only [World.size_alloc] at h9
              omega
          have B6 := BA2.out.grown hg6 BA2.out.size (fun j hj => by have := (World.ownsRow.lt O5.out j hj).1; omega)
          have hw6 : wt.heap.size ≤ w6.heap.size := by have := hg6.size; omega
          have HU6 := Lib.hid U6
          have HO6 := Lib.hid hown6
          have hv6l := fun j hj => (World.ownsRow.lt hown6 j hj).1
          clear hown6 hg6 hat6 OA BA2 HU5 O5 B5 hub U6
          generalize Value.slice ga la ca = uz at HU6 hv6 HO6
        all_goals
          obtain ⟨td, htd⟩ : ∃ l, us.drop k = l := ⟨_, rfl⟩
          have HDL : Hid (td.length = (n - k) * 1) := Lib.hid (by rw [← htd, List.length_drop, HUL.out]; omega)
          have HD1 : Hid (∀ u ∈ td, u.oneCell' = true) := Lib.hid (fun u hu => HONE.out u (by rw [← htd] at hu; exact List.mem_of_mem_drop hu))
          have HDC : Hid (∀ (j : Nat) (u : Value), td[j]? = some u → w6.cell? ((⟨g, k, none⟩ : Addr).add j) = some u) := Lib.hid (fun j u hj => by
            rw [add_plain, B6.cell (p := ⟨g, k + j, none⟩) hgw]
            refine HC.out (k + j) u ?_
            rw [← htd, List.getElem?_drop] at hj
            exact hj)
          have HTD := Lib.hid htd
          clear htd
          try clear hlt
          try clear hk7
          try clear hge
          try clear hge0
          by_cases hcq : c = k
          case' pos =>
            have HTD0 : Hid (td = []) := Lib.hid (List.length_eq_zero_iff.1 (by rw [HDL.out]; omega))
            go_wp2_with (at_builtin; refine wpList_append_own_at _ rfl _ _ 26 rfl wt.heap.size 56 i0 (.slice none 0 0) 1 24 Try.underlying26 hi hz0 hz1 hz2 rfl (by decide) _ _ _ rfl HO6.out _ (n - k) _ td rfl HDL.out ?hcl HD1.out ?h63c ?h48c hw6 ?_)
            case hcl => intro j u hj; rw [HTD0.out] at hj; simp at hj
            case h63c => unfold maxLen; omega
            case h48c => omega
          case' neg =>
            go_wp2_with (at_builtin; refine wpList_append_own_at _ rfl _ _ 26 rfl wt.heap.size 56 i0 (.slice none 0 0) 1 24 Try.underlying26 hi hz0 hz1 hz2 rfl (by decide) _ _ _ rfl HO6.out _ (n - k) _ td rfl HDL.out ?hcl HD1.out ?h63c ?h48c hw6 ?_)
            case hcl => intro j u hj; first | exact HDC.out j u hj | (simpa using HDC.out j u hj)
            case h63c => unfold maxLen; omega
            case h48c => omega
          all_goals
            intro v7 w7 hown7 hg7 _ _
            have B7 := B6.grown hg7 B6.size (fun j hj => by have := hv6l j hj; omega)
            have U7 := HU6.out.kept hg7 (fun j hj e => hv6 j hj e.symm)
            have e7 : k + 1 + (n - k) = n + 1 := by omega
            try rw [e7] at hown7
            obtain ⟨g7, c7, rfl⟩ := own_some hown7 (by omega)
            have O7 : w7.ownsRow wt.heap.size 56 1 (.slice (some ⟨g7, 0, none⟩) (n + 1) c7) (n + 1) ((us.take k ++ [uz]) ++ us.drop k) := by
              rw [HTK.out, HTD.out]; simpa using hown7
            have HF : Hid (OutI B w7 (.slice (some ⟨g7, 0, none⟩) (n + 1) c7) (addR L r) ((us.take k ++ [uz]) ++ us.drop k) ∧ (addR L r).length = n + 1) := Lib.hid (by
              rw [HMORE.out]
              exact ⟨OutI.base (OutI.ins HL.out HUL.out hk O7 (fun i u s hu hs => (HIN.out i u s hu hs).next B7) U7) (by omega), by simp [List.length_take, HL.out]; omega⟩)
            clear hown7 hg7 O7 U7 HO6 HU6 HDC B6 hv6
            clear e7
            go_wp2_with fail
            go_ret
            exact ⟨g7, n + 1, c7, _, rfl, HF.out.1, HF.out.2, B7⟩
end Go.Proofs.Ytnmoobahchlliaa
/- Whether a text is in a list of texts: the specification's own. -/
namespace Go.Proofs.Ytnmoobahchlliaa
open Go.RowKit Go.WideShapes
def hasB (ts : List ByteArray) (x : ByteArray) : Bool := ts.any fun y => y.toList == x.toList
theorem hasB_yes {ts : List ByteArray} {x u : ByteArray} {k : Nat} (h : ts[k]? = some u) (he : (u.toList == x.toList) = true) : hasB ts x = true := List.any_eq_true.2 ⟨u, List.mem_of_getElem? h, he⟩
theorem hasB_no {ts : List ByteArray} {x : ByteArray} (h : ∀ (i : Nat) (u : ByteArray), i < ts.length → ts[i]? = some u → (u.toList == x.toList) = false) : hasB ts x = false := by
  unfold hasB
  rw [List.any_eq_false]
  intro u hu
  obtain ⟨i, hi⟩ := List.mem_iff_getElem?.1 hu
  rw [h i u (List.getElem?_eq_some_iff.1 hi).1 hi]; simp
set_option maxRecDepth 100000 in
theorem specHas (a : Option Addr) (n c : Nat) (ts : List ByteArray) (x : ByteArray) (w : World) (h : IsStrs w a n c ts) (hn : n ≤ 1048576) :
    Calls Try.prog 34 #[.slice a n c, .string x] w fun e w' => e = .returned (.bool (hasB ts x)) ∧ w' = w := by
  have H := Lib.hid h
  have HL := Lib.hid h.len
  clear h
  go_enter Try.func34, Try.ntmps34
  go_wp2_with fail
  go_loop [5] (fun i => ∃ k : Nat, k ≤ n ∧ i = .int .i64 k ∧ Hid (∀ (i : Nat) (u : ByteArray), i < k → ts[i]? = some u → (u.toList == x.toList) = false)) (fun i => n - (intOf i).toNat)
  case atStart => exact ⟨0, Nat.zero_le _, rfl, Lib.hid (fun i u hi => by omega)⟩
  case round =>
    obtain ⟨k, hk, rfl, hno⟩ := hrel
    by_cases hlt : k < n
    · obtain ⟨b, off, rfl, hb, _, _, hts, hcs⟩ := H.out.cells (by omega)
      have hu : ts[k]? = some (ts[k]'(by omega)) := List.getElem?_eq_getElem (by omega)
      have hc := hcs k _ hu
      generalize ts[k]'(by omega) = u at hu hc
      have hk6 : (0 : Int) ≤ (k : Int) := by omega
      have hk7 : (k : Int) < (n : Int) := by omega
      have HU := Lib.hid hu
      clear hts hcs hu
      cases he : (u.toList == x.toList)
      · have HN : Hid (∀ (i : Nat) (u : ByteArray), i < k + 1 → ts[i]? = some u → (u.toList == x.toList) = false) := Lib.hid (fun i v hi hv => by
          rcases Nat.lt_or_ge i k with g | g
          · exact hno.out i v g hv
          · obtain rfl : i = k := by omega
            rw [HU.out] at hv; obtain rfl := Option.some.inj hv; exact he)
        clear hno HU
        go_wp2_with fail
        go_round
        case rel => exact ⟨k + 1, by omega, by go_num, HN⟩
        case measure => simp [intOf]; omega
      · have HR : Hid (hasB ts x = true) := Lib.hid (hasB_yes HU.out he)
        clear hno HU
        go_wp2_with fail
        go_ret
        exact ⟨by rw [HR.out]; rfl, rfl⟩
    · have HR : Hid (hasB ts x = false) := Lib.hid (hasB_no (fun i u hi hu => hno.out i u (by have := HL.out; omega) hu))
      clear hno
      go_wp2_with fail
      go_ret
      exact ⟨by rw [HR.out]; rfl, rfl⟩
end Go.Proofs.Ytnmoobahchlliaa
