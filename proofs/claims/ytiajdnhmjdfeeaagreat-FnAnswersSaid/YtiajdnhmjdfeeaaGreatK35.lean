/- Rows in order, with one more: the specification's own.; All rows of patterns: the specification's own l5Solve.; What fits a pattern of a store: the program's own. -/
import Derived.Test.YtiajdnhmjdfeeaaGreatK30
import Derived.Laws.AppendOwnNone
import Derived.Test.YtiajdnhmjdfeeaaGreatK34
import Derived.Test.YtiajdnhmjdfeeaaGreatK02
import Derived.Test.YtiajdnhmjdfeeaaGreatK07
namespace Go.Proofs.YtiajdnhmjdfeeaaGreat
open Go.RowKit Go.WideShapes Go.Maps
/-- A slice of the call's own whose cells are the handles of these rows. -/
def OutI (B : Nat) (w : World) (v : Value) (rs : List RowV) (us : List Value) : Prop :=
  w.ownsRow B 50 1 v rs.length us ∧ us.length = rs.length ∧ (∀ (i : Nat) (u : Value) (r : RowV), us[i]? = some u → rs[i]? = some r → RowIn w u r)
theorem RowIn.lt {w : World} {u : Value} {r : RowV} (h : RowIn w u r) (hr : 0 < r.length) : ∀ j, u.ownBlock = some j → j < w.heap.size := by
  obtain ⟨a, n, c, rfl, hz⟩ := h
  have hl := hz.len
  obtain ⟨b, off, rfl, hb, _⟩ := hz.cells (by omega)
  intro j hj
  simp [Value.ownBlock] at hj
  omega
theorem RowIn.one {w : World} {u : Value} {r : RowV} (h : RowIn w u r) : u.oneCell' = true := by
  obtain ⟨a, n, c, rfl, _⟩ := h
  rfl
theorem IsPres.keptAt {w w' : World} {row : Option Nat} {a : Option Addr} {len cap : Nat} {ts : List Pre2} (h : IsPres w a len cap ts) (hg : w.grownBy w' row) (hne : 0 < len → ∀ x, a = some x → some x.block ≠ row) : IsPres w' a len cap ts := by
  rcases h with h | ⟨x, rfl, h1, h2, h3, h4⟩
  · exact .inl h
  · refine .inr ⟨x, rfl, h1, h2, h3, fun i t hi => ?_⟩
    have hn := hne (by have := (List.getElem?_eq_some_iff.1 hi).1; omega) x rfl
    obtain ⟨c0, c1, w0, w1⟩ := h4 i t hi
    have e : ∀ j, (x.add j).block = x.block := fun j => by unfold Addr.add; split <;> rfl
    exact ⟨hg.cell c0 (by rw [e]; exact hn), hg.cell c1 (by rw [e]; exact hn), w0, w1⟩
theorem RowIn.kept {w w' : World} {row : Option Nat} {u : Value} {r : RowV} (h : RowIn w u r) (hg : w.grownBy w' row) (hne : ∀ j, u.ownBlock = some j → some j ≠ row) : RowIn w' u r := by
  obtain ⟨a, n, c, rfl, hz⟩ := h
  exact ⟨a, n, c, rfl, hz.keptAt hg (fun _ x hx => hne _ (by subst hx; rfl))⟩
theorem OutI.is {B : Nat} {w : World} {v : Value} {rs : List RowV} {us : List Value} (h : OutI B w v rs us) : ∃ a cap, v = .slice a rs.length cap ∧ IsRows w a rs.length cap rs := by
  obtain ⟨ho, hl, hi⟩ := h
  have h0 := ho
  obtain ⟨_, hc⟩ := ho
  rcases hc with ⟨rfl, hl0⟩ | ⟨g, cap, cur, rfl, _, _, h1, h2, _⟩
  · exact ⟨none, 0, by rw [hl0], .inl ⟨rfl, hl0, rfl, List.length_eq_zero_iff.1 hl0⟩⟩
  · refine ⟨_, cap, rfl, .inr ⟨_, rfl, h1, h2, rfl, fun i r hr => ?_⟩⟩
    have hil : i < rs.length := (List.getElem?_eq_some_iff.1 hr).1
    have hu : us[i]? = some (us[i]'(by omega)) := List.getElem?_eq_getElem _
    obtain ⟨a', n', c', ev, ii⟩ := hi i _ r hu hr
    refine ⟨a', n', c', ?_, ii⟩
    rw [add_plain, Nat.zero_add]
    exact (h0.cellAt i (by omega)).trans (by rw [hu, ev])
theorem OutI.next {B : Nat} {w w' : World} {v : Value} {rs : List RowV} {us : List Value} (h : OutI B w v rs us) (hb : Below w.heap.size w w') : OutI B w' v rs us := by
  obtain ⟨ho, hl, hi⟩ := h
  refine ⟨ho.kept (grown_of_below hb) (by
    rcases hv : v.ownBlock with _ | i
    · exact .inl rfl
    · exact .inr (by simp)), hl, fun i u r hu hr => (hi i u r hu hr).next hb⟩
theorem OutI.base {B C : Nat} {w : World} {v : Value} {rs : List RowV} {us : List Value} (h : OutI B w v rs us) (hc : C ≤ B) : OutI C w v rs us := by
  obtain ⟨⟨h1, h2⟩, h3⟩ := h
  refine ⟨⟨h1, ?_⟩, h3⟩
  rcases h2 with h2 | ⟨g, cap, cur, e, hB, r⟩
  · exact .inl h2
  · exact .inr ⟨g, cap, cur, e, Nat.le_trans hc hB, r⟩
theorem own_someR {B : Nat} {w : World} {v : Value} {n : Nat} {us : List Value} (h : w.ownsRow B 50 1 v n us) (h0 : 0 < n) : ∃ g c, v = .slice (some ⟨g, 0, none⟩) n c := by
  rcases h.2 with ⟨_, e⟩ | ⟨g, c, cur, rfl, _⟩
  · omega
  · exact ⟨g, c, rfl⟩
/-- Handles in a row, each of its row: what is taken of them, and one more among them. -/
theorem ins_at {α : Type} {xs : List α} {x y : α} {k i : Nat} (hk : k ≤ xs.length) (h : ((xs.take k ++ [x]) ++ xs.drop k)[i]? = some y) : (i < k ∧ xs[i]? = some y) ∨ (i = k ∧ y = x) ∨ (k < i ∧ xs[i - 1]? = some y) := by
  have hl : (xs.take k ++ [x]).length = k + 1 := by simp [List.length_take]; omega
  rcases Nat.lt_trichotomy i k with g | g | g
  · rw [List.getElem?_append_left (by omega), List.getElem?_append_left (by rw [List.length_take]; omega), List.getElem?_take_of_lt g] at h
    exact .inl ⟨g, h⟩
  · subst g
    rw [List.getElem?_append_left (by omega), List.getElem?_append_right (by rw [List.length_take]; omega)] at h
    have e : i - (xs.take i).length = 0 := by rw [List.length_take]; omega
    rw [e] at h
    simp at h
    exact .inr (.inl ⟨rfl, h.symm⟩)
  · rw [List.getElem?_append_right (by omega), List.getElem?_drop, hl] at h
    have e : k + (i - (k + 1)) = i - 1 := by omega
    rw [e] at h
    exact .inr (.inr ⟨g, h⟩)
theorem OutI.ins {B k n : Nat} {w : World} {v u : Value} {L : List RowV} {us : List Value} {r : RowV} (hn : L.length = n) (hl : us.length = n) (hk : k ≤ n) (ho : w.ownsRow B 50 1 v (n + 1) ((us.take k ++ [u]) ++ us.drop k))
    (hi : ∀ (i : Nat) (u : Value) (r : RowV), us[i]? = some u → L[i]? = some r → RowIn w u r) (hu : RowIn w u r) : OutI B w v ((L.take k ++ [r]) ++ L.drop k) ((us.take k ++ [u]) ++ us.drop k) := by
  have e : ((L.take k ++ [r]) ++ L.drop k).length = n + 1 := by simp [List.length_take]; omega
  refine ⟨by rw [e]; exact ho, by simp [List.length_take]; omega, fun i x s hx hs => ?_⟩
  rcases ins_at (by omega) hx with ⟨g, hx⟩ | ⟨g, rfl⟩ | ⟨g, hx⟩
  all_goals rcases ins_at (by omega) hs with ⟨g', hs⟩ | ⟨g', rfl⟩ | ⟨g', hs⟩
  all_goals first | omega | exact hu | exact hi _ _ _ hx hs
/-- Where a handle leads: to a block from B on. -/
def FromB (B : Nat) (u : Value) : Prop := ∀ j, u.ownBlock = some j → B ≤ j
theorem ins_mem {α : Type} {us : List α} {k : Nat} {x y : α} (h : y ∈ (us.take k ++ [x]) ++ us.drop k) : y ∈ us ∨ y = x := by
  simp only [List.mem_append, List.mem_singleton] at h
  rcases h with (h | h) | h
  · exact .inl (List.mem_of_mem_take h)
  · exact .inr h
  · exact .inl (List.mem_of_mem_drop h)
set_option maxRecDepth 100000 in
set_option maxHeartbeats 6400000 in
theorem specAddF (B g n c : Nat) (L : List RowV) (us : List Value) (a : Option Addr) (len cap : Nat) (r : RowV) (w : World) (h : OutI B w (.slice (some ⟨g, 0, none⟩) n c) L us) (hn : L.length = n) (hl : n ≤ 1048576) (hB : B ≤ w.heap.size)
    (hr : IsPres w a len cap r) (hlr : len ≤ 1048576) (hL : LongR L) (hrL : (rowTextL r).length ≤ 140737488355328) :
    Calls Tryz.prog 103 #[.slice (some ⟨g, 0, none⟩) n c, .slice a len cap] w fun e w' => ∃ g' n' c' us', e = .returned (.slice (some ⟨g', 0, none⟩) n' c') ∧ OutI B w' (.slice (some ⟨g', 0, none⟩) n' c') (addR L r) us' ∧ (addR L r).length = n' ∧ Below w.heap.size w w' ∧ ∀ u ∈ us', u ∈ us ∨ FromB w.heap.size u := by
  obtain ⟨i0, hi, hz0, hz1, hz2⟩ := info_parts infoRow
  obtain ⟨j0, hj, hy0, hy1, hy2⟩ := info_parts infoPair
  have hgw : g < w.heap.size := (World.ownsRow.lt h.1 g (by simp [Value.ownBlock])).2
  have hnc : n ≤ c := by
    rcases h.1.2 with ⟨e, _⟩ | ⟨_, _, _, e, _, _, h1, _⟩
    · cases e
    · cases e; rw [hn] at h1; exact h1
  have hul : us.length = n := by rw [h.2.1, hn]
  have HC : Hid (∀ (j : Nat) (u : Value), us[j]? = some u → w.cell? ⟨g, j, none⟩ = some u) := Lib.hid (fun j u hj => by
    have hjl := (List.getElem?_eq_some_iff.1 hj).1
    have h1 := h.1
    rw [hn] at h1
    rw [World.ownsRow.cellAt h1 j (by omega)]; exact hj)
  have HIN : Hid (∀ (i : Nat) (u : Value) (r : RowV), us[i]? = some u → L[i]? = some r → RowIn w u r) := Lib.hid h.2.2
  have HONE : Hid (∀ u ∈ us, u.oneCell' = true) := Lib.hid (fun u hu => by
    obtain ⟨i, hi⟩ := List.mem_iff_getElem?.1 hu
    exact (h.2.2 i u _ hi (List.getElem?_eq_getElem (by have := (List.getElem?_eq_some_iff.1 hi).1; omega))).one)
  have C1 := Lib.hid (specRowText a len cap r w hr hrL)
  have HL := Lib.hid hn
  have HUL := Lib.hid hul
  have HLL := Lib.hid hL
  have HR := Lib.hid hr
  clear h hn hul hL hr
  go_enter Tryz.func103, Tryz.ntmps103
  go_wp2_with fail
  refine C1.out.mono ?_
  rintro e w1 ⟨rfl, hb1⟩
  clear C1
  obtain ⟨ky, hky⟩ : ∃ y, bs (rowTextL r) = y := ⟨_, rfl⟩
  rw [hky]
  have HKY : Hid (ky.toList = rowTextL r) := Lib.hid (by rw [← hky]; exact bs_list _)
  obtain ⟨rk, hrk⟩ : ∃ y, rowTextL r = y := ⟨_, rfl⟩
  have HRK := Lib.hid hrk
  rw [hrk] at HKY
  clear hky hrk hrL
  obtain ⟨K, hK⟩ : ∃ K, L.map rowTextL = K := ⟨_, rfl⟩
  have HKL : Hid (K.length = n) := Lib.hid (by rw [← hK, List.length_map, HL.out])
  have HK := Lib.hid hK
  clear hK
  go_wp2_with fail
  go_loopw [6] (fun i wr => ∃ k : Nat, k ≤ n ∧ i = .int .i64 k ∧ Hid (∀ i u, i < k → K[i]? = some u → lessS u rk = true) ∧ Below w.heap.size w wr) (fun i _ => n - (intOf i).toNat)
  case atStart => exact ⟨0, Nat.zero_le _, rfl, Lib.hid (fun i u hi => by omega), hb1⟩
  case round =>
    obtain ⟨k, hk, rfl, hah, hnx⟩ := hrel
    clear hb1
    have hk6 : (0 : Int) ≤ (k : Int) := by omega
    by_cases hlt : k < n
    case' pos =>
      have hu : L[k]? = some (L[k]'(by have := HL.out; omega)) := List.getElem?_eq_getElem _
      have hv : us[k]? = some (us[k]'(by have := HUL.out; omega)) := List.getElem?_eq_getElem _
      have c0 := HC.out k _ hv
      rw [← hnx.cell (p := ⟨g, _, none⟩) hgw] at c0
      obtain ⟨a1, n1, c1, he1, hz⟩ := (HIN.out k _ _ hv hu).next hnx
      rw [he1] at c0
      have hll := HLL.out _ (List.getElem_mem (by have := HL.out; omega : k < L.length))
      have hKk : K[k]? = some (rowTextL (L[k]'(by have := HL.out; omega))) := by rw [← HK.out, List.getElem?_map, hu]; rfl
      generalize L[k]'(by have := HL.out; omega) = s at hu hz hll hKk
      have E := Lib.hid (fun W (h : Below wr.heap.size wr W) => specRowText a1 n1 c1 s W (hz.next h) hll)
      have hbl : Op.bytesLess (bs (rowTextL s)).toList ky.toList = lessS (rowTextL s) rk := by unfold lessS; rw [bs_list, HKY.out]
      have HU := Lib.hid hKk
      have hk7 : (k : Int) < (n : Int) := by omega
      clear hz hll hu hv he1 hKk
      generalize rowTextL s = sk at hbl HU E
      generalize bs sk = sb at hbl E
      go_wp2_with fail
      refine (E.out _ (by first | exact Below.refl _ _ | exact Below.drew (Below.refl _ _))).mono ?_
      rintro e w2 ⟨rfl, hb2⟩
      have B2 := hnx.trans (hb2.mono hnx.size)
      clear hnx hb2 E c0
      cases hq : lessS sk rk
      case' true =>
        have HN : Hid (∀ i u, i < k + 1 → K[i]? = some u → lessS u rk = true) := Lib.hid (fun i v hi hv => by
          rcases Nat.lt_or_ge i k with g | g
          · exact hah.out i v g hv
          · obtain rfl : i = k := by omega
            rw [HU.out] at hv; obtain rfl := Option.some.inj hv; exact hq)
        rw [hq] at hbl
        clear hq hah HU
        go_wp2_with fail
        go_roundw
        case rel => exact ⟨k + 1, by omega, by go_num, HN, B2⟩
        case measure => simp [intOf]; omega
      case' false =>
        have HAT : Hid (atS rk K = k) := Lib.hid (atS_is hah.out (by have := HKL.out; omega) (fun v hv => by rw [HU.out] at hv; obtain rfl := Option.some.inj hv; exact hq))
        rw [hq] at hbl
        clear hq hah HU hlt
        obtain ⟨wt, rfl⟩ : ∃ x, x = w2 := ⟨_, rfl⟩
        have BT := B2
        clear B2
    case' neg =>
      have HAT : Hid (atS rk K = k) := Lib.hid (atS_is hah.out (by have := HKL.out; omega) (fun v hv => by have := (List.getElem?_eq_some_iff.1 hv).1; have := HKL.out; omega))
      clear hah
      obtain ⟨wt, rfl⟩ : ∃ x, x = wr := ⟨_, rfl⟩
      have BT := hnx
      clear hnx
    all_goals
      have hwt := BT.size
      have O0 : (wt.alloc (.cells #[] 50)).ownsRow wt.heap.size 50 1 (.slice (some ⟨wt.heap.size, 0, none⟩) 0 0) 0 [] := World.ownsRow_lit (size := 1) (e := 50) wt #[] 0 (Nat.le_refl _) (by decide) rfl
      have BA := BT.alloc BT.size (.cells #[] 50)
      have HO := Lib.hid O0
      obtain ⟨tk, htk⟩ : ∃ l, us.take k = l := ⟨_, rfl⟩
      have HTL : Hid (tk.length = k * 1) := Lib.hid (by rw [← htk, List.length_take, HUL.out]; omega)
      have HTK := Lib.hid htk
      have HT1 : Hid (∀ u ∈ tk, u.oneCell' = true) := Lib.hid (fun u hu => HONE.out u (by rw [← HTK.out] at hu; exact List.mem_of_mem_take hu))
      have HCA : Hid (∀ (j : Nat) (u : Value), tk[j]? = some u → (wt.alloc (.cells #[] 50)).cell? ((⟨g, 0, none⟩ : Addr).add j) = some u) := Lib.hid (fun j u hj => by
        rw [add_plain, Nat.zero_add, BA.cell (p := ⟨g, j, none⟩) hgw]
        refine HC.out j u ?_
        rw [← HTK.out] at hj
        exact (List.getElem?_take_of_lt (by have := (List.getElem?_eq_some_iff.1 hj).1; simp at this; omega)).symm.trans hj)
      clear htk O0
      go_wp2_with (at_builtin; refine wpList_append_own_at _ rfl _ _ 28 rfl wt.heap.size 50 i0 (.slice none 0 0) 1 24 Tryz.underlying28 hi hz0 hz1 hz2 rfl (by decide) _ _ _ rfl HO.out ⟨g, 0, none⟩ k _ tk rfl HTL.out HCA.out HT1.out ?h63a ?h48a ?hbsa ?_)
      case h63a => unfold maxLen; omega
      case h48a => omega
      case hbsa => simp
      intro v1 w3 hown1 hg1 _ _
      have O1 : w3.ownsRow wt.heap.size 50 1 v1 k tk := by simpa using hown1
      have B3 := BA.grown hg1 BA.size (fun j hj => by simp [Value.ownBlock] at hj; omega)
      have hw3 : wt.heap.size < w3.heap.size := by have := hg1.size; simp at this; omega
      clear hown1 hg1 HO HCA BA
      try clear hlt
      try clear hk7
      rcases Nat.lt_or_ge k n with hlt | hge0
      case' inl =>
        have hu : L[k]? = some (L[k]'(by have := HL.out; omega)) := List.getElem?_eq_getElem _
        have hv : us[k]? = some (us[k]'(by have := HUL.out; omega)) := List.getElem?_eq_getElem _
        have c0 := HC.out k _ hv
        rw [← B3.cell (p := ⟨g, _, none⟩) hgw] at c0
        obtain ⟨a1, n1, c1, he1, hz⟩ := (HIN.out k _ _ hv hu).next B3
        rw [he1] at c0
        have hll := HLL.out _ (List.getElem_mem (by have := HL.out; omega : k < L.length))
        have hKk : K[k]? = some (rowTextL (L[k]'(by have := HL.out; omega))) := by rw [← HK.out, List.getElem?_map, hu]; rfl
        generalize L[k]'(by have := HL.out; omega) = s at hu hz hll hKk
        have E := Lib.hid (fun W (h : Below w3.heap.size w3 W) => specRowText a1 n1 c1 s W (hz.next h) hll)
        have HBE : Hid ((bs (rowTextL s)).toList = rowTextL s) := Lib.hid (bs_list _)
        have HU := Lib.hid hKk
        have hk7 : (k : Int) < (n : Int) := by omega
        clear hz hll hu hv he1 hKk
        generalize rowTextL s = sk at HU E HBE
        generalize bs sk = sb at E HBE
        go_wp2_with fail
        refine (E.out _ (by first | exact Below.refl _ _ | exact Below.drew (Below.refl _ _))).mono ?_
        rintro e w4 ⟨rfl, hb4⟩
        have B4 := B3.trans (hb4.mono B3.size)
        have O4 := Lib.hid (O1.kept (grown_of_below hb4) (by
          rcases hv : v1.ownBlock with _ | j
          · exact .inl rfl
          · exact .inr (by simp)))
        have hw4 := hb4.size
        clear hb4 E c0 B3 O1
        by_cases he : sk = rk
        case' pos =>
          have heq : (sb.toList == ky.toList) = true := by rw [HBE.out, HKY.out, he]; simp
          have HSAME : Hid (addR L r = L) := Lib.hid (addR_same (k := k) (by rw [HRK.out, HK.out]; exact HAT.out) (by rw [HRK.out, HK.out, HU.out, he]))
          have HTS : Hid (tk ++ us.drop k = us) := Lib.hid (by rw [← HTK.out]; exact List.take_append_drop ..)
          obtain ⟨td, htd⟩ : ∃ l, us.drop k = l := ⟨_, rfl⟩
          rw [htd] at HTS
          have HDL : Hid (td.length = (n - k) * 1) := Lib.hid (by rw [← htd, List.length_drop, HUL.out]; omega)
          have HD1 : Hid (∀ u ∈ td, u.oneCell' = true) := Lib.hid (fun u hu => HONE.out u (by rw [← htd] at hu; exact List.mem_of_mem_drop hu))
          have HDC : Hid (∀ (j : Nat) (u : Value), td[j]? = some u → w4.cell? ((⟨g, k, none⟩ : Addr).add j) = some u) := Lib.hid (fun j u hj => by
            rw [add_plain, B4.cell (p := ⟨g, k + j, none⟩) hgw]
            refine HC.out (k + j) u ?_
            rw [← htd, List.getElem?_drop] at hj
            exact hj)
          have hbw : wt.heap.size ≤ w4.heap.size := by omega
          have hcq : ¬ c = k := by omega
          clear htd he HU HAT HBE
          go_wp2_with (at_builtin; refine wpList_append_own_at _ rfl _ _ 28 rfl wt.heap.size 50 i0 (.slice none 0 0) 1 24 Tryz.underlying28 hi hz0 hz1 hz2 rfl (by decide) _ _ _ rfl O4.out _ (n - k) _ td rfl HDL.out ?hdc HD1.out ?h63b ?h48b hbw ?_)
          case hdc => intro j u hj; first | exact HDC.out j u hj | (simpa using HDC.out j u hj)
          case h63b => unfold maxLen; omega
          case h48b => omega
          intro v5 w5 hown5 hg5 _ _
          have B5 := B4.grown hg5 B4.size (fun j hj => by have := (World.ownsRow.lt O4.out j hj).1; omega)
          have e5 : k + (n - k) = n := by omega
          rw [HTS.out] at hown5
          try rw [e5] at hown5
          obtain ⟨g5, c5, rfl⟩ := own_someR hown5 (by omega)
          have HF : Hid (OutI B w5 (.slice (some ⟨g5, 0, none⟩) n c5) (addR L r) us ∧ (addR L r).length = n) := Lib.hid (by
            rw [HSAME.out]
            exact ⟨OutI.base (B := wt.heap.size) ⟨by rw [HL.out]; exact hown5, by rw [HUL.out, HL.out], fun i u s hu hs => (HIN.out i u s hu hs).next B5⟩ (by omega), HL.out⟩)
          clear hown5 hg5 O4 B4 HDC
          clear e5
          go_wp2_with fail
          go_ret
          exact ⟨g5, n, c5, us, rfl, HF.out.1, HF.out.2, B5, fun u hu => .inl hu⟩
        case' neg =>
          have heq : (sb.toList == ky.toList) = false := by rw [HBE.out, HKY.out]; exact beq_eq_false_iff_ne.2 he
          have HMORE : Hid (addR L r = (L.take k ++ [r]) ++ L.drop k) := Lib.hid (addR_more (k := k) (by rw [HRK.out, HK.out]; exact HAT.out) (by rw [HRK.out, HK.out, HU.out]; exact fun e => he (Option.some.inj e)))
          clear HU HAT HBE he
          obtain ⟨wq, rfl⟩ : ∃ x, x = w4 := ⟨_, rfl⟩
          have BQ := B4
          have hwq : w3.heap.size ≤ wq.heap.size := hw4
          have OQ := O4
          clear B4 O4 hw4
      case' inr =>
        have hge : ¬ k < n := by omega
        have HMORE : Hid (addR L r = (L.take k ++ [r]) ++ L.drop k) := Lib.hid (addR_more (k := k) (by rw [HRK.out, HK.out]; exact HAT.out) (by rw [HRK.out, HK.out]; exact fun e => by have := (List.getElem?_eq_some_iff.1 e).1; have := HKL.out; omega))
        obtain ⟨wq, hwq0⟩ : ∃ x, x = w3 := ⟨_, rfl⟩
        have hwq : w3.heap.size ≤ wq.heap.size := by rw [hwq0]; exact Nat.le_refl _
        have BQ := B3
        have OQ := Lib.hid O1
        rw [← hwq0] at BQ OQ ⊢
        clear HAT B3 O1 hwq0
      all_goals
        have hv1 := fun j hj => World.ownsRow.lt OQ.out j hj
        have P0 : OwnP wq.heap.size (wq.alloc (.cells #[] 55)) (.slice (some ⟨wq.heap.size, 0, none⟩) 0 0) [] := World.ownsRow_lit (size := 2) (e := 55) wq #[] 0 (Nat.le_refl _) (by decide) rfl
        have BP := BQ.alloc BQ.size (.cells #[] 55)
        have OP := Lib.hid (World.ownsRow.alloc OQ.out (.cells #[] 55))
        have HP := Lib.hid P0
        have HRS := Lib.hid HR.out.small
        have hr5 := HR.out.next BP
        clear P0
        rcases hr5 with ⟨rfl, rfl, rfl, hr0⟩ | ⟨x, rfl, h1, h2, h3, h4⟩
        case' inl =>
          have HU5 : Hid (OwnP wq.heap.size (wq.alloc (.cells #[] 55)) (.slice (some ⟨wq.heap.size, 0, none⟩) 0 0) r) := Lib.hid (by rw [hr0]; exact HP.out)
          have B5 := BP
          have O5 := OP
          have hw5 : wq.heap.size < (wq.alloc (.cells #[] 55)).heap.size := by simp
          have OA := Lib.hid (World.ownsRow.alloc O5.out (.cells #[.slice (some ⟨wq.heap.size, 0, none⟩) 0 0] 50))
          have BA2 := Lib.hid (B5.alloc B5.size (.cells #[.slice (some ⟨wq.heap.size, 0, none⟩) 0 0] 50))
          have hb6 : wt.heap.size ≤ ((wq.alloc (.cells #[] 55)).alloc (.cells #[.slice (some ⟨wq.heap.size, 0, none⟩) 0 0] 50)).heap.size := by simp; omega
          have HT1' := HT1
          go_wp2_with (at_builtin; refine wpList_append_own_at _ rfl _ _ 28 rfl wt.heap.size 50 i0 (.slice none 0 0) 1 24 Tryz.underlying28 hi hz0 hz1 hz2 rfl (by decide) _ _ _ rfl OA.out ⟨_, 0, none⟩ 1 1 [.slice (some ⟨wq.heap.size, 0, none⟩) 0 0] rfl rfl ?d1 ?d2 ?d3 ?d4 hb6 ?_)
          case d1 => exact one_cellV (by first | rfl | simp)
          case d2 => exact one_slice _ _ _
          case d3 => unfold maxLen; omega
          case d4 => omega
          intro v6 w6 hown6 hg6 _ hat6
          have hub := fun j hj => World.ownsRow.lt HU5.out j hj
          have U6 : RowIn w6 (.slice (some ⟨wq.heap.size, 0, none⟩) 0 0) r := by
            obtain ⟨a9, c9, e9, i9⟩ := HU5.out.is HRS.out
            have i9' : RowIn (wq.alloc (.cells #[] 55)) (.slice (some ⟨wq.heap.size, 0, none⟩) 0 0) r := ⟨a9, _, c9, e9, i9⟩
            have i10 := i9'.next ((Below.refl (wq.alloc (.cells #[] 55)).heap.size (wq.alloc (.cells #[] 55))).alloc (Nat.le_refl _) (.cells #[.slice (some ⟨wq.heap.size, 0, none⟩) 0 0] 50))
            exact i10.kept hg6 (fun j hj e => by
              have := (hub j hj).1
              have := (hv1 j e.symm).2
              omega)
          have hv6 : ∀ j, (Value.slice (some ⟨wq.heap.size, 0, none⟩) 0 0).ownBlock = some j → v6.ownBlock ≠ some j := fun j hj e => by
            rcases hat6 with h | h
            · rw [h] at e
              have := (hub j hj).1
              have := (hv1 j e).2
              omega
            · rw [h] at e
              have h9 := (hub j hj).2
              simp only [Option.some.injEq] at e
              try simp only [World.size_alloc] at e
              try simp only [World.size_alloc] at h9
              omega
          have B6 := BA2.out.grown hg6 BA2.out.size (fun j hj => by have := (World.ownsRow.lt O5.out j hj).1; omega)
          have hw6 : wt.heap.size ≤ w6.heap.size := by have := hg6.size; omega
          have HU6 := Lib.hid U6
          have HO6 := Lib.hid hown6
          have hv6l := fun j hj => (World.ownsRow.lt hown6 j hj).1
          have HUF : Hid (FromB w.heap.size (.slice (some ⟨wq.heap.size, 0, none⟩) 0 0)) := Lib.hid (fun j hj => by have := (hub j hj).1; have := BQ.size; omega)
          clear hown6 hg6 hat6 OA BA2 HU5 O5 B5 hub U6 HP BP OP BQ OQ
          generalize Value.slice (some ⟨wq.heap.size, 0, none⟩) 0 0 = uz at HU6 hv6 HO6 HUF
        case' inr =>
          have A := Lib.hid (fun j u hj => pres_news h4 j u hj)
          have H3 := Lib.hid h3
          have HF2 := Lib.hid (flatP_one r)
          clear h4 h3
          go_wp2_with (at_builtin; refine wpList_append_own_at _ rfl _ _ 50 rfl wq.heap.size 55 j0 (.agg #[.string ⟨#[]⟩, .string ⟨#[]⟩]) 2 32 Tryz.underlying50 hj hy0 hy1 hy2 rfl (by decide) _ _ _ rfl HP.out x len cap (flatP r) rfl (by rw [flatP_len, H3.out]) A.out HF2.out ?qc4 ?qc5 ?qc6 ?_)
          case qc4 => (try rw [List.length_nil]); unfold maxLen; omega
          case qc5 => (try rw [List.length_nil]); omega
          case qc6 => simp
          intro uz wz hown hgrow _ _
          have HU5 : Hid (OwnP wq.heap.size wz uz r) := Lib.hid (by unfold OwnP; rw [H3.out]; simpa [flatP] using hown)
          have B5 := BP.grown hgrow BP.size (fun j hj => by simp [Value.ownBlock] at hj; have := BQ.size; omega)
          have O5 : Hid (wz.ownsRow wt.heap.size 50 1 v1 k tk) := Lib.hid (World.ownsRow.kept OP.out hgrow (by
            rcases hv : v1.ownBlock with _ | j
            · exact .inl rfl
            · refine .inr (fun e => ?_)
              simp [Value.ownBlock] at e
              have := (hv1 j hv).2
              omega))
          have hw5 : wq.heap.size < wz.heap.size := by have := hgrow.size; simp at this; omega
          have hbq := BQ.size
          obtain ⟨ga, ca, hua, _⟩ := HU5.out.is HRS.out
          obtain ⟨la, hla⟩ : ∃ n, r.length = n := ⟨_, rfl⟩
          rw [hla] at hua
          subst hua
          clear hown hgrow HP OP BP BQ OQ A H3 HF2 hla h1 h2
          have OA := Lib.hid (World.ownsRow.alloc O5.out (.cells #[.slice ga la ca] 50))
          have BA2 := Lib.hid (B5.alloc B5.size (.cells #[.slice ga la ca] 50))
          have hb6 : wt.heap.size ≤ (wz.alloc (.cells #[.slice ga la ca] 50)).heap.size := by simp; omega
          have HT1' := HT1
          go_wp2_with (at_builtin; refine wpList_append_own_at _ rfl _ _ 28 rfl wt.heap.size 50 i0 (.slice none 0 0) 1 24 Tryz.underlying28 hi hz0 hz1 hz2 rfl (by decide) _ _ _ rfl OA.out ⟨_, 0, none⟩ 1 1 [.slice ga la ca] rfl rfl ?d1 ?d2 ?d3 ?d4 hb6 ?_)
          case d1 => exact one_cellV (by first | rfl | simp)
          case d2 => exact one_slice _ _ _
          case d3 => unfold maxLen; omega
          case d4 => omega
          intro v6 w6 hown6 hg6 _ hat6
          have hub := fun j hj => World.ownsRow.lt HU5.out j hj
          have U6 : RowIn w6 (.slice ga la ca) r := by
            obtain ⟨a9, c9, e9, i9⟩ := HU5.out.is HRS.out
            have i9' : RowIn wz (.slice ga la ca) r := ⟨a9, _, c9, e9, i9⟩
            have i10 := i9'.next ((Below.refl wz.heap.size wz).alloc (Nat.le_refl _) (.cells #[.slice ga la ca] 50))
            exact i10.kept hg6 (fun j hj e => by
              have := (hub j hj).1
              have := (hv1 j e.symm).2
              omega)
          have hv6 : ∀ j, (Value.slice ga la ca).ownBlock = some j → v6.ownBlock ≠ some j := fun j hj e => by
            rcases hat6 with h | h
            · rw [h] at e
              have := (hub j hj).1
              have := (hv1 j e).2
              omega
            · rw [h] at e
              have h9 := (hub j hj).2
              simp only [Option.some.injEq] at e
              try simp only [World.size_alloc] at e
              try simp only [World.size_alloc] at h9
              omega
          have B6 := BA2.out.grown hg6 BA2.out.size (fun j hj => by have := (World.ownsRow.lt O5.out j hj).1; omega)
          have hw6 : wt.heap.size ≤ w6.heap.size := by have := hg6.size; omega
          have HU6 := Lib.hid U6
          have HO6 := Lib.hid hown6
          have hv6l := fun j hj => (World.ownsRow.lt hown6 j hj).1
          have HUF : Hid (FromB w.heap.size (.slice ga la ca)) := Lib.hid (fun j hj => by have := (hub j hj).1; omega)
          clear hown6 hg6 hat6 OA BA2 HU5 O5 B5 hub U6 hbq
          generalize Value.slice ga la ca = uz at HU6 hv6 HO6 HUF
        all_goals
          obtain ⟨td, htd⟩ : ∃ l, us.drop k = l := ⟨_, rfl⟩
          have HDL : Hid (td.length = (n - k) * 1) := Lib.hid (by rw [← htd, List.length_drop, HUL.out]; omega)
          have HD1 : Hid (∀ u ∈ td, u.oneCell' = true) := Lib.hid (fun u hu => HONE.out u (by rw [← htd] at hu; exact List.mem_of_mem_drop hu))
          have HDC : Hid (∀ (j : Nat) (u : Value), td[j]? = some u → w6.cell? ((⟨g, k, none⟩ : Addr).add j) = some u) := Lib.hid (fun j u hj => by
            rw [add_plain, B6.cell (p := ⟨g, k + j, none⟩) hgw]
            refine HC.out (k + j) u ?_
            rw [← htd, List.getElem?_drop] at hj
            exact hj)
          have HTD := Lib.hid htd
          clear htd
          try clear hlt
          try clear hk7
          try clear hge
          try clear hge0
          by_cases hcq : c = k
          case' pos =>
            have HTD0 : Hid (td = []) := Lib.hid (List.length_eq_zero_iff.1 (by rw [HDL.out]; omega))
            go_wp2_with (at_builtin; refine wpList_append_own_at _ rfl _ _ 28 rfl wt.heap.size 50 i0 (.slice none 0 0) 1 24 Tryz.underlying28 hi hz0 hz1 hz2 rfl (by decide) _ _ _ rfl HO6.out _ (n - k) _ td rfl HDL.out ?hcl HD1.out ?h63c ?h48c hw6 ?_)
            case hcl => intro j u hj; rw [HTD0.out] at hj; simp at hj
            case h63c => unfold maxLen; omega
            case h48c => omega
          case' neg =>
            go_wp2_with (at_builtin; refine wpList_append_own_at _ rfl _ _ 28 rfl wt.heap.size 50 i0 (.slice none 0 0) 1 24 Tryz.underlying28 hi hz0 hz1 hz2 rfl (by decide) _ _ _ rfl HO6.out _ (n - k) _ td rfl HDL.out ?hcl HD1.out ?h63c ?h48c hw6 ?_)
            case hcl => intro j u hj; first | exact HDC.out j u hj | (simpa using HDC.out j u hj)
            case h63c => unfold maxLen; omega
            case h48c => omega
          all_goals
            intro v7 w7 hown7 hg7 _ _
            have B7 := B6.grown hg7 B6.size (fun j hj => by have := hv6l j hj; omega)
            have U7 := HU6.out.kept hg7 (fun j hj e => hv6 j hj e.symm)
            have e7 : k + 1 + (n - k) = n + 1 := by omega
            try rw [e7] at hown7
            obtain ⟨g7, c7, rfl⟩ := own_someR hown7 (by omega)
            have O7 : w7.ownsRow wt.heap.size 50 1 (.slice (some ⟨g7, 0, none⟩) (n + 1) c7) (n + 1) ((us.take k ++ [uz]) ++ us.drop k) := by
              rw [HTK.out, HTD.out]; simpa using hown7
            have HF : Hid (OutI B w7 (.slice (some ⟨g7, 0, none⟩) (n + 1) c7) (addR L r) ((us.take k ++ [uz]) ++ us.drop k) ∧ (addR L r).length = n + 1) := Lib.hid (by
              rw [HMORE.out]
              exact ⟨OutI.base (OutI.ins HL.out HUL.out hk O7 (fun i u s hu hs => (HIN.out i u s hu hs).next B7) U7) (by omega), by simp [List.length_take, HL.out]; omega⟩)
            clear hown7 hg7 O7 U7 HO6 HU6 HDC B6 hv6
            clear e7
            go_wp2_with fail
            go_ret
            exact ⟨g7, n + 1, c7, _, rfl, HF.out.1, HF.out.2, B7, fun u hu => (ins_mem hu).imp id (fun e => by rw [e]; exact HUF.out)⟩
theorem specAdd (B g n c : Nat) (L : List RowV) (us : List Value) (a : Option Addr) (len cap : Nat) (r : RowV) (w : World) (h : OutI B w (.slice (some ⟨g, 0, none⟩) n c) L us) (hn : L.length = n) (hl : n ≤ 1048576) (hB : B ≤ w.heap.size)
    (hr : IsPres w a len cap r) (hlr : len ≤ 1048576) (hL : LongR L) (hrL : (rowTextL r).length ≤ 140737488355328) :
    Calls Tryz.prog 103 #[.slice (some ⟨g, 0, none⟩) n c, .slice a len cap] w fun e w' => ∃ g' n' c' us', e = .returned (.slice (some ⟨g', 0, none⟩) n' c') ∧ OutI B w' (.slice (some ⟨g', 0, none⟩) n' c') (addR L r) us' ∧ (addR L r).length = n' ∧ Below w.heap.size w w' :=
  (specAddF B g n c L us a len cap r w h hn hl hB hr hlr hL hrL).mono fun _ _ ⟨g', n', c', us', h1, h2, h3, h4, _⟩ => ⟨g', n', c', us', h1, h2, h3, h4⟩
end Go.Proofs.YtiajdnhmjdfeeaaGreat
namespace Go.Proofs.YtiajdnhmjdfeeaaGreat
open Go.RowKit Go.WideShapes Go.Maps
theorem addR_more_len (rs : List RowV) (r : RowV) : rs.length ≤ (addR rs r).length := by
  unfold addR
  split
  · exact Nat.le_refl _
  · simp [List.length_take]; omega
theorem addAllR_grows : ∀ (l rs : List RowV), rs.length ≤ (addAllR rs l).length
  | [], _ => Nat.le_refl _
  | r :: l, rs => Nat.le_trans (addR_more_len rs r) (addAllR_grows l (addR rs r))
theorem addAllR_app (rs l m : List RowV) : addAllR rs (l ++ m) = addAllR (addAllR rs l) m := by unfold addAllR; rw [List.foldl_append]
/-- What the first k rows, and of the next one the first j triples, give. -/
def uptoM (g : List Tri3) (p : Tri3) (rows : List RowV) (k j : Nat) : List RowV := joinM g p (rows.take k) ++ (match rows[k]? with | some r => (g.take j).filterMap (fun t => matchM r p t) | none => [])
theorem uptoM_start (g : List Tri3) (p : Tri3) (rows : List RowV) (k : Nat) : uptoM g p rows k 0 = joinM g p (rows.take k) := by
  unfold uptoM
  cases rows[k]? <;> simp
theorem uptoM_next {g : List Tri3} {p : Tri3} {rows : List RowV} {k j : Nat} {r : RowV} {t : Tri3} (hr : rows[k]? = some r) (ht : g[j]? = some t) : uptoM g p rows k (j + 1) = uptoM g p rows k j ++ (matchM r p t).toList := by
  have hl := (List.getElem?_eq_some_iff.1 ht).1
  have e : g.take (j + 1) = g.take j ++ [t] := by
    rw [List.take_succ_eq_append_getElem hl]
    rw [List.getElem?_eq_getElem hl] at ht
    rw [Option.some.inj ht]
  unfold uptoM
  rw [hr]
  have e3 : [t].filterMap (fun t => matchM r p t) = (matchM r p t).toList := by cases h : matchM r p t <;> simp [h]
  simp only [e, List.filterMap_append, List.append_assoc, e3]
theorem uptoM_row {g : List Tri3} {p : Tri3} {rows : List RowV} {k : Nat} {r : RowV} (hr : rows[k]? = some r) : uptoM g p rows k g.length = joinM g p (rows.take (k + 1)) := by
  have hl := (List.getElem?_eq_some_iff.1 hr).1
  have e : rows.take (k + 1) = rows.take k ++ [r] := by
    rw [List.take_succ_eq_append_getElem hl]
    rw [List.getElem?_eq_getElem hl] at hr
    rw [Option.some.inj hr]
  unfold uptoM joinM
  rw [hr, e, List.flatMap_append]
  simp
theorem uptoM_part {g : List Tri3} {p : Tri3} {rows : List RowV} {k j : Nat} (hk : k < rows.length) : ∃ m, joinM g p rows = uptoM g p rows k j ++ m := by
  have hr : rows[k]? = some rows[k] := List.getElem?_eq_getElem hk
  refine ⟨(g.drop j).filterMap (fun t => matchM rows[k] p t) ++ joinM g p (rows.drop (k + 1)), ?_⟩
  have e : rows = rows.take k ++ (rows[k] :: rows.drop (k + 1)) := by rw [← List.drop_eq_getElem_cons hk, List.take_append_drop]
  unfold uptoM
  rw [hr]
  conv => lhs; rw [e]
  unfold joinM
  rw [List.flatMap_append, List.flatMap_cons]
  have e2 : g.filterMap (fun t => matchM rows[k] p t) = (g.take j).filterMap (fun t => matchM rows[k] p t) ++ (g.drop j).filterMap (fun t => matchM rows[k] p t) := by rw [← List.filterMap_append, List.take_append_drop]
  rw [e2]
  simp [List.append_assoc]
theorem uptoM_over {g : List Tri3} {p : Tri3} {rows : List RowV} {k j : Nat} (hk : k < rows.length) (h : 300 < (addAllR [] (uptoM g p rows k j)).length) : 300 < (addAllR [] (joinM g p rows)).length := by
  obtain ⟨m, e⟩ := uptoM_part (g := g) (p := p) (j := j) hk
  rw [e, addAllR_app]
  exact Nat.lt_of_lt_of_le h (addAllR_grows _ _)
/-- Rows of at most m pairs, all of them short. -/
def SmQ (m : Nat) (rows : List RowV) : Prop := ∀ r ∈ rows, r.length ≤ m ∧ SmP r
theorem matchM_small {r h : RowV} {p t : Tri3} (hr : SmP r) (hp : p.1.size ≤ 1048576 ∧ p.2.1.size ≤ 1048576 ∧ p.2.2.size ≤ 1048576) (ht : t.1.size ≤ 1048576 ∧ t.2.1.size ≤ 1048576 ∧ t.2.2.size ≤ 1048576) (e : matchM r p t = some h) : SmP h := by
  intro u hu
  rcases matchM_mem e hu with hu | ⟨_, rfl | rfl | rfl⟩
  · exact hr u hu
  · exact ⟨hp.1, ht.1⟩
  · exact ⟨hp.2.1, ht.2.1⟩
  · exact ⟨hp.2.2, ht.2.2⟩
def SmT (ts : List Tri3) : Prop := ∀ t ∈ ts, t.1.size ≤ 1048576 ∧ t.2.1.size ≤ 1048576 ∧ t.2.2.size ≤ 1048576
theorem SmQ.join {m : Nat} {g : List Tri3} {p : Tri3} {rows : List RowV} (h : SmQ m rows) (hg : SmT g) (hp : p.1.size ≤ 1048576 ∧ p.2.1.size ≤ 1048576 ∧ p.2.2.size ≤ 1048576) : SmQ (m + 3) (joinM g p rows) := by
  intro r hr
  obtain ⟨q, hq, t, ht, e⟩ := joinM_mem.1 hr
  obtain ⟨h1, h2⟩ := h q hq
  exact ⟨by have := matchM_len e; omega, matchM_small h2 hp (hg t ht) e⟩
theorem SmQ.add {m : Nat} {L : List RowV} (h : SmQ m L) : SmQ m (addAllR [] L) := fun r hr => by
  rcases addAllR_mem hr with hr | hr
  · simp at hr
  · exact h r hr
theorem SmQ.long {m : Nat} {L : List RowV} (h : SmQ m L) (hm : m ≤ 1000) : LongR L := fun r hr => by
  obtain ⟨h1, h2⟩ := h r hr
  have := rowText_len h2
  omega
theorem OutI.at {B g n c : Nat} {w : World} {R : List RowV} {us : List Value} (h : OutI B w (.slice (some ⟨g, 0, none⟩) n c) R us) (hn : R.length = n) {k : Nat} (hk : k < n) : ∃ a1 n1 c1 r, R[k]? = some r ∧ w.cell? ⟨g, k, none⟩ = some (.slice a1 n1 c1) ∧ IsPres w a1 n1 c1 r := by
  have hu : us[k]? = some (us[k]'(by have := h.2.1; omega)) := List.getElem?_eq_getElem _
  have hr : R[k]? = some (R[k]'(by omega)) := List.getElem?_eq_getElem _
  obtain ⟨a1, n1, c1, e, hz⟩ := h.2.2 k _ _ hu hr
  have h1 := h.1
  rw [hn] at h1
  exact ⟨a1, n1, c1, _, hr, by rw [World.ownsRow.cellAt h1 k (by omega), hu, e], hz⟩
theorem solveM_over {g : List Tri3} {ls : List Tri3} {p : Tri3} {R : List RowV} {k j i : Nat} (hp : ls[i]? = some p) (hk : k < R.length) (h : 300 < (addAllR [] (uptoM g p R k j)).length) : solveM g (ls.drop i) R = none := by
  have hl := (List.getElem?_eq_some_iff.1 hp).1
  rw [List.drop_eq_getElem_cons hl]
  rw [List.getElem?_eq_getElem hl] at hp
  rw [Option.some.inj hp]
  unfold solveM
  rw [if_neg (by have := uptoM_over hk h; omega)]
theorem solveM_next {g : List Tri3} {ls : List Tri3} {p : Tri3} {R : List RowV} {i : Nat} (hp : ls[i]? = some p) (h : (addAllR [] (joinM g p R)).length ≤ 300) : solveM g (ls.drop i) R = solveM g (ls.drop (i + 1)) (addAllR [] (joinM g p R)) := by
  have hl := (List.getElem?_eq_some_iff.1 hp).1
  rw [List.drop_eq_getElem_cons hl]
  rw [List.getElem?_eq_getElem hl] at hp
  rw [Option.some.inj hp]
  conv => lhs; unfold solveM
  rw [if_pos h]
/-- Rows of a call's own, told by their handles, all from B on. -/
def OwnF (B : Nat) (w : World) (v : Value) (rs : List RowV) : Prop := ∃ us, OutI B w v rs us ∧ ∀ u ∈ us, FromB B u
theorem OwnF.is {B : Nat} {w : World} {v : Value} {rs : List RowV} (h : OwnF B w v rs) : ∃ a cap, v = .slice a rs.length cap ∧ IsRows w a rs.length cap rs := by
  obtain ⟨us, h, _⟩ := h
  exact h.is
theorem OwnF.isN {B : Nat} {w : World} {a : Option Addr} {n c : Nat} {rs : List RowV} (h : OwnF B w (.slice a n c) rs) : IsRows w a n c rs := by
  obtain ⟨a9, c9, e9, i9⟩ := h.is
  simp only [Value.slice.injEq] at e9
  obtain ⟨e1, e2, e3⟩ := e9
  rw [e1, e2, e3]
  exact i9
theorem OwnF.none (B : Nat) (w : World) : OwnF B w (.slice none 0 0) [] := ⟨[], ⟨World.ownsRow_nil .., rfl, fun i u r h => by simp at h⟩, fun u h => by simp at h⟩
theorem OwnF.base {B C : Nat} {w : World} {v : Value} {rs : List RowV} (h : OwnF B w v rs) (hc : C ≤ B) : OwnF C w v rs := by
  obtain ⟨us, h, hf⟩ := h
  exact ⟨us, h.base hc, fun u hu j hj => Nat.le_trans hc (hf u hu j hj)⟩
/-- What lies from B on stays where only one block ahead of B is written. -/
theorem OwnF.kept {B : Nat} {w w' : World} {v : Value} {rs : List RowV} {row : Option Nat} (h : OwnF B w v rs) (hg : w.grownBy w' row) (hr : ∀ j, row = some j → j < B) : OwnF B w' v rs := by
  obtain ⟨us, ⟨h1, h2, h3⟩, hf⟩ := h
  refine ⟨us, ⟨World.ownsRow.kept h1 hg ?_, h2, fun i u r hu hrr => (h3 i u r hu hrr).kept hg fun j hj e => ?_⟩, hf⟩
  · rcases hv : v.ownBlock with _ | q
    · exact .inl rfl
    · refine .inr fun e => ?_
      have := (World.ownsRow.lt h1 q hv).1
      have := hr q e.symm
      omega
  · have := hf u (List.mem_of_getElem? hu) j hj
    have := hr j e.symm
    omega
theorem OwnF.next {B : Nat} {w w' : World} {v : Value} {rs : List RowV} (h : OwnF B w v rs) (hb : Below w.heap.size w w') : OwnF B w' v rs := h.kept (grown_of_below hb) (fun j hj => by cases hj)
/-- The same, told to lie ahead of C, too. -/
def OwnFC (B C : Nat) (w : World) (v : Value) (rs : List RowV) : Prop := ∃ us, OutI B w v rs us ∧ (∀ u ∈ us, FromB B u) ∧ (∀ j, v.ownBlock = some j → j < C) ∧ ∀ (i : Nat) (u : Value) (r : RowV), us[i]? = some u → rs[i]? = some r → 0 < r.length → ∀ j, u.ownBlock = some j → j < C
theorem OwnFC.f {B C : Nat} {w : World} {v : Value} {rs : List RowV} (h : OwnFC B C w v rs) : OwnF B w v rs := by
  obtain ⟨us, h1, h2, _⟩ := h
  exact ⟨us, h1, h2⟩
theorem OwnFC.kept {B C : Nat} {w w' : World} {v : Value} {rs : List RowV} {row : Option Nat} (h : OwnFC B C w v rs) (hg : w.grownBy w' row) (hr : ∀ j, row = some j → j < B ∨ C ≤ j) : OwnFC B C w' v rs := by
  obtain ⟨us, ⟨h1, h2, h3⟩, hf, hv, hu⟩ := h
  refine ⟨us, ⟨World.ownsRow.kept h1 hg ?_, h2, fun i u r hi hrr => ?_⟩, hf, hv, hu⟩
  · rcases hb : v.ownBlock with _ | q
    · exact .inl rfl
    · refine .inr fun e => ?_
      have := (World.ownsRow.lt h1 q hb).1
      have := hv q hb
      have := hr q e.symm
      omega
  · obtain ⟨a, n, c, rfl, hz⟩ := h3 i u r hi hrr
    refine ⟨a, n, c, rfl, hz.keptAt hg fun h0 x hx e => ?_⟩
    have hb : (Value.slice a n c).ownBlock = some x.block := by subst hx; rfl
    have := hf _ (List.mem_of_getElem? hi) _ hb
    have := hu i _ r hi hrr (by rw [hz.len]; exact h0) _ hb
    have := hr _ e.symm
    omega
theorem OutI.rows {B g n c : Nat} {w : World} {R : List RowV} {us : List Value} (h : OutI B w (.slice (some ⟨g, 0, none⟩) n c) R us) : IsRows w (some ⟨g, 0, none⟩) n c R := by
  obtain ⟨a9, c9, e9, i9⟩ := h.is
  simp only [Value.slice.injEq] at e9
  obtain ⟨e1, e2, e3⟩ := e9
  rw [e1, e2, e3]
  exact i9
theorem out_one {B : Nat} {w : World} {a : Option Addr} {n c : Nat} {r : RowV} (hB : B ≤ w.heap.size) (h : IsPres w a n c r) : OutI B (w.alloc (.cells #[.slice a n c] 50)) (.slice (some ⟨w.heap.size, 0, none⟩) 1 1) [r] [.slice a n c] :=
  ⟨World.ownsRow_lit (size := 1) (e := 50) w #[.slice a n c] 1 hB (by decide) rfl, rfl, fun i u s hu hs => by
    obtain rfl : i = 0 := by have := (List.getElem?_eq_some_iff.1 hu).1; simp at this; omega
    obtain rfl : Value.slice a n c = u := by simpa using hu
    obtain rfl : r = s := by simpa using hs
    exact ⟨a, n, c, rfl, h.next ((Below.refl w.heap.size w).alloc (Nat.le_refl _) _)⟩⟩
def SolvePostF (gs ls : List Tri3) (r0 : RowV) (w : World) (e : Ending) (w' : World) : Prop :=
  ∃ x n c, e = .returned (.tuple #[.slice x n c, .bool (solveM gs ls [r0]).isSome]) ∧ OwnF w.heap.size w' (.slice x n c) ((solveM gs ls [r0]).getD []) ∧ Below w.heap.size w w'
def SolvePost (gs ls : List Tri3) (r0 : RowV) (w : World) (e : Ending) (w' : World) : Prop :=
  ∃ x n c, e = .returned (.tuple #[.slice x n c, .bool (solveM gs ls [r0]).isSome]) ∧ IsRows w' x n c ((solveM gs ls [r0]).getD []) ∧ Below w.heap.size w w'
set_option maxRecDepth 100000 in
set_option maxHeartbeats 6400000 in
theorem specSolveF (a b s : Option Addr) (la ca lb cb sn sc : Nat) (gs ls : List Tri3) (r0 : RowV) (w : World) (ha : IsTris w a la ca gs) (hb : IsTris w b lb cb ls) (hs : IsPres w s sn sc r0) (hla : la ≤ 80) (hlb : lb ≤ 4) (hsn : sn ≤ 12) (hga : SmT gs) (hgb : SmT ls) (hr0 : SmP r0) :
    Calls Tryz.prog 48 #[.slice a la ca, .slice s sn sc, .slice b lb cb] w (SolvePostF gs ls r0 w) := by
  obtain ⟨j0, hj0, hy0, hy1, hy2⟩ := info_parts infoPair
  have HGA := Lib.hid hga
  have HGB := Lib.hid hgb
  have HLA := Lib.hid ha.len
  have HLB := Lib.hid hb.len
  have HA := Lib.hid ha
  have HB := Lib.hid hb
  have HR0 := Lib.hid hr0
  have HSL := Lib.hid hs.len
  have HSS := Lib.hid hs.small
  obtain ⟨RES, hRES⟩ : ∃ x, solveM gs ls [r0] = x := ⟨_, rfl⟩
  have HRES := Lib.hid hRES
  unfold SolvePostF
  rw [hRES]
  clear hRES hga hgb ha hb hr0
  have P0 : OwnP w.heap.size (w.alloc (.cells #[] 55)) (.slice (some ⟨w.heap.size, 0, none⟩) 0 0) [] := World.ownsRow_lit (size := 2) (e := 55) w #[] 0 (Nat.le_refl _) (by decide) rfl
  have HP := Lib.hid P0
  have BP := (Below.refl w.heap.size w).alloc (Nat.le_refl _) (.cells #[] 55)
  have hs5 := hs.next BP
  clear hs P0
  go_enter Tryz.func48, Tryz.ntmps48
  rcases hs5 with ⟨rfl, rfl, rfl, hr0⟩ | ⟨x, rfl, h1, h2, h3, h4⟩
  case' inl =>
    have ip : IsPres (w.alloc (.cells #[] 55)) (some ⟨w.heap.size, 0, none⟩) 0 0 r0 := .inr ⟨_, rfl, Nat.le_refl _, Nat.zero_le _, by rw [hr0]; rfl, by rw [hr0]; simp⟩
    have hO := Lib.hid (out_one BP.size ip)
    have BO := BP.alloc BP.size (.cells #[.slice (some ⟨w.heap.size, 0, none⟩) 0 0] 50)
    rw [World.size_alloc] at hO
    clear ip hr0 HP
    go_wp2_with fail
    generalize (w.alloc (.cells #[] 55)).alloc (.cells #[.slice (some ⟨w.heap.size, 0, none⟩) 0 0] 50) = w0 at hO BO ⊢
    have HO0 : Hid (∃ us, OutI w.heap.size w0 (.slice (some ⟨w.heap.size + 1, 0, none⟩) 1 1) [r0] us ∧ ∀ u ∈ us, FromB w.heap.size u) := Lib.hid ⟨_, hO.out, fun u hu j hj => by
      obtain rfl := List.mem_singleton.1 hu
      simp [Value.ownBlock] at hj
      omega⟩
    clear hO BP
    generalize w.heap.size + 1 = rb at HO0 ⊢
  case' inr =>
    have A := Lib.hid (fun j u hj => pres_news h4 j u hj)
    have H3 := Lib.hid h3
    have HF2 := Lib.hid (flatP_one r0)
    clear h4 h3
    go_wp2_with (at_builtin; refine wpList_append_own_at _ rfl _ _ 50 rfl w.heap.size 55 j0 (.agg #[.string ⟨#[]⟩, .string ⟨#[]⟩]) 2 32 Tryz.underlying50 hj0 hy0 hy1 hy2 rfl (by decide) _ _ _ rfl HP.out x sn sc (flatP r0) rfl (by rw [flatP_len, H3.out]) A.out HF2.out ?qc4 ?qc5 ?qc6 ?_)
    case qc4 => (try rw [List.length_nil]); unfold maxLen; omega
    case qc5 => (try rw [List.length_nil]); omega
    case qc6 => simp
    intro uz wz hown hgrow _ _
    have HU5 : OwnP w.heap.size wz uz r0 := by unfold OwnP; rw [H3.out]; simpa [flatP] using hown
    have B5 := BP.grown hgrow BP.size (fun j hj => by simp [Value.ownBlock] at hj; omega)
    obtain ⟨ga, ca', rfl, ip⟩ := HU5.is HSS.out
    have huf := fun j hj => (World.ownsRow.lt HU5 j hj).1
    have hO := Lib.hid (out_one B5.size ip)
    have BO := B5.alloc B5.size (.cells #[.slice ga r0.length ca'] 50)
    have HUF := Lib.hid huf
    clear hown hgrow HU5 A HP ip H3 HF2 h1 h2 huf
    go_wp2_with fail
    generalize wz.alloc (.cells #[.slice ga r0.length ca'] 50) = w0 at hO BO ⊢
    have HO0 : Hid (∃ us, OutI w.heap.size w0 (.slice (some ⟨wz.heap.size, 0, none⟩) 1 1) [r0] us ∧ ∀ u ∈ us, FromB w.heap.size u) := Lib.hid ⟨_, hO.out, fun u hu j hj => by
      obtain rfl := List.mem_singleton.1 hu
      exact HUF.out j hj⟩
    clear hO B5 BP HUF
    generalize wz.heap.size = rb at HO0 ⊢
  all_goals
    go_loopw [8, 9] (fun v i wr => ∃ k g n c : Nat, k ≤ lb ∧ i = .int .i64 k ∧ v = .slice (some ⟨g, 0, none⟩) n c ∧ n ≤ 300 ∧ (∃ R us, Hid (OutI w.heap.size wr (.slice (some ⟨g, 0, none⟩) n c) R us ∧ R.length = n ∧ (solveM gs (ls.drop k) R = RES ∧ SmQ (12 + 3 * k) R) ∧ ∀ u ∈ us, FromB w.heap.size u)) ∧ Below w.heap.size w wr) (fun _ i _ => lb - (intOf i).toNat)
    case atStart =>
      obtain ⟨us0, hus0⟩ := HO0.out
      exact ⟨0, rb, 1, 1, Nat.zero_le _, rfl, rfl, by omega, ⟨[r0], us0, Lib.hid ⟨hus0.1, rfl, ⟨by rw [List.drop_zero]; exact HRES.out, fun r hr => by
        obtain rfl : r = r0 := by simpa using hr
        exact ⟨by rw [HSL.out]; omega, HR0.out⟩⟩, hus0.2⟩⟩, BO⟩
    case round =>
      obtain ⟨i, g, n, c, hi, rfl, rfl, hn, ⟨R, us, HR⟩, hnx⟩ := hrel
      clear HO0 BO
      have hi6 : (0 : Int) ≤ (i : Int) := by omega
      have HRN := Lib.hid HR.out.2.1
      have HRS := Lib.hid HR.out.2.2.1
      have HRF := Lib.hid HR.out.2.2.2
      have HRO := Lib.hid HR.out.1
      clear HR
      by_cases hil : i < lb
      · obtain ⟨pb, po, rfl, hpb, _, _, hts, hcs⟩ := HB.out.cells (by omega)
        have ht : ls[i]? = some (ls[i]'(by omega)) := List.getElem?_eq_getElem (by omega)
        have hp0 := hcs i _ ht
        have hps := HGB.out _ (List.getElem_mem (by omega : i < ls.length))
        generalize ls[i]'(by omega) = p at ht hp0 hps
        have HPT := Lib.hid ht
        have HPS := Lib.hid hps
        have HPC := Lib.hid (And.intro hp0.1 (And.intro hp0.2.1 hp0.2.2.1))
        have hi7 : (i : Int) < (lb : Int) := by omega
        clear hts hcs ht hp0 hps
        obtain ⟨wo, rfl⟩ : ∃ x, x = wr := ⟨_, rfl⟩
        have O0 : OutI wo.heap.size (wo.alloc (.cells #[] 50)) (.slice (some ⟨wo.heap.size, 0, none⟩) 0 0) [] [] := ⟨World.ownsRow_lit (size := 1) (e := 50) wo #[] 0 (Nat.le_refl _) (by decide) rfl, rfl, by simp⟩
        have HO0 := Lib.hid O0
        have B2 := (Below.refl wo.heap.size wo).alloc (Nat.le_refl _) (.cells #[] 50)
        have HNX := Lib.hid hnx
        clear O0 hnx
        go_wp2_with fail
        go_loopw [10, 11] (fun v k' wr => ∃ k g' n' c' : Nat, k ≤ n ∧ k' = .int .i64 k ∧ v = .slice (some ⟨g', 0, none⟩) n' c' ∧ n' ≤ 300 ∧ (∃ us', Hid ((OutI wo.heap.size wr (.slice (some ⟨g', 0, none⟩) n' c') (addAllR [] (joinM gs p (R.take k))) us' ∧ (addAllR [] (joinM gs p (R.take k))).length = n') ∧ ∀ u ∈ us', FromB wo.heap.size u)) ∧ Below wo.heap.size wo wr) (fun _ k' _ => n - (intOf k').toNat)
        case atStart => exact ⟨0, _, 0, 0, Nat.zero_le _, rfl, rfl, by omega, ⟨[], Lib.hid ⟨⟨by simpa [joinM, addAllR] using HO0.out, by simp [joinM, addAllR]⟩, fun u hu => by simp at hu⟩⟩, B2⟩
        case round =>
          obtain ⟨k, g', n', c', hk, rfl, rfl, hn', ⟨us', HQ⟩, hbx⟩ := hrel
          clear HO0 B2
          have hk6 : (0 : Int) ≤ (k : Int) := by omega
          by_cases hkl : k < n
          · obtain ⟨a1, n1, c1, r, hr, hc0, hz⟩ := HRO.out.at HRN.out hkl
            have hrm := HRS.out.2 r (List.mem_of_getElem? hr)
            have HRK := Lib.hid hr
            have HC0 := Lib.hid hc0
            have HZ := Lib.hid hz
            have HRM := Lib.hid hrm
            have hn1 : n1 ≤ 1000 := by have := hz.len; omega
            have hglt : g < wo.heap.size := by have := World.block_lt_of_cell? _ _ hc0; simpa using this
            have HQ0 : Hid ((OutI wo.heap.size wr (.slice (some ⟨g', 0, none⟩) n' c') (addAllR [] (uptoM gs p R k 0)) us' ∧ (addAllR [] (uptoM gs p R k 0)).length = n') ∧ ∀ u ∈ us', FromB wo.heap.size u) := Lib.hid (by rw [uptoM_start]; exact HQ.out)
            have hk7 : (k : Int) < (n : Int) := by omega
            clear hr hc0 hz hrm HQ
            go_wp2_with fail
            go_loopw [10, 12] (fun v j' wr => ∃ j g' n' c' : Nat, j ≤ la ∧ j' = .int .i64 j ∧ v = .slice (some ⟨g', 0, none⟩) n' c' ∧ n' ≤ 300 ∧ (∃ us', Hid ((OutI wo.heap.size wr (.slice (some ⟨g', 0, none⟩) n' c') (addAllR [] (uptoM gs p R k j)) us' ∧ (addAllR [] (uptoM gs p R k j)).length = n') ∧ ∀ u ∈ us', FromB wo.heap.size u)) ∧ Below wo.heap.size wo wr) (fun _ j' _ => la - (intOf j').toNat)
            case atStart => exact ⟨0, g', n', c', Nat.zero_le _, rfl, rfl, hn', ⟨us', HQ0⟩, hbx⟩
            case round =>
              clear HQ0 hbx hn'
              obtain ⟨j, g', n', c', hj, rfl, rfl, hn', ⟨us', HQ⟩, hbx⟩ := hrel
              have hj6 : (0 : Int) ≤ (j : Int) := by omega
              by_cases hjl : j < la
              · obtain ⟨tb, to, rfl, htb, _, _, hts, hcs⟩ := HA.out.cells (by omega)
                have ht : gs[j]? = some (gs[j]'(by omega)) := List.getElem?_eq_getElem (by omega)
                have ht0 := hcs j _ ht
                generalize gs[j]'(by omega) = t at ht ht0
                have HTT := Lib.hid ht
                have hnx := HNX.out.trans (hbx.mono HNX.out.size)
                have hz := HZ.out.next hbx
                have CP' := specMatch a1 n1 c1 r p t wr.drew (hz.next (Below.drew (Below.refl _ _))) hn1 (by have := HPS.out; omega)
                have HUN := Lib.hid (uptoM_next (p := p) HRK.out ht)
                have q0 : wr.drew.cell? ⟨g, k, none⟩ = some (.slice a1 n1 c1) := (hbx.cell (p := ⟨g, k, none⟩) hglt).trans HC0.out
                have q1 : wr.drew.cell? ⟨pb, po + i * 3, none⟩ = some (.string p.1) := (hnx.cell (p := ⟨pb, _, none⟩) hpb).trans HPC.out.1
                have q2 : wr.drew.cell? ⟨pb, po + i * 3 + 1, none⟩ = some (.string p.2.1) := (hnx.cell (p := ⟨pb, _, none⟩) hpb).trans HPC.out.2.1
                have q3 : wr.drew.cell? ⟨pb, po + i * 3 + 2, none⟩ = some (.string p.2.2) := (hnx.cell (p := ⟨pb, _, none⟩) hpb).trans HPC.out.2.2
                have q4 : wr.drew.cell? ⟨tb, to + j * 3, none⟩ = some (.string t.1) := (hnx.cell (p := ⟨tb, _, none⟩) htb).trans ht0.1
                have q5 : wr.drew.cell? ⟨tb, to + j * 3 + 1, none⟩ = some (.string t.2.1) := (hnx.cell (p := ⟨tb, _, none⟩) htb).trans ht0.2.1
                have q6 : wr.drew.cell? ⟨tb, to + j * 3 + 2, none⟩ = some (.string t.2.2) := (hnx.cell (p := ⟨tb, _, none⟩) htb).trans ht0.2.2.1
                have hj7 : (j : Int) < (la : Int) := by omega
                have l0 : g < wr.drew.heap.size := Nat.lt_of_lt_of_le hglt hbx.size
                have lp : pb < wr.drew.heap.size := Nat.lt_of_lt_of_le hpb hnx.size
                have lt : tb < wr.drew.heap.size := Nat.lt_of_lt_of_le htb hnx.size
                have HTS := Lib.hid (HGA.out t (List.mem_of_getElem? ht))
                unfold MatchPost at CP'
                obtain ⟨mm, hmm⟩ : ∃ mm, matchM r p t = mm := ⟨_, rfl⟩
                rw [hmm] at CP' HUN
                have HMM := Lib.hid hmm
                have CP := Lib.hid CP'
                have HBX := Lib.hid hbx
                clear CP' hmm ht ht0 hts hcs hz hnx hbx
                go_wp2_with fail
                go_region_held3 (fun w' => w'.cell? ⟨g, k, none⟩ = some (.slice a1 n1 c1) ∧ w'.cell? ⟨pb, po + i * 3, none⟩ = some (.string p.1) ∧ w'.cell? ⟨pb, po + i * 3 + 1, none⟩ = some (.string p.2.1) ∧ w'.cell? ⟨pb, po + i * 3 + 2, none⟩ = some (.string p.2.2) ∧ w'.cell? ⟨tb, to + j * 3, none⟩ = some (.string t.1) ∧ w'.cell? ⟨tb, to + j * 3 + 1, none⟩ = some (.string t.2.1) ∧ w'.cell? ⟨tb, to + j * 3 + 2, none⟩ = some (.string t.2.2))
                  (first | go_keep | (have r0 := (hb5.cell (p := ⟨g, k, none⟩) l0).trans q0; have r1 := (hb5.cell (p := ⟨pb, po + i * 3, none⟩) lp).trans q1; have r2 := (hb5.cell (p := ⟨pb, po + i * 3 + 1, none⟩) lp).trans q2; have r3 := (hb5.cell (p := ⟨pb, po + i * 3 + 2, none⟩) lp).trans q3; have r4 := (hb5.cell (p := ⟨tb, to + j * 3, none⟩) lt).trans q4; have r5 := (hb5.cell (p := ⟨tb, to + j * 3 + 1, none⟩) lt).trans q5; have r6 := (hb5.cell (p := ⟨tb, to + j * 3 + 2, none⟩) lt).trans q6; with_reducible exact ⟨r0, r1, r2, r3, r4, r5, r6⟩))
                  (first | (go_at_call 102; refine CP.out.mono ?_; rintro e w5 ⟨v, rfl, ho5, hb5⟩))
                have hbr : Below wr.heap.size wr w5 := (Below.drew (Below.refl wr.heap.size wr)).trans hb5
                have B5 := HBX.out.trans (hbr.mono HBX.out.size)
                have HQ5 : Hid (OutI wo.heap.size w5 (.slice (some ⟨g', 0, none⟩) n' c') (addAllR [] (uptoM gs p R k j)) us') := Lib.hid (HQ.out.1.1.next hbr)
                have HQL := Lib.hid HQ.out.1.2
                have HQF := Lib.hid HQ.out.2
                have hwr : wo.heap.size ≤ w5.heap.size := B5.size
                clear CP hb5 hbr HBX HQ q0 q1 q2 q3 q4 q5 q6
                cases mm
                · have HQ6 : Hid ((OutI wo.heap.size w5 (.slice (some ⟨g', 0, none⟩) n' c') (addAllR [] (uptoM gs p R k (j + 1))) us' ∧ (addAllR [] (uptoM gs p R k (j + 1))).length = n') ∧ ∀ u ∈ us', FromB wo.heap.size u) := Lib.hid (by rw [HUN.out, Option.toList_none, List.append_nil]; exact ⟨⟨HQ5.out, HQL.out⟩, HQF.out⟩)
                  have hn8 : ¬ (300 : Int) < (n' : Int) := by omega
                  clear HQ5 HQL ho5
                  go_wp2_with fail
                  go_roundw
                  case rel => exact ⟨j + 1, g', n', c', by omega, by go_num, rfl, hn', ⟨us', HQ6⟩, B5⟩
                  case measure => simp [intOf]; omega
                · rename_i q
                  have hq1 := matchM_small HRM.out.2 HPS.out HTS.out HMM.out
                  have hq2 := matchM_len HMM.out
                  have hrl := HRM.out.1
                  have ho5' : OwnP wr.drew.heap.size w5 v q := ho5
                  obtain ⟨va, vc, hve, hv⟩ := ho5'.is (fun t ht => by have := hq1 t ht; unfold maxLen; omega)
                  subst hve
                  have HL2 : Hid (addAllR [] (uptoM gs p R k (j + 1)) = addR (addAllR [] (uptoM gs p R k j)) q) := Lib.hid (by rw [HUN.out, Option.toList_some, addAllR_snoc])
                  have HLG : Hid (LongR (addAllR [] (uptoM gs p R k j))) := Lib.hid (SmQ.long (m := 27) (SmQ.add (fun x hx => by
                    obtain ⟨m, em⟩ := uptoM_part (g := gs) (p := p) (j := j) (rows := R) (k := k) (by rw [HRN.out]; exact hkl)
                    have hx' : x ∈ joinM gs p R := by rw [em]; exact List.mem_append_left _ hx
                    have := HRS.out.2.join HGA.out HPS.out x hx'
                    exact ⟨by have := this.1; omega, this.2⟩)) (by omega))
                  have HQT : Hid ((rowTextL q).length ≤ 140737488355328) := Lib.hid (by have := rowText_len hq1; omega)
                  have hov : 300 < (addAllR [] (uptoM gs p R k (j + 1))).length → RES = none := fun h => by
                    rw [← HRS.out.1]
                    exact solveM_over HPT.out (by rw [HRN.out]; exact hkl) h
                  have HOV := Lib.hid hov
                  obtain ⟨L2, hL2⟩ : ∃ L2, addAllR [] (uptoM gs p R k (j + 1)) = L2 := ⟨_, rfl⟩
                  rw [hL2] at HL2 HOV
                  have HLE := Lib.hid hL2
                  clear hL2
                  generalize addAllR [] (uptoM gs p R k j) = L at HQ5 HQL HL2 HLG
                  generalize hkn : q.length = kn at hv hq2 ⊢
                  have hAL := HQL.out
                  have E := Lib.hid (fun W (h : Below w5.heap.size w5 W) => specAddF wo.heap.size g' n' c' L us' va kn vc q W (HQ5.out.next h) HQL.out (by omega) (by have := B5.size; have := h.size; omega) (hv.next h) (by omega) HLG.out HQT.out)
                  clear ho5 ho5' hv HQ5 HQT HLG hq1 hov
                  go_wp2_with fail
                  refine (E.out _ (by first | exact Below.refl _ _ | exact Below.drew (Below.refl _ _))).mono ?_
                  rintro e w6 ⟨g2, n2, c2, us2, rfl, ho6, hl6, hb6, hf6⟩
                  have HF6 : Hid (∀ u ∈ us2, FromB wo.heap.size u) := Lib.hid (fun u hu => by
                    rcases hf6 u hu with h | h
                    · exact HQF.out u h
                    · exact fun q hq => Nat.le_trans hwr (h q hq))
                  clear hf6
                  have B6 := B5.trans (hb6.mono B5.size)
                  rw [← HL2.out] at ho6 hl6
                  have HQ6 := Lib.hid (And.intro ho6 hl6)
                  clear ho6 hb6 E B5
                  by_cases h300 : n2 ≤ 300
                  · have hn8 : ¬ (300 : Int) < (n2 : Int) := by omega
                    clear hl6
                    go_wp2_with fail
                    go_roundw
                    case rel => exact ⟨j + 1, g2, n2, c2, by omega, by go_num, rfl, h300, ⟨us2, Lib.hid (by rw [HLE.out]; exact ⟨HQ6.out, HF6.out⟩)⟩, B6⟩
                    case measure => simp [intOf]; omega
                  · have hn8 : (300 : Int) < (n2 : Int) := by omega
                    have HRN2 : Hid (RES = none) := Lib.hid (HOV.out (by omega))
                    have BR := HNX.out.trans (B6.mono HNX.out.size)
                    clear hl6 HQ6
                    go_wp2_with fail
                    go_ret2
                    exact ⟨none, 0, 0, by rw [HRN2.out]; rfl, by rw [HRN2.out]; exact OwnF.none _ _, BR⟩
              · have HQ6 : Hid ((OutI wo.heap.size wr (.slice (some ⟨g', 0, none⟩) n' c') (addAllR [] (joinM gs p (R.take (k + 1)))) us' ∧ (addAllR [] (joinM gs p (R.take (k + 1)))).length = n') ∧ ∀ u ∈ us', FromB wo.heap.size u) := Lib.hid (by
                  rw [← uptoM_row HRK.out, HLA.out]
                  have h1 := HQ.out
                  have e : j = la := by omega
                  rw [e] at h1
                  exact h1)
                clear HQ
                go_wp2_with fail
                go_roundw
                case rel => exact ⟨k + 1, g', n', c', by omega, by go_num, rfl, hn', ⟨us', HQ6⟩, hbx⟩
                case measure => simp [intOf]; omega
          · have hkn : R.take k = R := List.take_of_length_le (by rw [HRN.out]; omega)
            have HQ6 : Hid (OutI w.heap.size wr (.slice (some ⟨g', 0, none⟩) n' c') (addAllR [] (joinM gs p R)) us' ∧ (addAllR [] (joinM gs p R)).length = n' ∧ (solveM gs (ls.drop (i + 1)) (addAllR [] (joinM gs p R)) = RES ∧ SmQ (12 + 3 * (i + 1)) (addAllR [] (joinM gs p R))) ∧ ∀ u ∈ us', FromB w.heap.size u) := Lib.hid (by
              have h1 := HQ.out
              rw [hkn] at h1
              refine ⟨h1.1.1.base HNX.out.size, h1.1.2, ⟨?_, ?_⟩, fun u hu q hq => Nat.le_trans HNX.out.size (h1.2 u hu q hq)⟩
              · rw [← HRS.out.1]
                exact (solveM_next HPT.out (by rw [h1.1.2]; exact hn')).symm
              · have := (HRS.out.2.join HGA.out HPS.out).add
                exact this)
            have BR := HNX.out.trans (hbx.mono HNX.out.size)
            clear HQ hkn
            go_wp2_with fail
            go_roundw
            case rel => exact ⟨i + 1, g', n', c', by omega, by go_num, rfl, hn', ⟨_, us', HQ6⟩, BR⟩
            case measure => simp [intOf]; omega
      · have HF : Hid (RES = some R ∧ OwnF w.heap.size wr (.slice (some ⟨g, 0, none⟩) n c) R) := Lib.hid (by
          have h1 := HRS.out.1
          rw [List.drop_of_length_le (by rw [HLB.out]; omega)] at h1
          exact ⟨h1.symm, us, HRO.out, HRF.out⟩)
        clear HRO
        go_wp2_with fail
        go_ret2
        exact ⟨some ⟨g, 0, none⟩, n, c, by rw [HF.out.1]; rfl, by rw [HF.out.1]; exact HF.out.2, hnx⟩
theorem specSolve (a b s : Option Addr) (la ca lb cb sn sc : Nat) (gs ls : List Tri3) (r0 : RowV) (w : World) (ha : IsTris w a la ca gs) (hb : IsTris w b lb cb ls) (hs : IsPres w s sn sc r0) (hla : la ≤ 80) (hlb : lb ≤ 4) (hsn : sn ≤ 12) (hga : SmT gs) (hgb : SmT ls) (hr0 : SmP r0) :
    Calls Tryz.prog 48 #[.slice a la ca, .slice s sn sc, .slice b lb cb] w (SolvePost gs ls r0 w) :=
  (specSolveF a b s la ca lb cb sn sc gs ls r0 w ha hb hs hla hlb hsn hga hgb hr0).mono fun _ _ ⟨x, n, c, h1, h2, h3⟩ => ⟨x, n, c, h1, h2.isN, h3⟩
end Go.Proofs.YtiajdnhmjdfeeaaGreat
namespace Go.Proofs.YtiajdnhmjdfeeaaGreat
open Go.RowKit Go.WideShapes
def fitB (a b : ByteArray) : Bool := a.toList.isEmpty || (a.toList == b.toList)
def fitT (p t : Tri3) : Bool := fitB p.1 t.1 && (fitB p.2.1 t.2.1 && fitB p.2.2 t.2.2)
theorem fit_cases (a b : ByteArray) : (a.toList.isEmpty = true ∧ fitB a b = true) ∨ (a.toList.isEmpty = false ∧ (a.toList == b.toList) = true ∧ fitB a b = true) ∨ (a.toList.isEmpty = false ∧ (a.toList == b.toList) = false ∧ fitB a b = false) := by
  unfold fitB
  cases a.toList.isEmpty <;> cases (a.toList == b.toList) <;> simp
theorem implFits (a b : ByteArray) (w : World) : Calls Tryz.prog 179 #[.string a, .string b] w fun e w' => e = .returned (.bool (fitB a b)) ∧ w = w' := by
  rcases fit_cases a b with ⟨h1, h⟩ | ⟨h1, h2, h⟩ | ⟨h1, h2, h⟩
  all_goals
    rw [h]
    clear h
    go_enter Tryz.func179, Tryz.ntmps179
    go_wp2_with fail
    go_ret
    exact ⟨rfl, rfl⟩
set_option maxRecDepth 100000 in
theorem implFitsAll (p t : Tri3) (w : World) : Calls Tryz.prog 159 #[.agg #[.string p.1, .string p.2.1, .string p.2.2], .agg #[.string t.1, .string t.2.1, .string t.2.2]] w fun e w' => e = .returned (.bool (fitT p t)) ∧ Below w.heap.size w w' := by
  have C1 := implFits p.1 t.1
  have C2 := implFits p.2.1 t.2.1
  have C3 := implFits p.2.2 t.2.2
  unfold fitT
  generalize fitB p.1 t.1 = b1 at C1 ⊢
  generalize fitB p.2.1 t.2.1 = b2 at C2 ⊢
  generalize fitB p.2.2 t.2.2 = b3 at C3 ⊢
  have D1 := Lib.hid C1
  have D2 := Lib.hid C2
  have D3 := Lib.hid C3
  clear C1 C2 C3
  cases b1
  · go_enter Tryz.func159, Tryz.ntmps159
    go_wp2_with (go_at_call 179; refine (D1.out _).mono ?_; rintro e w1 ⟨rfl, rfl⟩)
    go_ret
    exact ⟨rfl, ((Below.refl _ _).alloc (Nat.le_refl _) _).alloc (by simp) _⟩
  cases b2
  · go_enter Tryz.func159, Tryz.ntmps159
    go_wp2_with fail
    refine (D1.out _).mono ?_
    rintro e w1 ⟨rfl, rfl⟩
    go_wp2_with fail
    refine (D2.out _).mono ?_
    rintro e w1 ⟨rfl, rfl⟩
    go_wp2_with fail
    go_ret
    exact ⟨rfl, ((Below.refl _ _).alloc (Nat.le_refl _) _).alloc (by simp) _⟩
  cases b3
  all_goals
    go_enter Tryz.func159, Tryz.ntmps159
    go_wp2_with fail
    refine (D1.out _).mono ?_
    rintro e w1 ⟨rfl, rfl⟩
    go_wp2_with fail
    refine (D2.out _).mono ?_
    rintro e w1 ⟨rfl, rfl⟩
    go_wp2_with fail
    refine (D3.out _).mono ?_
    rintro e w1 ⟨rfl, rfl⟩
    go_wp2_with fail
    go_ret
    exact ⟨rfl, ((Below.refl _ _).alloc (Nat.le_refl _) _).alloc (by simp) _⟩
end Go.Proofs.YtiajdnhmjdfeeaaGreat
