/- The contracts of the search of a name in a row, and of what a row gives for a word. -/
import Derived.Test.YtiajdnhmjdfeeaaGreatG18
import Derived.Test.YtiajdnhmjdfeeaaGreatG04
namespace Go.Proofs.YtiajdnhmjdfeeaaGreat
open Go.RowKit Go.WideShapes
set_option maxRecDepth 100000 in
theorem implCmpPair (s p x : ByteArray) (w : World) :
    Calls Tryz.prog 123 #[.agg #[.string s, .string p], .string x] w fun e w' => e = .returned (.int .i64 (Lib.compareBytes s.data.toList x.data.toList)) ∧ Below w.heap.size w w' := by
  go_enter Tryz.func123, Tryz.ntmps123
  go_wp2_with fail
  refine (Tryz.strings_Compare s x _).mono ?_
  rintro e w1 ⟨rfl, rfl⟩
  go_wp2_with fail
  go_ret
  exact ⟨rfl, (Below.refl _ _).alloc (Nat.le_refl _) _⟩
def SearchPost (ts : List Pre2) (x : ByteArray) (w : World) (e : Ending) (w' : World) : Prop :=
  ∃ (lo : Nat) (f : Bool), e = .returned (.tuple #[.int .i64 lo, .bool f]) ∧ lo ≤ ts.length ∧ posP x ts = lo ∧ (f = true → ∃ t, ts[lo]? = some t ∧ t.1 = x) ∧ (f = false → ∀ t ∈ ts, t.1 ≠ x) ∧ Below w.heap.size w w'
theorem search_no {ts : List Pre2} {x : ByteArray} {lo : Nat} (ha : Asc ts) (h1 : ∀ (i : Nat) (t : Pre2), i < lo → ts[i]? = some t → Op.bytesLess t.1.data.toList x.data.toList = true)
    (h2 : ∀ t : Pre2, ts[lo]? = some t → Op.bytesLess x.data.toList t.1.data.toList = true) : ∀ t ∈ ts, t.1 ≠ x := by
  intro t ht hx
  obtain ⟨i, hi⟩ := List.mem_iff_getElem?.1 ht
  subst hx
  have hl := (List.getElem?_eq_some_iff.1 hi).1
  rcases Nat.lt_trichotomy i lo with h | rfl | h
  · have := h1 i t h hi
    rw [ltb_irrefl] at this; cases this
  · have := h2 t hi
    rw [ltb_irrefl] at this; cases this
  · have hm : ts[lo]? = some ts[lo] := List.getElem?_eq_getElem (by omega)
    have a := h2 _ hm
    have b := ha lo i _ _ h hm hi
    unfold lessP at b
    rw [ByteArray.toList_eq, ByteArray.toList_eq] at b
    have := ltb_trans _ _ _ a b
    rw [ltb_irrefl] at this; cases this
set_option maxRecDepth 100000 in
set_option maxHeartbeats 1600000 in
theorem implSearch (a : Option Addr) (len cap : Nat) (ts : List Pre2) (x : ByteArray) (w : World) (h : IsPres w a len cap ts) (ha : Asc ts) (hlen : len ≤ 1048576) :
    Calls Tryz.prog 122 #[.slice a len cap, .string x, .func (.func 123) #[] #[]] w (SearchPost ts x w) := by
  have HT := Lib.hid h.len
  have H := Lib.hid h
  have HA := Lib.hid ha
  clear h ha
  go_enter Tryz.func122, Tryz.ntmps122
  go_wp2_with fail
  go_loopw [9, 10] (fun s9 s10 wr => ∃ lo hi : Nat, s9 = .int .i64 lo ∧ s10 = .int .i64 hi ∧ lo ≤ hi ∧ hi ≤ len ∧ Below w.heap.size w wr ∧
    Hid ((∀ (i : Nat) (t : Pre2), i < lo → ts[i]? = some t → Op.bytesLess t.1.data.toList x.data.toList = true) ∧ (∀ (i : Nat) (t : Pre2), hi ≤ i → ts[i]? = some t → Op.bytesLess t.1.data.toList x.data.toList = false))) (fun s9 s10 _ => (intOf s10).toNat - (intOf s9).toNat)
  case atStart =>
    exact ⟨0, len, rfl, rfl, Nat.zero_le _, Nat.le_refl _, Below.refl _ _, Lib.hid ⟨fun i t hi => by omega, fun i t hi ht => by have := (List.getElem?_eq_some_iff.1 ht).1; have := HT.out; omega⟩⟩
  case round =>
    obtain ⟨lo, hi, rfl, rfl, hlh, hin, hnx, I⟩ := hrel
    by_cases hlt : lo < hi
    · obtain ⟨b, off, rfl, hb, hl, hm, hts, hc⟩ := H.out.cells (by omega)
      obtain ⟨m, hmd⟩ : ∃ m, (lo + hi) / 2 = m := ⟨_, rfl⟩
      have hm1 : lo ≤ m := by omega
      have hm2 : m < hi := by omega
      have hmi : ((lo : Int) + (hi : Int)) / 2 = (m : Int) := by omega
      have ht : ts[m]? = some ts[m] := List.getElem?_eq_getElem (by omega)
      obtain ⟨c0, c1, m0, m1⟩ := hc m _ ht
      clear m0 m1 hmd
      rw [← hnx.cell (p := ⟨b, _, none⟩) hb] at c0 c1
      obtain ⟨t, htt⟩ : ∃ t, ts[m] = t := ⟨_, rfl⟩
      rw [htt] at c0 c1 ht
      clear htt
      have C := Lib.hid (implCmpPair t.1 t.2 x)
      have hml : m < len := by omega
      have hk6 : (0 : Int) ≤ (m : Int) := by omega
      have hk7 : (m : Int) < (len : Int) := by omega
      clear hts hc hm
      have K : (Lib.compareBytes t.1.data.toList x.data.toList < 0 ∧ Op.bytesLess t.1.data.toList x.data.toList = true) ∨ (¬ Lib.compareBytes t.1.data.toList x.data.toList < 0 ∧ Op.bytesLess t.1.data.toList x.data.toList = false) := by
        rcases cmp_cases t.1.data.toList x.data.toList with ⟨g, g'⟩ | ⟨g, g'⟩ | ⟨g, g'⟩
        · exact .inl ⟨g, g'⟩
        · exact .inr ⟨by omega, by rw [g', ltb_irrefl]⟩
        · exact .inr ⟨by omega, ltb_asymm _ _ g'⟩
      rcases K with ⟨g, g'⟩ | ⟨g, g'⟩
      · have J : Hid ((∀ (i : Nat) (t : Pre2), i < m + 1 → ts[i]? = some t → Op.bytesLess t.1.data.toList x.data.toList = true) ∧ (∀ (i : Nat) (t : Pre2), hi ≤ i → ts[i]? = some t → Op.bytesLess t.1.data.toList x.data.toList = false)) := Lib.hid ⟨fun i u hi' hu => by
          rcases Nat.lt_or_eq_of_le (show i ≤ m by omega) with hlt' | rfl
          · have := HA.out i m u t hlt' hu ht
            unfold lessP at this
            rw [ByteArray.toList_eq, ByteArray.toList_eq] at this
            exact ltb_trans _ _ _ this g'
          · obtain rfl : u = t := by rw [hu] at ht; exact Option.some.inj ht
            exact g', I.out.2⟩
        clear g' ht
        generalize Lib.compareBytes t.1.data.toList x.data.toList = cc at C g
        go_wp2_with fail
        refine (C.out _).mono ?_
        rintro e w1 ⟨rfl, hb1⟩
        have B : Below w.heap.size w w1 := hnx.trans (hb1.mono hnx.size)
        clear hb1 hnx c0 c1
        go_wp2_with fail
        go_roundw
        case rel => exact ⟨m + 1, hi, by go_num, rfl, by omega, hin, B, J⟩
        case measure => simp [intOf]; omega
      · have J : Hid ((∀ (i : Nat) (t : Pre2), i < lo → ts[i]? = some t → Op.bytesLess t.1.data.toList x.data.toList = true) ∧ (∀ (i : Nat) (t : Pre2), m ≤ i → ts[i]? = some t → Op.bytesLess t.1.data.toList x.data.toList = false)) := Lib.hid ⟨I.out.1, fun i u hi' hu => by
          rcases Nat.lt_or_eq_of_le hi' with hlt' | rfl
          · have := HA.out m i t u hlt' ht hu
            unfold lessP at this
            rw [ByteArray.toList_eq, ByteArray.toList_eq] at this
            cases hux : Op.bytesLess u.1.data.toList x.data.toList
            · rfl
            · rw [ltb_trans _ _ _ this hux] at g'; cases g'
          · obtain rfl : u = t := by rw [hu] at ht; exact Option.some.inj ht
            exact g'⟩
        clear g' ht
        generalize Lib.compareBytes t.1.data.toList x.data.toList = cc at C g
        go_wp2_with fail
        refine (C.out _).mono ?_
        rintro e w1 ⟨rfl, hb1⟩
        have B : Below w.heap.size w w1 := hnx.trans (hb1.mono hnx.size)
        clear hb1 hnx c0 c1
        go_wp2_with fail
        go_roundw
        case rel => exact ⟨lo, m, rfl, rfl, by omega, by omega, B, J⟩
        case measure => simp [intOf]; omega
    · obtain rfl : lo = hi := by omega
      by_cases hll : lo < len
      · obtain ⟨b, off, rfl, hb, hl, hm, hts, hc⟩ := H.out.cells (by omega)
        have ht : ts[lo]? = some ts[lo] := List.getElem?_eq_getElem (by omega)
        obtain ⟨c0, c1, m0, m1⟩ := hc lo _ ht
        clear m0 m1
        rw [← hnx.cell (p := ⟨b, _, none⟩) hb] at c0 c1
        obtain ⟨t, htt⟩ : ∃ t, ts[lo] = t := ⟨_, rfl⟩
        rw [htt] at c0 c1 ht
        clear htt
        have C := Lib.hid (implCmpPair t.1 t.2 x)
        have hk6 : (0 : Int) ≤ (lo : Int) := by omega
        have hk7 : (lo : Int) < (len : Int) := by omega
        have hle : lo ≤ ts.length := by omega
        have HL := Lib.hid hle
        have HP := Lib.hid (posP_is I.out.1 hle (fun u hu => I.out.2 lo u (Nat.le_refl _) hu))
        clear hts hc hm hle
        have K : ((Lib.compareBytes t.1.data.toList x.data.toList == 0) = true ∧ t.1 = x) ∨ ((Lib.compareBytes t.1.data.toList x.data.toList == 0) = false ∧ Op.bytesLess x.data.toList t.1.data.toList = true) := by
          rcases cmp_cases t.1.data.toList x.data.toList with ⟨g, g'⟩ | ⟨g, g'⟩ | ⟨g, g'⟩
          · rw [I.out.2 lo t (Nat.le_refl _) ht] at g'; cases g'
          · exact .inl ⟨by rw [g]; rfl, data_inj g'⟩
          · exact .inr ⟨by rw [beq_eq_false_iff_ne]; omega, g'⟩
        rcases K with ⟨g, g'⟩ | ⟨g, g'⟩
        · have J : Hid (∃ t, ts[lo]? = some t ∧ t.1 = x) := Lib.hid ⟨t, ht, g'⟩
          clear g' ht
          generalize Lib.compareBytes t.1.data.toList x.data.toList = cc at C g
          go_wp2_with fail
          refine (C.out _).mono ?_
          rintro e w1 ⟨rfl, hb1⟩
          have B : Below w.heap.size w w1 := hnx.trans (hb1.mono hnx.size)
          clear hb1 hnx c0 c1
          go_wp2_with fail
          go_ret2
          exact ⟨lo, true, rfl, HL.out, HP.out, fun _ => J.out, (fun h => by cases h), B⟩
        · have J : Hid (∀ t ∈ ts, t.1 ≠ x) := Lib.hid (search_no HA.out I.out.1 (fun u hu => by
            obtain rfl : u = t := by rw [hu] at ht; exact Option.some.inj ht
            exact g'))
          clear g' ht
          generalize Lib.compareBytes t.1.data.toList x.data.toList = cc at C g
          go_wp2_with fail
          refine (C.out _).mono ?_
          rintro e w1 ⟨rfl, hb1⟩
          have B : Below w.heap.size w w1 := hnx.trans (hb1.mono hnx.size)
          clear hb1 hnx c0 c1
          go_wp2_with fail
          go_ret2
          exact ⟨lo, false, rfl, HL.out, HP.out, (fun h => by cases h), fun _ => J.out, B⟩
      · have HP := Lib.hid (posP_is I.out.1 (show lo ≤ ts.length by have := HT.out; omega) (fun u hu => I.out.2 lo u (Nat.le_refl _) hu))
        have J : Hid (lo ≤ ts.length ∧ ∀ t ∈ ts, t.1 ≠ x) := Lib.hid ⟨by have := HT.out; omega, search_no HA.out I.out.1 (fun u hu => by have := (List.getElem?_eq_some_iff.1 hu).1; have := HT.out; omega)⟩
        go_wp2_with fail
        go_ret2
        exact ⟨lo, false, rfl, J.out.1, HP.out, (fun h => by cases h), fun _ => J.out.2, hnx⟩
end Go.Proofs.YtiajdnhmjdfeeaaGreat
/- The contracts of what a row gives for a word, by search and by the specification's way. -/
namespace Go.Proofs.YtiajdnhmjdfeeaaGreat
open Go.RowKit Go.WideShapes
set_option maxRecDepth 100000 in
theorem implPlaceIn (a : Option Addr) (len cap : Nat) (ts : List Pre2) (x : ByteArray) (w : World) (h : IsPres w a len cap ts) (ha : Asc ts) (hlen : len ≤ 1048576) :
    Calls Tryz.prog 80 #[.slice a len cap, .string x] w (SearchPost ts x w) := by
  have C := Lib.hid (implSearch a len cap ts x w h ha hlen)
  clear h ha
  go_enter Tryz.func80, Tryz.ntmps80
  go_wp2_with fail
  refine C.out.mono ?_
  rintro e w1 ⟨lo, f, rfl, h1, h0, h2, h3, hb1⟩
  have J := Lib.hid (⟨h1, h0, h2, h3, hb1⟩ : lo ≤ ts.length ∧ posP x ts = lo ∧ (f = true → ∃ t, ts[lo]? = some t ∧ t.1 = x) ∧ (f = false → ∀ t ∈ ts, t.1 ≠ x) ∧ Below w.heap.size w w1)
  clear h1 h0 h2 h3 hb1
  go_wp2_with fail
  go_ret2
  exact ⟨lo, f, rfl, J.out⟩
end Go.Proofs.YtiajdnhmjdfeeaaGreat
/- Fill2, the rest. -/
namespace Go.Proofs.YtiajdnhmjdfeeaaGreat
open Go.RowKit Go.WideShapes
set_option maxRecDepth 100000 in
theorem implValueIn (a : Option Addr) (len cap : Nat) (ts : List Pre2) (x : ByteArray) (w : World) (h : IsPres w a len cap ts) (ha : Asc ts) (hlen : len ≤ 1048576) :
    Calls Tryz.prog 140 #[.slice a len cap, .string x] w fun e w' => e = .returned (.string (seen ts x)) ∧ Below w.heap.size w w' := by
  have C := Lib.hid (implPlaceIn a len cap ts x w h ha hlen)
  have H := Lib.hid h
  have HT := Lib.hid h.len
  have HA := Lib.hid ha
  clear h ha
  go_enter Tryz.func140, Tryz.ntmps140
  go_wp2_with fail
  refine C.out.mono ?_
  rintro e w1 ⟨lo, f, rfl, h1, _, h2, h3, hb1⟩
  clear C
  cases f
  · have J : Hid (seen ts x = x) := Lib.hid (seen_no ts x (h3 rfl))
    clear h1 h2 h3
    go_wp2_with fail
    go_ret
    exact ⟨by rw [J.out]; rfl, hb1⟩
  · obtain ⟨t, ht, hx⟩ := h2 rfl
    have hll := (List.getElem?_eq_some_iff.1 ht).1
    have hT := HT.out
    obtain ⟨b, off, rfl, hb, hl, hm, hts, hc⟩ := H.out.cells (by omega)
    have J : Hid (seen ts x = t.2) := Lib.hid (seen_at ts x lo t ht hx (fun j u hj hu hux => by
      have := HA.out j lo u t hj hu ht
      unfold lessP at this
      rw [hx, hux, ByteArray.toList_eq, ltb_irrefl] at this
      cases this))
    obtain ⟨c0, c1, m0, m1⟩ := hc lo _ ht
    rw [← hb1.cell (p := ⟨b, _, none⟩) hb] at c0 c1
    have hk6 : (0 : Int) ≤ (lo : Int) := by omega
    have hk7 : (lo : Int) < (len : Int) := by omega
    have hk8 : lo < len := by omega
    clear m0 m1 h1 h2 h3 hT hts hc hm ht hx hll
    go_wp2_with fail
    go_ret
    exact ⟨by rw [J.out]; rfl, hb1⟩
set_option maxRecDepth 100000 in
theorem specTerm (a : Option Addr) (len cap : Nat) (ts : List Pre2) (x : ByteArray) (w : World) (h : IsPres w a len cap ts) (hlen : len ≤ 1048576) :
    Calls Tryz.prog 168 #[.slice a len cap, .string x] w fun e w' => e = .returned (.string (seen ts x)) ∧ Below w.heap.size w w' := by
  have H := Lib.hid h
  have HT := Lib.hid h.len
  clear h
  go_enter Tryz.func168, Tryz.ntmps168
  go_wp2_with fail
  go_loopw [5] (fun i wr => ∃ k : Nat, k ≤ len ∧ i = .int .i64 k ∧ Hid (∀ (j : Nat) (u : Pre2), j < k → ts[j]? = some u → u.1 ≠ x) ∧ Below w.heap.size w wr) (fun i _ => len - (intOf i).toNat)
  case atStart => exact ⟨0, Nat.zero_le _, rfl, Lib.hid (fun j u hj => by omega), Below.refl _ _⟩
  case round =>
    obtain ⟨k, hk, rfl, hno, hnx⟩ := hrel
    by_cases hlt : k < len
    · obtain ⟨b, off, rfl, hb, hl, hm, hts, hc⟩ := H.out.cells (by omega)
      have ht : ts[k]? = some ts[k] := List.getElem?_eq_getElem (by omega)
      obtain ⟨c0, c1, m0, m1⟩ := hc k _ ht
      clear m0 m1
      rw [← hnx.cell (p := ⟨b, _, none⟩) hb] at c0 c1
      obtain ⟨t, htt⟩ : ∃ t, ts[k] = t := ⟨_, rfl⟩
      rw [htt] at c0 c1 ht
      clear htt
      have hk6 : (0 : Int) ≤ (k : Int) := by omega
      have hk7 : (k : Int) < (len : Int) := by omega
      clear hts hc hm
      by_cases hx : t.1 = x
      · have J : Hid (seen ts x = t.2) := Lib.hid (seen_at ts x k t ht hx hno.out)
        have e1 : (t.1.toList == x.toList) = true := by rw [hx]; simp
        clear hx ht
        go_wp2_with fail
        go_ret
        exact ⟨by rw [J.out]; rfl, hnx⟩
      · have J : Hid (∀ (j : Nat) (u : Pre2), j < k + 1 → ts[j]? = some u → u.1 ≠ x) := Lib.hid (fun j u hj hu => by
          rcases Nat.lt_or_eq_of_le (show j ≤ k by omega) with h | rfl
          · exact hno.out j u h hu
          · obtain rfl : u = t := by rw [hu] at ht; exact Option.some.inj ht
            exact hx)
        have e1 : (t.1.toList == x.toList) = false := by rw [beq_eq_false_iff_ne, ByteArray.toList_eq, ByteArray.toList_eq]; exact fun h => hx (data_inj h)
        clear hx ht
        go_wp2_with fail
        go_roundw
        case rel => exact ⟨k + 1, by omega, by go_num, J, hnx⟩
        case measure => simp [intOf]; omega
    · have J : Hid (seen ts x = x) := Lib.hid (seen_no ts x (fun t ht => by
        obtain ⟨i, hi⟩ := List.mem_iff_getElem?.1 ht
        have := (List.getElem?_eq_some_iff.1 hi).1
        have := HT.out
        exact hno.out i t (by omega) hi))
      go_wp2_with fail
      go_ret
      exact ⟨by rw [J.out]; rfl, hnx⟩
end Go.Proofs.YtiajdnhmjdfeeaaGreat
