/- The contracts of what a row gives for a word, by search and by the specification's way. -/
import Derived.Test.YtbhlenjcahonnaaGreatJExactSolutions31
namespace Go.Proofs.YtbhlenjcahonnaaGreat
open Go.RowKit Go.WideShapes
set_option maxRecDepth 100000 in
theorem implPlaceIn (a : Option Addr) (len cap : Nat) (ts : List Pre2) (x : ByteArray) (w : World) (h : IsPres w a len cap ts) (ha : Asc ts) (hlen : len ≤ 1048576) :
    Calls Tryz.prog 139 #[.slice a len cap, .string x] w (SearchPost ts x w) := by
  have C := Lib.hid (implSearch a len cap ts x w h ha hlen)
  clear h ha
  go_enter Tryz.func139, Tryz.ntmps139
  go_wp2_with fail
  refine C.out.mono ?_
  rintro e w1 ⟨lo, f, rfl, h1, h0, h2, h3, hb1⟩
  have J := Lib.hid (⟨h1, h0, h2, h3, hb1⟩ : lo ≤ ts.length ∧ posP x ts = lo ∧ (f = true → ∃ t, ts[lo]? = some t ∧ t.1 = x) ∧ (f = false → ∀ t ∈ ts, t.1 ≠ x) ∧ Below w.heap.size w w1)
  clear h1 h0 h2 h3 hb1
  go_wp2_with fail
  go_ret2
  exact ⟨lo, f, rfl, J.out⟩
end Go.Proofs.YtbhlenjcahonnaaGreat
/- Fill2, the rest. -/
namespace Go.Proofs.YtbhlenjcahonnaaGreat
open Go.RowKit Go.WideShapes
set_option maxRecDepth 100000 in
theorem implValueIn (a : Option Addr) (len cap : Nat) (ts : List Pre2) (x : ByteArray) (w : World) (h : IsPres w a len cap ts) (ha : Asc ts) (hlen : len ≤ 1048576) :
    Calls Tryz.prog 136 #[.slice a len cap, .string x] w fun e w' => e = .returned (.string (seen ts x)) ∧ Below w.heap.size w w' := by
  have C := Lib.hid (implPlaceIn a len cap ts x w h ha hlen)
  have H := Lib.hid h
  have HT := Lib.hid h.len
  have HA := Lib.hid ha
  clear h ha
  go_enter Tryz.func136, Tryz.ntmps136
  go_wp2_with fail
  refine C.out.mono ?_
  rintro e w1 ⟨lo, f, rfl, h1, _, h2, h3, hb1⟩
  clear C
  cases f
  · have J : Hid (seen ts x = x) := Lib.hid (seen_no ts x (h3 rfl))
    clear h1 h2 h3
    go_wp2_with fail
    go_ret
    exact ⟨by rw [J.out]; rfl, hb1⟩
  · obtain ⟨t, ht, hx⟩ := h2 rfl
    have hll := (List.getElem?_eq_some_iff.1 ht).1
    have hT := HT.out
    obtain ⟨b, off, rfl, hb, hl, hm, hts, hc⟩ := H.out.cells (by omega)
    have J : Hid (seen ts x = t.2) := Lib.hid (seen_at ts x lo t ht hx (fun j u hj hu hux => by
      have := HA.out j lo u t hj hu ht
      unfold lessP at this
      rw [hx, hux, ByteArray.toList_eq, ltb_irrefl] at this
      cases this))
    obtain ⟨c0, c1, m0, m1⟩ := hc lo _ ht
    rw [← hb1.cell (p := ⟨b, _, none⟩) hb] at c0 c1
    have hk6 : (0 : Int) ≤ (lo : Int) := by omega
    have hk7 : (lo : Int) < (len : Int) := by omega
    have hk8 : lo < len := by omega
    clear m0 m1 h1 h2 h3 hT hts hc hm ht hx hll
    go_wp2_with fail
    go_ret
    exact ⟨by rw [J.out]; rfl, hb1⟩
set_option maxRecDepth 100000 in
theorem specTerm (a : Option Addr) (len cap : Nat) (ts : List Pre2) (x : ByteArray) (w : World) (h : IsPres w a len cap ts) (hlen : len ≤ 1048576) :
    Calls Tryz.prog 123 #[.slice a len cap, .string x] w fun e w' => e = .returned (.string (seen ts x)) ∧ Below w.heap.size w w' := by
  have H := Lib.hid h
  have HT := Lib.hid h.len
  clear h
  go_enter Tryz.func123, Tryz.ntmps123
  go_wp2_with fail
  go_loopw [5] (fun i wr => ∃ k : Nat, k ≤ len ∧ i = .int .i64 k ∧ Hid (∀ (j : Nat) (u : Pre2), j < k → ts[j]? = some u → u.1 ≠ x) ∧ Below w.heap.size w wr) (fun i _ => len - (intOf i).toNat)
  case atStart => exact ⟨0, Nat.zero_le _, rfl, Lib.hid (fun j u hj => by omega), Below.refl _ _⟩
  case round =>
    obtain ⟨k, hk, rfl, hno, hnx⟩ := hrel
    by_cases hlt : k < len
    · obtain ⟨b, off, rfl, hb, hl, hm, hts, hc⟩ := H.out.cells (by omega)
      have ht : ts[k]? = some ts[k] := List.getElem?_eq_getElem (by omega)
      obtain ⟨c0, c1, m0, m1⟩ := hc k _ ht
      clear m0 m1
      rw [← hnx.cell (p := ⟨b, _, none⟩) hb] at c0 c1
      obtain ⟨t, htt⟩ : ∃ t, ts[k] = t := ⟨_, rfl⟩
      rw [htt] at c0 c1 ht
      clear htt
      have hk6 : (0 : Int) ≤ (k : Int) := by omega
      have hk7 : (k : Int) < (len : Int) := by omega
      clear hts hc hm
      by_cases hx : t.1 = x
      · have J : Hid (seen ts x = t.2) := Lib.hid (seen_at ts x k t ht hx hno.out)
        have e1 : (t.1.toList == x.toList) = true := by rw [hx]; simp
        clear hx ht
        go_wp2_with fail
        go_ret
        exact ⟨by rw [J.out]; rfl, hnx⟩
      · have J : Hid (∀ (j : Nat) (u : Pre2), j < k + 1 → ts[j]? = some u → u.1 ≠ x) := Lib.hid (fun j u hj hu => by
          rcases Nat.lt_or_eq_of_le (show j ≤ k by omega) with h | rfl
          · exact hno.out j u h hu
          · obtain rfl : u = t := by rw [hu] at ht; exact Option.some.inj ht
            exact hx)
        have e1 : (t.1.toList == x.toList) = false := by rw [beq_eq_false_iff_ne, ByteArray.toList_eq, ByteArray.toList_eq]; exact fun h => hx (data_inj h)
        clear hx ht
        go_wp2_with fail
        go_roundw
        case rel => exact ⟨k + 1, by omega, by go_num, J, hnx⟩
        case measure => simp [intOf]; omega
    · have J : Hid (seen ts x = x) := Lib.hid (seen_no ts x (fun t ht => by
        obtain ⟨i, hi⟩ := List.mem_iff_getElem?.1 ht
        have := (List.getElem?_eq_some_iff.1 hi).1
        have := HT.out
        exact hno.out i t (by omega) hi))
      go_wp2_with fail
      go_ret
      exact ⟨by rw [J.out]; rfl, hnx⟩
end Go.Proofs.YtbhlenjcahonnaaGreat
