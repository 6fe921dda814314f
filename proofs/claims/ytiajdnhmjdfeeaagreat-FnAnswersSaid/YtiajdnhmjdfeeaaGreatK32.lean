/- The contracts of what a row gives for a word, by search and by the specification's way.; Fill2, the rest.; The contracts of what a row gives for a triple. -/
import Derived.Test.YtiajdnhmjdfeeaaGreatK31
import Derived.Test.YtiajdnhmjdfeeaaGreatK16
import Derived.Test.YtiajdnhmjdfeeaaGreatK26
import Derived.Test.YtiajdnhmjdfeeaaGreatK27
import Derived.Deep.RegionHeld3
import Derived.Deep.RegionWith
namespace Go.Proofs.YtiajdnhmjdfeeaaGreat
open Go.RowKit Go.WideShapes
set_option maxRecDepth 100000 in
theorem implPlaceIn (a : Option Addr) (len cap : Nat) (ts : List Pre2) (x : ByteArray) (w : World) (h : IsPres w a len cap ts) (ha : Asc ts) (hlen : len ≤ 1048576) :
    Calls Tryz.prog 80 #[.slice a len cap, .string x] w (SearchPost ts x w) := by
  have C := Lib.hid (implSearch a len cap ts x w h ha hlen)
  clear h ha
  go_enter Tryz.func80, Tryz.ntmps80
  go_wp2_with fail
  refine C.out.mono ?_
  rintro e w1 ⟨lo, f, rfl, h1, h0, h2, h3, hb1⟩
  have J := Lib.hid (⟨h1, h0, h2, h3, hb1⟩ : lo ≤ ts.length ∧ posP x ts = lo ∧ (f = true → ∃ t, ts[lo]? = some t ∧ t.1 = x) ∧ (f = false → ∀ t ∈ ts, t.1 ≠ x) ∧ Below w.heap.size w w1)
  clear h1 h0 h2 h3 hb1
  go_wp2_with fail
  go_ret2
  exact ⟨lo, f, rfl, J.out⟩
end Go.Proofs.YtiajdnhmjdfeeaaGreat
namespace Go.Proofs.YtiajdnhmjdfeeaaGreat
open Go.RowKit Go.WideShapes
set_option maxRecDepth 100000 in
theorem implValueIn (a : Option Addr) (len cap : Nat) (ts : List Pre2) (x : ByteArray) (w : World) (h : IsPres w a len cap ts) (ha : Asc ts) (hlen : len ≤ 1048576) :
    Calls Tryz.prog 140 #[.slice a len cap, .string x] w fun e w' => e = .returned (.string (seen ts x)) ∧ Below w.heap.size w w' := by
  have C := Lib.hid (implPlaceIn a len cap ts x w h ha hlen)
  have H := Lib.hid h
  have HT := Lib.hid h.len
  have HA := Lib.hid ha
  clear h ha
  go_enter Tryz.func140, Tryz.ntmps140
  go_wp2_with fail
  refine C.out.mono ?_
  rintro e w1 ⟨lo, f, rfl, h1, _, h2, h3, hb1⟩
  clear C
  cases f
  · have J : Hid (seen ts x = x) := Lib.hid (seen_no ts x (h3 rfl))
    clear h1 h2 h3
    go_wp2_with fail
    go_ret
    exact ⟨by rw [J.out]; rfl, hb1⟩
  · obtain ⟨t, ht, hx⟩ := h2 rfl
    have hll := (List.getElem?_eq_some_iff.1 ht).1
    have hT := HT.out
    obtain ⟨b, off, rfl, hb, hl, hm, hts, hc⟩ := H.out.cells (by omega)
    have J : Hid (seen ts x = t.2) := Lib.hid (seen_at ts x lo t ht hx (fun j u hj hu hux => by
      have := HA.out j lo u t hj hu ht
      unfold lessP at this
      rw [hx, hux, ByteArray.toList_eq, ltb_irrefl] at this
      cases this))
    obtain ⟨c0, c1, m0, m1⟩ := hc lo _ ht
    rw [← hb1.cell (p := ⟨b, _, none⟩) hb] at c0 c1
    have hk6 : (0 : Int) ≤ (lo : Int) := by omega
    have hk7 : (lo : Int) < (len : Int) := by omega
    have hk8 : lo < len := by omega
    clear m0 m1 h1 h2 h3 hT hts hc hm ht hx hll
    go_wp2_with fail
    go_ret
    exact ⟨by rw [J.out]; rfl, hb1⟩
end Go.Proofs.YtiajdnhmjdfeeaaGreat
namespace Go.Proofs.YtiajdnhmjdfeeaaGreat
open Go.RowKit Go.WideShapes
def filledV (ts : List Pre2) (s p o : ByteArray) : Value := match rowOk ts with
  | true => .agg #[.string (seen ts s), .string (seen ts p), .string (seen ts o)]
  | false => .agg #[.string s, .string p, .string o]
theorem below_set3 {B : Nat} {w w' : World} (h : Below B w w') (g : Nat) (hg : B ≤ g) (x y z : Value) : Below B w (((w'.setCell ⟨g, 0, none⟩ x).setCell ⟨g, 1, none⟩ y).setCell ⟨g, 2, none⟩ z) :=
  Below.setCell (Below.setCell (Below.setCell h (p := ⟨g, 0, none⟩) hg x) (p := ⟨g, 1, none⟩) hg y) (p := ⟨g, 2, none⟩) hg z
theorem cell_set3 {w : World} {g k j : Nat} {x y z : Value} (h : k ≠ g) : (((w.setCell ⟨g, 0, none⟩ x).setCell ⟨g, 1, none⟩ y).setCell ⟨g, 2, none⟩ z).cell? ⟨k, j, none⟩ = w.cell? ⟨k, j, none⟩ := by
  unfold World.cell?
  rw [Below.heap_setCell _ _ _ _ h, Below.heap_setCell _ _ _ _ h, Below.heap_setCell _ _ _ _ h]
theorem asc_ok {ts : List Pre2} (h : rowOk ts = true) : Asc ts := asc_of (by unfold rowOk at h; simp only [Bool.and_eq_true] at h; exact h.2)
set_option maxRecDepth 100000 in
set_option maxHeartbeats 3200000 in
theorem implFilledBy (a : Option Addr) (len cap : Nat) (ts : List Pre2) (s p o : ByteArray) (w : World) (h : IsPres w a len cap ts) (ha : Asc ts) (hlen : len ≤ 1048576) :
    Calls Tryz.prog 94 #[.slice a len cap, .agg #[.string s, .string p, .string o]] w fun e w' => e = .returned (.agg #[.string (seen ts s), .string (seen ts p), .string (seen ts o)]) ∧ Below w.heap.size w w' := by
  have H := Lib.hid h
  have HA := Lib.hid ha
  clear h ha
  go_enter Tryz.func94, Tryz.ntmps94
  go_wp2_with fail
  have B0 : Below w.heap.size w ((w.alloc (.cells #[.string s, .string p, .string o] 65)).alloc (.cells #[.string ⟨#[]⟩, .string ⟨#[]⟩, .string ⟨#[]⟩] 65)).drew := (((Below.refl _ _).alloc (Nat.le_refl _) _).alloc (by simp) _).drew
  have g0 : Box ((w.alloc (.cells #[.string s, .string p, .string o] 65)).alloc (.cells #[.string ⟨#[]⟩, .string ⟨#[]⟩, .string ⟨#[]⟩] 65)).drew w.heap.size (.string s) (.string p) (.string o) 65 := Box.drew (Box.alloc (Box.new w _ _ _ _) _)
  have g1 : Box ((w.alloc (.cells #[.string s, .string p, .string o] 65)).alloc (.cells #[.string ⟨#[]⟩, .string ⟨#[]⟩, .string ⟨#[]⟩] 65)).drew (w.heap.size + 1) (.string ⟨#[]⟩) (.string ⟨#[]⟩) (.string ⟨#[]⟩) 65 := by
    have := Box.drew (Box.new (w.alloc (.cells #[.string s, .string p, .string o] 65)) (.string ⟨#[]⟩) (.string ⟨#[]⟩) (.string ⟨#[]⟩) 65)
    unfold Box at this ⊢
    simpa using this
  have S0 := Lib.hid (⟨g0.cells.1, g0.cells.2.1, g0.cells.2.2, IsPres.next H.out B0⟩ : _ ∧ _ ∧ _ ∧ _)
  clear g0
  have B00 := Lib.hid B0
  clear B0
  go_region_held3 (fun w' => w'.cell? ⟨w.heap.size, 0, none⟩ = some (.string s) ∧ w'.cell? ⟨w.heap.size, 1, none⟩ = some (.string p) ∧ w'.cell? ⟨w.heap.size, 2, none⟩ = some (.string o) ∧ IsPres w' a len cap ts)
    (first | exact S0.out | (go_split_ands; refine ⟨?_, ?_, ?_, IsPres.next (by assumption) hb1⟩ <;> (rw [hb1.cell (World.block_lt_of_cell? _ _ (by assumption))]; assumption)) | (go_split_ands; refine ⟨?_, ?_, ?_, IsPres.next (by assumption) hb2⟩ <;> (rw [hb2.cell (World.block_lt_of_cell? _ _ (by assumption))]; assumption)) | (go_split_ands; refine ⟨?_, ?_, ?_, IsPres.next (by assumption) hb3⟩ <;> (rw [hb3.cell (World.block_lt_of_cell? _ _ (by assumption))]; assumption)) | (refine ⟨?_, ?_, ?_, IsPres.next H.out (below_set3 B33.out (w.heap.size + 1) (Nat.le_succ _) _ _ _)⟩ <;> (go_split_ands; rw [cell_set3 (Nat.ne_of_lt (Nat.lt_succ_self _))]; assumption)))
    (first
      | (go_at_call_of 140 (Value.string s); go_split_ands; refine (implValueIn a len cap ts s _ (by assumption) HA.out hlen).mono ?_; rintro e w1 ⟨rfl, hb1⟩; have g2 := g1.next hb1; have B11 := Lib.hid (B00.out.trans (hb1.mono B00.out.size)))
      | (go_at_call_of 140 (Value.string p); go_split_ands; refine (implValueIn a len cap ts p _ (by assumption) HA.out hlen).mono ?_; rintro e w2 ⟨rfl, hb2⟩; have g3 := g2.next hb2; have B22 := Lib.hid (B11.out.trans (hb2.mono B11.out.size)))
      | (go_at_call_of 140 (Value.string o); go_split_ands; refine (implValueIn a len cap ts o _ (by assumption) HA.out hlen).mono ?_; rintro e w3 ⟨rfl, hb3⟩; have g4 := g3.next hb3; have B33 := Lib.hid (B22.out.trans (hb3.mono B22.out.size)); obtain ⟨a0, a1, a2⟩ := g4.cells; obtain ⟨f0, f1, f2⟩ := g4.free))
  go_wp2_with fail
  refine bodyPost_ret (v := .agg #[.string (seen ts s), .string (seen ts p), .string (seen ts o)]) (by simp [results, Tryz.results94, go_sem, *]) rfl ⟨rfl, below_set3 B33.out (w.heap.size + 1) (Nat.le_succ _) _ _ _⟩
end Go.Proofs.YtiajdnhmjdfeeaaGreat
