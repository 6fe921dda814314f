/- The walk of FnTriples. -/
import Derived.Test.YtinmjbgljgljkaaFrame
import Derived.Test.YtinmjbgljgljkaaRead2
import Derived.Test.YtinmjbgljgljkaaTriM
import Derived.Test.YtinmjbgljgljkaaDrawTri2
import Derived.Deep.RegionHeld3
import Derived.Deep.RegionWith
import Derived.Test.YtinmjbgljgljkaaTriEq
namespace Go.Proofs.Ytinmjbgljgljkaa
open Go.RowKit Go.WideShapes
namespace fnTriples
set_option maxRecDepth 100000 in
set_option maxHeartbeats 1600000 in
theorem walk (a : Option Addr) (len cap : Nat) (zs : List Int) (w : World) (hrow : Frame.IsRow .u8 w a len cap zs) :
    Calls Try.prog 9 #[.slice a len cap] w fun e w' => e = .returned (.bool true) ∧ Below w.heap.size w w' := by
  have hlen : len ≤ 9223372036854775807 := by
    rcases hrow with ⟨_, rfl, _⟩ | ⟨y, _, h1, h2, _⟩
    · omega
    · unfold maxLen at h2; omega
  by_cases hbig : (1048576 : Int) < len
  · go_enter Try.func9, Try.ntmps9
    go_wp2_with go_in
    go_ret
    exact ⟨rfl, Below.refl _ _⟩
  go_enter Try.func9, Try.ntmps9
  go_wp2_with (go_at_call 15; go_in)
  refine (drawTripleText _ _ _ _ _ hrow).mono ?_
  rintro e w1 ⟨s, p, o, hs, hp, ho, rfl, hg1⟩
  have T1 := Box.new w1 (.string s) (.string p) (.string o) 33
  have G1 := hg1.trans (World.grownBy_alloc w1 (.cells #[.string s, .string p, .string o] 33) none)
  clear hg1
  have hs2 : s.size ≤ 2097152 := by omega
  have hp2 : p.size ≤ 2097152 := by omega
  have ho2 : o.size ≤ 2097152 := by omega
  have A1 := implTripleText s p o hs2 hp2 ho2
  have A2 := specTripleText s p o hs2 hp2 ho2
  have A3 := Lib.hid (implTripleOk s p o hs2 hp2 ho2)
  have A4 := Lib.hid (specTripleOk s p o hs2 hp2 ho2)
  have hrt := readT_triText s.data.toList p.data.toList o.data.toList
  obtain ⟨q, hq, hql⟩ : ∃ q : ByteArray, bs (triText s.data.toList p.data.toList o.data.toList) = q ∧ q.size ≤ 64 := ⟨_, rfl, by
    rw [bs_size]; unfold triText; split <;> simp <;> omega⟩
  have A5 := implRead q (by omega)
  rw [← hq, bs_toList, hrt, hq] at A5
  rw [hq] at A1 A2
  clear hq hrt
  have C1 := Lib.hid A1
  have C2 := Lib.hid A2
  clear A1 A2
  have l1 := T1.lt
  go_wp2_with fail
  refine (C1.out _).mono ?_
  rintro e w2 ⟨rfl, hb2⟩
  have T2 := T1.next hb2
  have G2 := G1.trans (grown_of_below hb2)
  clear hb2 T1 G1
  cases hk : triOk s.data.toList p.data.toList o.data.toList
  · rw [hk] at A5 A3 A4
    have A5' : ∀ w, Calls Try.prog 38 #[.string q] w fun e w' => e = .returned (.tuple #[.agg #[.string (bs []), .string (bs []), .string (bs [])], .bool false]) ∧ Below w.heap.size w w' := by
      intro w
      refine (A5 w).mono fun e w' h => ⟨h.1.trans ?_, h.2⟩
      simp [readV]
    have C5 := Lib.hid A5'
    have C3 := Lib.hid A3
    have C4 := Lib.hid A4
    clear A5 A5' A3 A4 hk
    go_wp2_with fail
    refine (C5.out _).mono ?_
    rintro e w3 ⟨rfl, hb3⟩
    have T3 := (T2.next hb3).alloc (.cells #[.string (bs []), .string (bs []), .string (bs [])] 33)
    have U3 := Box.new w3 (.string (bs [])) (.string (bs [])) (.string (bs [])) 33
    have G3 := (G2.trans (grown_of_below hb3)).trans (World.grownBy_alloc w3 (.cells #[.string (bs []), .string (bs []), .string (bs [])] 33) none)
    clear hb3 T2 G2
    obtain ⟨c0, c1, c2⟩ := T3.cells
    obtain ⟨d0, d1, d2⟩ := U3.cells
    go_wp2_with fail
    have TT := T3.drew
    have GG := grown_drew G3
    clear T3 G3 U3 d0 d1 d2
    go_region_with (first
      | (go_at_call 39; refine (C2.out _).mono ?_; rintro e wa ⟨rfl, hx⟩; have TT2 := TT.next hx; have GG2 := GG.trans (grown_of_below hx); clear TT GG hx c0 c1 c2; have TT := TT2; have GG := GG2; clear TT2 GG2; obtain ⟨c0, c1, c2⟩ := TT.cells)
      | (go_at_call 40; refine (C3.out _).mono ?_; rintro e wb ⟨rfl, hx⟩; have TT2 := TT.next hx; have GG2 := GG.trans (grown_of_below hx); clear TT GG hx c0 c1 c2; have TT := TT2; have GG := GG2; clear TT2 GG2; obtain ⟨c0, c1, c2⟩ := TT.cells)
      | (go_at_call 41; refine (C4.out _).mono ?_; rintro e wd ⟨rfl, hx⟩; have TT2 := TT.next hx; have GG2 := GG.trans (grown_of_below hx); clear TT GG hx c0 c1 c2; have TT := TT2; have GG := GG2; clear TT2 GG2; obtain ⟨c0, c1, c2⟩ := TT.cells))
    all_goals
      clear TT c0 c1 c2
      have G4 := GG
      clear GG
      go_wp2_with fail
      refine (drawReadTriple _ _ _ _ _ (isRow_grown hrow G4)).mono ?_
      rintro e w5 ⟨b, hb, rfl, hg5⟩
      have G5 := G4.trans hg5
      clear G4 hg5
      have A6 := implRead b (by omega)
      have A7 := specRead b (by omega)
      rcases hx : readT b.data.toList with _ | ⟨x, y, z⟩
      · rw [hx] at A6 A7
        have C6 : Hid (∀ w, Calls Try.prog 38 #[.string b] w fun e w' => e = .returned (.tuple #[.agg #[.string (bs []), .string (bs []), .string (bs [])], .bool false]) ∧ Below w.heap.size w w') := Lib.hid A6
        have C7 : Hid (∀ w, Calls Try.prog 43 #[.string b] w fun e w' => e = .returned (.tuple #[.agg #[.string (bs []), .string (bs []), .string (bs [])], .bool false]) ∧ Below w.heap.size w w') := Lib.hid A7
        clear A6 A7 hx
        go_wp2_with fail
        refine (C6.out _).mono ?_
        rintro e w6 ⟨rfl, hb6⟩
        have G6 := (G5.trans (grown_of_below hb6)).trans (World.grownBy_alloc w6 (.cells #[.string (bs []), .string (bs []), .string (bs [])] 33) none)
        clear hb6 G5
        go_wp2_with fail
        refine (C7.out _).mono ?_
        rintro e w7 ⟨rfl, hb7⟩
        have G7 := (G6.trans (grown_of_below hb7)).trans (World.grownBy_alloc w7 (.cells #[.string (bs []), .string (bs []), .string (bs [])] 33) none)
        clear hb7 G6
        go_wp2_with fail
        go_ret
        exact ⟨rfl, below_of_grown G7⟩
      · have hl := readT_len hx
        rw [size_len] at hl
        have hxt := triText_readT hx
        rw [hx] at A6 A7
        have C6 : Hid (∀ w, Calls Try.prog 38 #[.string b] w fun e w' => e = .returned (.tuple #[.agg #[.string (bs x), .string (bs y), .string (bs z)], .bool true]) ∧ Below w.heap.size w w') := Lib.hid A6
        have C7 : Hid (∀ w, Calls Try.prog 43 #[.string b] w fun e w' => e = .returned (.tuple #[.agg #[.string (bs x), .string (bs y), .string (bs z)], .bool true]) ∧ Below w.heap.size w w') := Lib.hid A7
        have A8 := implTripleText (bs x) (bs y) (bs z) (by rw [bs_size]; omega) (by rw [bs_size]; omega) (by rw [bs_size]; omega)
        simp only [bs_toList, hxt, bs_of] at A8
        have C8 := Lib.hid A8
        clear A6 A7 A8 hx hl hxt
        go_wp2_with fail
        refine (C6.out _).mono ?_
        rintro e w6 ⟨rfl, hb6⟩
        have X6 := Box.new w6 (.string (bs x)) (.string (bs y)) (.string (bs z)) 33
        have G6 := (G5.trans (grown_of_below hb6)).trans (World.grownBy_alloc w6 (.cells #[.string (bs x), .string (bs y), .string (bs z)] 33) none)
        clear hb6 G5
        go_wp2_with fail
        refine (C7.out _).mono ?_
        rintro e w7 ⟨rfl, hb7⟩
        have X7 := (X6.next hb7).alloc (.cells #[.string (bs x), .string (bs y), .string (bs z)] 33)
        have G7 := (G6.trans (grown_of_below hb7)).trans (World.grownBy_alloc w7 (.cells #[.string (bs x), .string (bs y), .string (bs z)] 33) none)
        clear hb7 G6 X6
        have c9 := (X7.cells).1
        have c10 := (X7.cells).2.1
        have c11 := (X7.cells).2.2
        have l7 := X7.lt
        go_wp2_with fail
        refine (C8.out _).mono ?_
        rintro e w8 ⟨rfl, hb8⟩
        have G8 := G7.trans (grown_of_below hb8)
        clear hb8 G7 X7 c9 c10 c11
        go_wp2_with fail
        go_ret
        exact ⟨rfl, below_of_grown G8⟩
  · rw [hk] at A5 A3 A4
    have A5' : ∀ w, Calls Try.prog 38 #[.string q] w fun e w' => e = .returned (.tuple #[.agg #[.string s, .string p, .string o], .bool true]) ∧ Below w.heap.size w w' := by
      intro w
      refine (A5 w).mono fun e w' h => ⟨h.1.trans ?_, h.2⟩
      simp [readV, bs_of]
    have C5 := Lib.hid A5'
    have C3 := Lib.hid A3
    have C4 := Lib.hid A4
    clear A5 A5' A3 A4 hk
    go_wp2_with fail
    refine (C5.out _).mono ?_
    rintro e w3 ⟨rfl, hb3⟩
    have T3 := (T2.next hb3).alloc (.cells #[.string s, .string p, .string o] 33)
    have U3 := Box.new w3 (.string s) (.string p) (.string o) 33
    have G3 := (G2.trans (grown_of_below hb3)).trans (World.grownBy_alloc w3 (.cells #[.string s, .string p, .string o] 33) none)
    clear hb3 T2 G2
    obtain ⟨c0, c1, c2⟩ := T3.cells
    obtain ⟨d0, d1, d2⟩ := U3.cells
    go_wp2_with fail
    have hne := tri_same s p o
    have hgd := fun op x y xs ys wx => run_eqGuard_agg (P := Try.prog) wx op 33 x y xs ys tri_guard
    go_region_held3 (fun w' => w'.cell? ⟨w1.heap.size, 0, none⟩ = some (.string s) ∧ w'.cell? ⟨w1.heap.size, 1, none⟩ = some (.string p) ∧ w'.cell? ⟨w1.heap.size, 2, none⟩ = some (.string o) ∧ w'.cell? ⟨w3.heap.size, 0, none⟩ = some (.string s) ∧ w'.cell? ⟨w3.heap.size, 1, none⟩ = some (.string p) ∧ w'.cell? ⟨w3.heap.size, 2, none⟩ = some (.string o))
      (first | go_keep | (go_split_ands; refine ⟨?_, ?_, ?_, ?_, ?_, ?_⟩ <;> (rw [hd4.cell (by first | (simp; done) | exact World.block_lt_of_cell? _ _ (by assumption))]; assumption)) | (go_split_ands; refine ⟨?_, ?_, ?_, ?_, ?_, ?_⟩ <;> (rw [hb4.cell (by first | (simp; done) | exact World.block_lt_of_cell? _ _ (by assumption))]; assumption)) | (go_split_ands; refine ⟨?_, ?_, ?_, ?_, ?_, ?_⟩ <;> (rw [ha4.cell (by first | (simp; done) | exact World.block_lt_of_cell? _ _ (by assumption))]; assumption)))
      (first
        | (go_at_call 39; refine (C2.out _).mono ?_; rintro e wa ⟨rfl, ha4⟩)
        | (go_at_call 40; refine (C3.out _).mono ?_; rintro e wb ⟨rfl, hb4⟩)
        | (go_at_call 41; refine (C4.out _).mono ?_; rintro e wd ⟨rfl, hd4⟩))
    obtain ⟨wq, hq1, hq2⟩ : ∃ wq, Below wa.heap.size wa wq ∧ Below wq.heap.size wq wb := ⟨_, by assumption, hb4⟩
    have G4 := (((grown_drew G3).trans (grown_of_below ha4)).trans (grown_of_below hq1)).trans ((grown_of_below hq2).trans (grown_of_below hd4))
    clear hne hgd ha4 hq1 hq2 hb4 hd4 T3 U3 G3 c0 c1 c2 d0 d1 d2
    go_wp2_with fail
    refine (drawReadTriple _ _ _ _ _ (isRow_grown hrow G4)).mono ?_
    rintro e w5 ⟨b, hb, rfl, hg5⟩
    have G5 := G4.trans hg5
    clear G4 hg5
    have A6 := implRead b (by omega)
    have A7 := specRead b (by omega)
    rcases hx : readT b.data.toList with _ | ⟨x, y, z⟩
    · rw [hx] at A6 A7
      have C6 : Hid (∀ w, Calls Try.prog 38 #[.string b] w fun e w' => e = .returned (.tuple #[.agg #[.string (bs []), .string (bs []), .string (bs [])], .bool false]) ∧ Below w.heap.size w w') := Lib.hid A6
      have C7 : Hid (∀ w, Calls Try.prog 43 #[.string b] w fun e w' => e = .returned (.tuple #[.agg #[.string (bs []), .string (bs []), .string (bs [])], .bool false]) ∧ Below w.heap.size w w') := Lib.hid A7
      clear A6 A7 hx
      go_wp2_with fail
      refine (C6.out _).mono ?_
      rintro e w6 ⟨rfl, hb6⟩
      have G6 := (G5.trans (grown_of_below hb6)).trans (World.grownBy_alloc w6 (.cells #[.string (bs []), .string (bs []), .string (bs [])] 33) none)
      clear hb6 G5
      go_wp2_with fail
      refine (C7.out _).mono ?_
      rintro e w7 ⟨rfl, hb7⟩
      have G7 := (G6.trans (grown_of_below hb7)).trans (World.grownBy_alloc w7 (.cells #[.string (bs []), .string (bs []), .string (bs [])] 33) none)
      clear hb7 G6
      go_wp2_with fail
      go_ret
      exact ⟨rfl, below_of_grown G7⟩
    · have hl := readT_len hx
      rw [size_len] at hl
      have hxt := triText_readT hx
      rw [hx] at A6 A7
      have C6 : Hid (∀ w, Calls Try.prog 38 #[.string b] w fun e w' => e = .returned (.tuple #[.agg #[.string (bs x), .string (bs y), .string (bs z)], .bool true]) ∧ Below w.heap.size w w') := Lib.hid A6
      have C7 : Hid (∀ w, Calls Try.prog 43 #[.string b] w fun e w' => e = .returned (.tuple #[.agg #[.string (bs x), .string (bs y), .string (bs z)], .bool true]) ∧ Below w.heap.size w w') := Lib.hid A7
      have A8 := implTripleText (bs x) (bs y) (bs z) (by rw [bs_size]; omega) (by rw [bs_size]; omega) (by rw [bs_size]; omega)
      simp only [bs_toList, hxt, bs_of] at A8
      have C8 := Lib.hid A8
      clear A6 A7 A8 hx hl hxt
      go_wp2_with fail
      refine (C6.out _).mono ?_
      rintro e w6 ⟨rfl, hb6⟩
      have X6 := Box.new w6 (.string (bs x)) (.string (bs y)) (.string (bs z)) 33
      have G6 := (G5.trans (grown_of_below hb6)).trans (World.grownBy_alloc w6 (.cells #[.string (bs x), .string (bs y), .string (bs z)] 33) none)
      clear hb6 G5
      go_wp2_with fail
      refine (C7.out _).mono ?_
      rintro e w7 ⟨rfl, hb7⟩
      have X7 := (X6.next hb7).alloc (.cells #[.string (bs x), .string (bs y), .string (bs z)] 33)
      have G7 := (G6.trans (grown_of_below hb7)).trans (World.grownBy_alloc w7 (.cells #[.string (bs x), .string (bs y), .string (bs z)] 33) none)
      clear hb7 G6 X6
      have c9 := (X7.cells).1
      have c10 := (X7.cells).2.1
      have c11 := (X7.cells).2.2
      have l7 := X7.lt
      go_wp2_with fail
      refine (C8.out _).mono ?_
      rintro e w8 ⟨rfl, hb8⟩
      have G8 := G7.trans (grown_of_below hb8)
      clear hb8 G7 X7 c9 c10 c11
      go_wp2_with fail
      go_ret
      exact ⟨rfl, below_of_grown G8⟩
end fnTriples
end Go.Proofs.Ytinmjbgljgljkaa
