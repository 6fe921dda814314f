/- The contracts of the program's functions that write one triple short. -/
import Derived.Test.YtdhieemalhadmabTurtM
import Derived.Test.YtdhieemalhadmabShort
import Derived.Test.YtdhieemalhadmabBox
import Derived.Deep.RegionHeld3
import Derived.Deep.RegionWith
namespace Go.Proofs.Ytdhieemalhadmab
open Go.RowKit Go.WideShapes
set_option maxRecDepth 100000 in
set_option maxHeartbeats 1600000 in
theorem implPred (a : Option Addr) (len cap : Nat) (ls : List Pre2) (w : World) (h : IsPres w a len cap ls) (hsm : SmP ls) (p : ByteArray) (hp : p.size ≤ 1048576) :
    Calls Try.prog 98 #[.slice a len cap, .string p] w fun e w' => e = .returned (.string (bs (predL ls p))) ∧ Below w.heap.size w w' := by
  have C := implShortened a len cap ls w h hsm p hp
  unfold predL
  cases e : (p.toList == [60, 116, 121, 112, 101, 62])
  · have D := Lib.hid C
    have HQ : Hid (bs (shortL ls p.data.toList) = bs (if false = true then [97] else shortL ls p.data.toList)) := Lib.hid rfl
    clear C h hsm
    rw [← HQ.out]
    clear HQ
    generalize bs (shortL ls p.data.toList) = q at *
    go_enter Try.func98, Try.ntmps98
    go_wp2_with fail
    refine D.out.mono ?_
    rintro e w1 ⟨rfl, hb1⟩
    go_wp2_with fail
    go_ret
    exact ⟨rfl, hb1⟩
  · have HQ : Hid ({ data := #[97] } = bs (if true = true then [97] else shortL ls p.data.toList)) := Lib.hid rfl
    rw [← HQ.out]
    clear C h hsm HQ
    go_enter Try.func98, Try.ntmps98
    go_wp2_with fail
    go_ret
    exact ⟨rfl, Below.refl _ _⟩
theorem comma_text (o : ByteArray) : { data := #[32, 44, 32] } ++ o = bs ([32, 44, 32] ++ o.data.toList) := by
  apply bs_eq; simp
theorem semi_text (p o : ByteArray) : { data := #[32, 59, 10, 32, 32] } ++ p ++ { data := #[32] } ++ o = bs ([32, 59, 10, 32, 32] ++ (p.data.toList ++ 32 :: o.data.toList)) := by
  apply bs_eq; simp
theorem full_text (s p o : ByteArray) : s ++ { data := #[32] } ++ p ++ { data := #[32] } ++ o = bs (s.data.toList ++ 32 :: (p.data.toList ++ 32 :: o.data.toList)) := by
  apply bs_eq; simp
set_option maxRecDepth 100000 in
set_option maxHeartbeats 1600000 in
theorem implPart (a : Option Addr) (len cap : Nat) (ls : List Pre2) (w : World) (h : IsPres w a len cap ls) (hsm : SmP ls) (u t : Tri3) (ht : t.1.size ≤ 1048576 ∧ t.2.1.size ≤ 1048576 ∧ t.2.2.size ≤ 1048576) :
    Calls Try.prog 69 #[.slice a len cap, .agg #[.string u.1, .string u.2.1, .string u.2.2], .agg #[.string t.1, .string t.2.1, .string t.2.2]] w fun e w' => e = .returned (.string (bs (partL ls u t))) ∧ Below w.heap.size w w' := by
  obtain ⟨S, hS⟩ : ∃ S, bs (shortL ls t.1.data.toList) = S := ⟨_, rfl⟩
  obtain ⟨P, hP⟩ : ∃ P, bs (predL ls t.2.1) = P := ⟨_, rfl⟩
  obtain ⟨O, hO⟩ : ∃ O, bs (objL ls t) = O := ⟨_, rfl⟩
  have zs : S.size ≤ 2097153 := by rw [← hS, bs_size]; exact short_small hsm ht.1
  have zp : P.size ≤ 2097153 := by rw [← hP, bs_size]; exact pred_small hsm ht.2.1
  have zo : O.size ≤ 2097153 := by rw [← hO, bs_size]; exact short_small hsm ht.2.2
  have CS : ∀ wr, Below w.heap.size w wr → Calls Try.prog 14 #[.slice a len cap, .string t.1] wr fun e w' => e = .returned (.string S) ∧ Below wr.heap.size wr w' := fun wr hb => by rw [← hS]; exact implShortened a len cap ls wr (h.next hb) hsm t.1 ht.1
  have CP : ∀ wr, Below w.heap.size w wr → Calls Try.prog 98 #[.slice a len cap, .string t.2.1] wr fun e w' => e = .returned (.string P) ∧ Below wr.heap.size wr w' := fun wr hb => by rw [← hP]; exact implPred a len cap ls wr (h.next hb) hsm t.2.1 ht.2.1
  have CO : ∀ wr, Below w.heap.size w wr → Calls Try.prog 14 #[.slice a len cap, .string t.2.2] wr fun e w' => e = .returned (.string O) ∧ Below wr.heap.size wr w' := fun wr hb => by rw [← hO]; exact implShortened a len cap ls wr (h.next hb) hsm t.2.2 ht.2.2
  have D1 := Lib.hid CS
  have D2 := Lib.hid CP
  have D3 := Lib.hid CO
  have B0 := ((Below.refl w.heap.size w).alloc (Nat.le_refl _) (.cells #[.string u.1, .string u.2.1, .string u.2.2] 53)).alloc (by simp) (.cells #[.string t.1, .string t.2.1, .string t.2.2] 53)
  have U0 := (Box.new w (.string u.1) (.string u.2.1) (.string u.2.2) 53).alloc (.cells #[.string t.1, .string t.2.1, .string t.2.2] 53)
  have T0 := Box.new (w.alloc (.cells #[.string u.1, .string u.2.1, .string u.2.2] 53)) (.string t.1) (.string t.2.1) (.string t.2.2) 53
  have hsz : (w.alloc (.cells #[.string u.1, .string u.2.1, .string u.2.2] 53)).heap.size = w.heap.size + 1 := by simp
  rw [hsz] at T0
  have HC : commaL ls t = [32, 44, 32] ++ O.data.toList := by rw [← hO]; rfl
  have HSm : semiL ls t = [32, 59, 10, 32, 32] ++ (P.data.toList ++ 32 :: O.data.toList) := by rw [← hO, ← hP]; rfl
  have HF : fullL ls t = S.data.toList ++ 32 :: (P.data.toList ++ 32 :: O.data.toList) := by rw [← hO, ← hP, ← hS]; rfl
  obtain ⟨q, hq⟩ : ∃ q, bs (partL ls u t) = q := ⟨_, rfl⟩
  rw [hq]
  unfold partL at hq
  clear CS CP CO h hsm hS hP hO
  cases h1 : sameS t u
  · rw [h1] at hq
    simp only [Bool.false_eq_true, if_false] at hq
    rw [HF, ← full_text] at hq
    have e1 : (t.1.toList == u.1.toList) = false := h1
    obtain ⟨k0, g0⟩ : ∃ k, S ++ { data := #[32] } = k := ⟨_, rfl⟩
    obtain ⟨k1, g1⟩ : ∃ k, k0 ++ P = k := ⟨_, rfl⟩
    obtain ⟨k2, g2⟩ : ∃ k, k1 ++ { data := #[32] } = k := ⟨_, rfl⟩
    have s1 : (ByteArray.mk #[32]).size = 1 := rfl
    have z0 : k0.size ≤ 2097154 := by rw [← g0, ByteArray.size_append]; omega
    have z1 : k1.size ≤ 4194307 := by rw [← g1, ByteArray.size_append]; omega
    have z2 : k2.size ≤ 4194308 := by rw [← g2, ByteArray.size_append]; omega
    have a0 := addFact (by omega) g0
    have a1 := addFact (by omega) g1
    have a2 := addFact (by omega) g2
    rw [g0, g1, g2] at hq
    have a3 := addFact (by omega) hq
    clear h1 HC HSm HF g0 g1 g2 hq
    go_enter Try.func69, Try.ntmps69
    go_wp2_with fail
    refine (D3.out _ B0).mono ?_
    rintro e w1 ⟨rfl, hb1⟩
    have U1 := U0.next hb1
    have T1 := T0.next hb1
    have B1 := B0.trans (hb1.mono B0.size)
    clear hb1 B0 U0 T0
    obtain ⟨c0, c1, c2⟩ := T1.cells
    obtain ⟨d0, d1, d2⟩ := U1.cells
    have lt1 := T1.lt
    go_wp2_with fail
    go_region_held3 (fun w' => w'.cell? ⟨w.heap.size + 1, 0, none⟩ = some (.string t.1) ∧ w'.cell? ⟨w.heap.size + 1, 1, none⟩ = some (.string t.2.1))
      (first | go_keep | (go_split_ands; refine ⟨?_, ?_⟩ <;> (rw [ha4.cell (by first | (simp; done) | exact World.block_lt_of_cell? _ _ (by assumption))]; assumption)) | (go_split_ands; refine ⟨?_, ?_⟩ <;> (rw [hb4.cell (by first | (simp; done) | exact World.block_lt_of_cell? _ _ (by assumption))]; assumption)))
      (first
        | (go_at_call 14; refine (D1.out _ (Below.drew B1)).mono ?_; rintro e wa ⟨rfl, ha4⟩)
        | (go_at_call 98; refine (D2.out _ ((Below.drew B1).trans (ha4.mono B1.size))).mono ?_; rintro e wb ⟨rfl, hb4⟩))
    have B2 : Below w.heap.size w wa := (Below.drew B1).trans (ha4.mono B1.size)
    have B3 : Below w.heap.size w wb := B2.trans (hb4.mono B2.size)
    clear ha4 hb4 B1 B2 c0 c1 c2 d0 d1 d2 T1 U1
    go_wp2_with fail
    go_ret
    exact ⟨rfl, B3⟩
  have e1 : (t.1.toList == u.1.toList) = true := h1
  rw [h1] at hq
  simp only [if_true] at hq
  cases h2 : sameP t u
  · rw [h2] at hq
    simp only [Bool.false_eq_true, if_false] at hq
    rw [HSm, ← semi_text] at hq
    have e2 : (t.2.1.toList == u.2.1.toList) = false := h2
    have HQ := Lib.hid hq
    clear h1 h2 HC HSm HF hq
    go_enter Try.func69, Try.ntmps69
    go_wp2_with fail
    refine (D3.out _ B0).mono ?_
    rintro e w1 ⟨rfl, hb1⟩
    have U1 := U0.next hb1
    have T1 := T0.next hb1
    have B1 := B0.trans (hb1.mono B0.size)
    clear hb1 B0 U0 T0
    obtain ⟨c0, c1, c2⟩ := T1.cells
    obtain ⟨d0, d1, d2⟩ := U1.cells
    go_wp2_with fail
    refine (D2.out _ B1).mono ?_
    rintro e w2 ⟨rfl, hb2⟩
    have B2 := B1.trans (hb2.mono B1.size)
    clear hb2 B1 c0 c1 c2 d0 d1 d2 T1 U1
    go_wp2_with fail
    go_ret
    exact ⟨by rw [← HQ.out]; rfl, B2⟩
  · rw [h2] at hq
    simp only [if_true] at hq
    rw [HC, ← comma_text] at hq
    have e2 : (t.2.1.toList == u.2.1.toList) = true := h2
    have HQ := Lib.hid hq
    clear h1 h2 HC HSm HF hq
    go_enter Try.func69, Try.ntmps69
    go_wp2_with fail
    refine (D3.out _ B0).mono ?_
    rintro e w1 ⟨rfl, hb1⟩
    have U1 := U0.next hb1
    have T1 := T0.next hb1
    have B1 := B0.trans (hb1.mono B0.size)
    clear hb1 B0 U0 T0
    obtain ⟨c0, c1, c2⟩ := T1.cells
    obtain ⟨d0, d1, d2⟩ := U1.cells
    go_wp2_with fail
    go_ret
    exact ⟨by rw [← HQ.out]; rfl, B1⟩
end Go.Proofs.Ytdhieemalhadmab
