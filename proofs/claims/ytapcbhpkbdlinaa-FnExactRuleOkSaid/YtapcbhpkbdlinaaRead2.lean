/- The contract of the model's function that reads a triple. -/
import Derived.Test.YtapcbhpkbdlinaaRead
namespace Go.Proofs.Ytapcbhpkbdlinaa
open Go.RowKit
set_option maxRecDepth 100000 in
set_option maxHeartbeats 1600000 in
theorem specRead (s : ByteArray) (hs : s.size ≤ 2097152) (w : World) :
    Calls Try.prog 15 #[.string s] w fun e w' => e = .returned (readV (readT s.data.toList)) ∧ Below w.heap.size w w' := by
  rw [← readS_eq]
  have C1' := specCut s 32 hs
  have hR : readS s.data.toList = if (cutL s.data.toList 32).2.2 = true ∧ (cutL (cutL s.data.toList 32).2.1 32).2.2 = true ∧ Lib.hasSuffix (cutL (cutL s.data.toList 32).2.1 32).2.1 [32, 46] = true then (if triOk (cutL s.data.toList 32).1 (cutL (cutL s.data.toList 32).2.1 32).1 (Lib.trimSuffix (cutL (cutL s.data.toList 32).2.1 32).2.1 [32, 46]) = true then some ((cutL s.data.toList 32).1, (cutL (cutL s.data.toList 32).2.1 32).1, Lib.trimSuffix (cutL (cutL s.data.toList 32).2.1 32).2.1 [32, 46]) else none) else none := rfl
  have hc1 := cutL_len s.data.toList 32
  rw [size_len] at hc1
  generalize (cutL s.data.toList 32).1 = x at *
  generalize (cutL s.data.toList 32).2.1 = r at *
  generalize (cutL s.data.toList 32).2.2 = q1 at *
  have hc2 := cutL_len r 32
  have C2' := specCut (bs r) 32 (by rw [bs_size]; omega)
  rw [bs_toList] at C2'
  generalize (cutL r 32).1 = y at *
  generalize (cutL r 32).2.1 = z at *
  generalize (cutL r 32).2.2 = q2 at *
  obtain ⟨t, ht⟩ : ∃ t : ByteArray, bs z = t := ⟨_, rfl⟩
  obtain rfl : t.data.toList = z := by rw [← ht, bs_toList]
  rw [bs_of] at C2'
  clear ht
  rw [size_len] at hc2
  have hts : t.size ≤ 2097152 := by omega
  have C1 : Hid (∀ w, Calls Try.prog 71 #[.string s, .int .u8 32] w fun e w' => e = .returned (.tuple #[.string (bs x), .string (bs r), .bool q1]) ∧ Below w.heap.size w w') := Lib.hid C1'
  have C2 : Hid (∀ w, Calls Try.prog 71 #[.string (bs r), .int .u8 32] w fun e w' => e = .returned (.tuple #[.string (bs y), .string t, .bool q2]) ∧ Below w.heap.size w w') := Lib.hid C2'
  clear C1' C2'
  have hxl : (bs x).size ≤ 2097152 := by rw [bs_size]; omega
  have hyl : (bs y).size ≤ 2097152 := by rw [bs_size]; omega
  clear hc1 hc2
  cases q1
  · have HR : Hid (readS s.data.toList = none) := Lib.hid (by rw [hR]; simp)
    clear hR
    go_enter Try.func15, Try.ntmps15
    go_wp2_with fail
    refine (C1.out _).mono ?_
    rintro e w2 ⟨rfl, hb2⟩
    have g2 : w2.heap[w.heap.size]? = some (.cells #[.string ⟨#[]⟩, .string ⟨#[]⟩, .string ⟨#[]⟩] 23 (0, 0)) := (hb2.block _ (by simp)).trans (heap_alloc_new w _)
    have s2 := hb2.size
    have l2 : w.heap.size < w2.heap.size := by simp at s2; omega
    have B2 : Below w.heap.size w w2 := ((Below.refl _ _).alloc (Nat.le_refl _) _).trans (hb2.mono (by simp))
    clear hb2 s2
    have G2 := Lib.hid g2
    clear g2
    go_wp2_with fail
    refine (C2.out _).mono ?_
    rintro e w3 ⟨rfl, hb3⟩
    have g3 := (hb3.block _ l2).trans G2.out
    have l3 : w.heap.size < w3.heap.size := Nat.lt_of_lt_of_le l2 hb3.size
    have B3 := B2.trans (hb3.mono B2.size)
    clear hb3 B2 G2 l2
    have a0 := cell_of_blk (j := 0) (v := .string ⟨#[]⟩) g3 rfl
    have a1 := cell_of_blk (j := 1) (v := .string ⟨#[]⟩) g3 rfl
    have a2 := cell_of_blk (j := 2) (v := .string ⟨#[]⟩) g3 rfl
    have f0 := free_of_blk (j := 0) g3
    have f1 := free_of_blk (j := 1) g3
    have f2 := free_of_blk (j := 2) g3
    clear g3
    have BB := Lib.hid B3
    clear B3
    go_wp2_with fail
    refine bodyPost_ret (v := .tuple #[.agg #[.string ⟨#[]⟩, .string ⟨#[]⟩, .string ⟨#[]⟩], .bool false]) (by simp [results, Try.results15, go_sem, *]) rfl ⟨by rw [HR.out]; rfl, ((BB.out.setCell (Nat.le_refl _) _).setCell (Nat.le_refl _) _).setCell (Nat.le_refl _) _⟩
  cases q2
  · have HR : Hid (readS s.data.toList = none) := Lib.hid (by rw [hR]; simp)
    clear hR
    go_enter Try.func15, Try.ntmps15
    go_wp2_with fail
    refine (C1.out _).mono ?_
    rintro e w2 ⟨rfl, hb2⟩
    have g2 : w2.heap[w.heap.size]? = some (.cells #[.string ⟨#[]⟩, .string ⟨#[]⟩, .string ⟨#[]⟩] 23 (0, 0)) := (hb2.block _ (by simp)).trans (heap_alloc_new w _)
    have s2 := hb2.size
    have l2 : w.heap.size < w2.heap.size := by simp at s2; omega
    have B2 : Below w.heap.size w w2 := ((Below.refl _ _).alloc (Nat.le_refl _) _).trans (hb2.mono (by simp))
    clear hb2 s2
    have G2 := Lib.hid g2
    clear g2
    go_wp2_with fail
    refine (C2.out _).mono ?_
    rintro e w3 ⟨rfl, hb3⟩
    have g3 := (hb3.block _ l2).trans G2.out
    have l3 : w.heap.size < w3.heap.size := Nat.lt_of_lt_of_le l2 hb3.size
    have B3 := B2.trans (hb3.mono B2.size)
    clear hb3 B2 G2 l2
    have a0 := cell_of_blk (j := 0) (v := .string ⟨#[]⟩) g3 rfl
    have a1 := cell_of_blk (j := 1) (v := .string ⟨#[]⟩) g3 rfl
    have a2 := cell_of_blk (j := 2) (v := .string ⟨#[]⟩) g3 rfl
    have f0 := free_of_blk (j := 0) g3
    have f1 := free_of_blk (j := 1) g3
    have f2 := free_of_blk (j := 2) g3
    clear g3
    have BB := Lib.hid B3
    clear B3
    go_wp2_with fail
    refine bodyPost_ret (v := .tuple #[.agg #[.string ⟨#[]⟩, .string ⟨#[]⟩, .string ⟨#[]⟩], .bool false]) (by simp [results, Try.results15, go_sem, *]) rfl ⟨by rw [HR.out]; rfl, ((BB.out.setCell (Nat.le_refl _) _).setCell (Nat.le_refl _) _).setCell (Nat.le_refl _) _⟩
  have hR2 : readS s.data.toList = if Lib.hasSuffix t.data.toList [32, 46] = true then (if triOk x y (Lib.trimSuffix t.data.toList [32, 46]) = true then some (x, y, Lib.trimSuffix t.data.toList [32, 46]) else none) else none := by rw [hR]; simp
  clear hR
  by_cases hn : t.size < 2
  · have HR : Hid (readS s.data.toList = none) := Lib.hid (by
      rw [hR2, if_neg]
      intro h
      obtain ⟨a, ha⟩ := (suffix_iff _ _).1 h
      have := congrArg List.length ha
      rw [size_len] at this
      simp at this
      omega)
    have hn1 : (t.size : Int) - 2 < 0 := by omega
    clear hR2 hn
    go_enter Try.func15, Try.ntmps15
    go_wp2_with fail
    refine (C1.out _).mono ?_
    rintro e w2 ⟨rfl, hb2⟩
    have g2 : w2.heap[w.heap.size]? = some (.cells #[.string ⟨#[]⟩, .string ⟨#[]⟩, .string ⟨#[]⟩] 23 (0, 0)) := (hb2.block _ (by simp)).trans (heap_alloc_new w _)
    have s2 := hb2.size
    have l2 : w.heap.size < w2.heap.size := by simp at s2; omega
    have B2 : Below w.heap.size w w2 := ((Below.refl _ _).alloc (Nat.le_refl _) _).trans (hb2.mono (by simp))
    clear hb2 s2
    have G2 := Lib.hid g2
    clear g2
    go_wp2_with fail
    refine (C2.out _).mono ?_
    rintro e w3 ⟨rfl, hb3⟩
    have g3 := (hb3.block _ l2).trans G2.out
    have l3 : w.heap.size < w3.heap.size := Nat.lt_of_lt_of_le l2 hb3.size
    have B3 := B2.trans (hb3.mono B2.size)
    clear hb3 B2 G2 l2
    have a0 := cell_of_blk (j := 0) (v := .string ⟨#[]⟩) g3 rfl
    have a1 := cell_of_blk (j := 1) (v := .string ⟨#[]⟩) g3 rfl
    have a2 := cell_of_blk (j := 2) (v := .string ⟨#[]⟩) g3 rfl
    have f0 := free_of_blk (j := 0) g3
    have f1 := free_of_blk (j := 1) g3
    have f2 := free_of_blk (j := 2) g3
    clear g3
    have BB := Lib.hid B3
    clear B3
    go_wp2_with fail
    refine bodyPost_ret (v := .tuple #[.agg #[.string ⟨#[]⟩, .string ⟨#[]⟩, .string ⟨#[]⟩], .bool false]) (by simp [results, Try.results15, go_sem, *]) rfl ⟨by rw [HR.out]; rfl, ((BB.out.setCell (Nat.le_refl _) _).setCell (Nat.le_refl _) _).setCell (Nat.le_refl _) _⟩
  have hn1 : ¬ (t.size : Int) - 2 < 0 := by omega
  have hn2 : (2 : Int) ≤ t.size := by omega
  have sl1 := fun wx => run_slice_string_l (P := Try.prog) wx 9 t Try.underlying9 .i64 ((t.size : Int) - 2) (by omega) (by omega)
  have sl2 := fun wx => run_slice_string_h (P := Try.prog) wx 9 t Try.underlying9 .i64 ((t.size : Int) - 2) (by omega) (by omega)
  have e1 : ((t.size : Int) - 2).toNat = t.size - 2 := by omega
  rw [e1] at sl1 sl2
  have hx1 : (t.extract (t.size - 2) t.size).toList = t.data.toList.drop (t.size - 2) := by rw [ByteArray.toList_eq, ext_toList, take_all _ _ (Nat.le_refl _)]
  have hx2 : t.extract 0 (t.size - 2) = bs (t.data.toList.take (t.size - 2)) := bs_eq (by rw [ext_toList, List.drop_zero])
  have hxe : Lib.hasSuffix t.data.toList [32, 46] = (t.data.toList.drop (t.size - 2) == [32, 46]) := by
    rw [Bool.eq_iff_iff, suffix_iff, beq_iff_eq]
    constructor
    · rintro ⟨a, ha⟩
      have hl := congrArg List.length ha
      rw [size_len, List.length_append] at hl
      simp only [List.length_cons, List.length_nil] at hl
      rw [ha, show t.size - 2 = a.length from by omega, List.drop_append_of_le_length (Nat.le_refl _)]
      simp
    · intro h
      exact ⟨t.data.toList.take (t.size - 2), by rw [← h, List.take_append_drop]⟩
  cases h1 : Lib.hasSuffix t.data.toList [32, 46]
  · have HR : Hid (readS s.data.toList = none) := Lib.hid (by rw [hR2, h1]; rfl)
    have hb1 : ((t.extract (t.size - 2) t.size).toList == [32, 46]) = false := by rw [hx1, ← hxe, h1]
    clear hR2 hn hx1 hx2 hxe h1 e1
    go_enter Try.func15, Try.ntmps15
    go_wp2_with fail
    refine (C1.out _).mono ?_
    rintro e w2 ⟨rfl, hb2⟩
    have g2 : w2.heap[w.heap.size]? = some (.cells #[.string ⟨#[]⟩, .string ⟨#[]⟩, .string ⟨#[]⟩] 23 (0, 0)) := (hb2.block _ (by simp)).trans (heap_alloc_new w _)
    have s2 := hb2.size
    have l2 : w.heap.size < w2.heap.size := by simp at s2; omega
    have B2 : Below w.heap.size w w2 := ((Below.refl _ _).alloc (Nat.le_refl _) _).trans (hb2.mono (by simp))
    clear hb2 s2
    have G2 := Lib.hid g2
    clear g2
    go_wp2_with fail
    refine (C2.out _).mono ?_
    rintro e w3 ⟨rfl, hb3⟩
    have g3 := (hb3.block _ l2).trans G2.out
    have l3 : w.heap.size < w3.heap.size := Nat.lt_of_lt_of_le l2 hb3.size
    have B3 := B2.trans (hb3.mono B2.size)
    clear hb3 B2 G2 l2
    have a0 := cell_of_blk (j := 0) (v := .string ⟨#[]⟩) g3 rfl
    have a1 := cell_of_blk (j := 1) (v := .string ⟨#[]⟩) g3 rfl
    have a2 := cell_of_blk (j := 2) (v := .string ⟨#[]⟩) g3 rfl
    have f0 := free_of_blk (j := 0) g3
    have f1 := free_of_blk (j := 1) g3
    have f2 := free_of_blk (j := 2) g3
    clear g3
    have BB := Lib.hid B3
    clear B3
    go_wp2_with fail
    refine bodyPost_ret (v := .tuple #[.agg #[.string ⟨#[]⟩, .string ⟨#[]⟩, .string ⟨#[]⟩], .bool false]) (by simp [results, Try.results15, go_sem, *]) rfl ⟨by rw [HR.out]; rfl, ((BB.out.setCell (Nat.le_refl _) _).setCell (Nat.le_refl _) _).setCell (Nat.le_refl _) _⟩
  have hb1 : ((t.extract (t.size - 2) t.size).toList == [32, 46]) = true := by rw [hx1, ← hxe, h1]
  have htr : Lib.trimSuffix t.data.toList [32, 46] = t.data.toList.take (t.size - 2) := by unfold Lib.trimSuffix; rw [h1, if_pos rfl, size_len]; rfl
  rw [h1, if_pos rfl, htr] at hR2
  obtain ⟨z, hz⟩ : ∃ z, t.data.toList.take (t.size - 2) = z := ⟨_, rfl⟩
  rw [hz] at hR2 hx2
  have hzl : (bs z).size ≤ 2097152 := by rw [bs_size, ← hz, List.length_take]; omega
  clear hx1 hxe h1 htr hz e1 hn
  have C4' := specTripleOk (bs x) (bs y) (bs z) hxl hyl hzl
  simp only [bs_toList] at C4'
  cases h4 : triOk x y z
  · rw [h4] at C4' hR2
    have HR : Hid (readS s.data.toList = none) := Lib.hid (by rw [hR2]; rfl)
    have C4 := Lib.hid C4'
    clear C4' hR2 h4
    go_enter Try.func15, Try.ntmps15
    go_wp2_with fail
    refine (C1.out _).mono ?_
    rintro e w2 ⟨rfl, hb2⟩
    have g2 : w2.heap[w.heap.size]? = some (.cells #[.string ⟨#[]⟩, .string ⟨#[]⟩, .string ⟨#[]⟩] 23 (0, 0)) := (hb2.block _ (by simp)).trans (heap_alloc_new w _)
    have s2 := hb2.size
    have l2 : w.heap.size < w2.heap.size := by simp at s2; omega
    have B2 : Below w.heap.size w w2 := ((Below.refl _ _).alloc (Nat.le_refl _) _).trans (hb2.mono (by simp))
    clear hb2 s2
    have G2 := Lib.hid g2
    clear g2
    go_wp2_with fail
    refine (C2.out _).mono ?_
    rintro e w3 ⟨rfl, hb3⟩
    have g3 := (hb3.block _ l2).trans G2.out
    have l3 : w.heap.size < w3.heap.size := Nat.lt_of_lt_of_le l2 hb3.size
    have B3 := B2.trans (hb3.mono B2.size)
    clear hb3 B2 G2 l2
    go_wp2_with fail
    refine (C4.out _).mono ?_
    rintro e w4 ⟨rfl, hb4⟩
    have t4 : w4.heap[w3.heap.size]? = some (.cells #[.string (bs x), .string (bs y), .string (bs z)] 23 (0, 0)) := (hb4.block _ (by simp)).trans (heap_alloc_new w3 _)
    have g4 := (hb4.block w.heap.size (by simp; omega)).trans ((Below.heap_alloc w3 _ _ l3).trans g3)
    have B4 := (B3.alloc B3.size _).trans (hb4.mono (by have := B3.size; simp; omega))
    have l4 : w3.heap.size < w4.heap.size := by have := hb4.size; simp at this; omega
    clear hb4 g3 B3
    have a0 := cell_of_blk (j := 0) (v := .string ⟨#[]⟩) g4 rfl
    have a1 := cell_of_blk (j := 1) (v := .string ⟨#[]⟩) g4 rfl
    have a2 := cell_of_blk (j := 2) (v := .string ⟨#[]⟩) g4 rfl
    have f0 := free_of_blk (j := 0) g4
    have f1 := free_of_blk (j := 1) g4
    have f2 := free_of_blk (j := 2) g4
    have b0 := cell_of_blk (j := 0) (v := .string (bs x)) t4 rfl
    have b1 := cell_of_blk (j := 1) (v := .string (bs y)) t4 rfl
    have b2 := cell_of_blk (j := 2) (v := .string (bs z)) t4 rfl
    have h0 := free_of_blk (j := 0) t4
    have h1 := free_of_blk (j := 1) t4
    have h2 := free_of_blk (j := 2) t4
    clear g4 t4
    have BB := Lib.hid B4
    clear B4
    go_wp2_with fail
    refine bodyPost_ret (v := .tuple #[.agg #[.string ⟨#[]⟩, .string ⟨#[]⟩, .string ⟨#[]⟩], .bool false]) (by simp [results, Try.results15, go_sem, *]) rfl ⟨by rw [HR.out]; rfl, ((BB.out.setCell (Nat.le_refl _) _).setCell (Nat.le_refl _) _).setCell (Nat.le_refl _) _⟩
  · rw [h4] at C4' hR2
    have HR : Hid (readS s.data.toList = some (x, y, z)) := Lib.hid (by rw [hR2]; rfl)
    have C4 := Lib.hid C4'
    clear C4' hR2 h4
    go_enter Try.func15, Try.ntmps15
    go_wp2_with fail
    refine (C1.out _).mono ?_
    rintro e w2 ⟨rfl, hb2⟩
    have g2 : w2.heap[w.heap.size]? = some (.cells #[.string ⟨#[]⟩, .string ⟨#[]⟩, .string ⟨#[]⟩] 23 (0, 0)) := (hb2.block _ (by simp)).trans (heap_alloc_new w _)
    have s2 := hb2.size
    have l2 : w.heap.size < w2.heap.size := by simp at s2; omega
    have B2 : Below w.heap.size w w2 := ((Below.refl _ _).alloc (Nat.le_refl _) _).trans (hb2.mono (by simp))
    clear hb2 s2
    have G2 := Lib.hid g2
    clear g2
    go_wp2_with fail
    refine (C2.out _).mono ?_
    rintro e w3 ⟨rfl, hb3⟩
    have g3 := (hb3.block _ l2).trans G2.out
    have l3 : w.heap.size < w3.heap.size := Nat.lt_of_lt_of_le l2 hb3.size
    have B3 := B2.trans (hb3.mono B2.size)
    clear hb3 B2 G2 l2
    go_wp2_with fail
    refine (C4.out _).mono ?_
    rintro e w4 ⟨rfl, hb4⟩
    have t4 : w4.heap[w3.heap.size]? = some (.cells #[.string (bs x), .string (bs y), .string (bs z)] 23 (0, 0)) := (hb4.block _ (by simp)).trans (heap_alloc_new w3 _)
    have g4 := (hb4.block w.heap.size (by simp; omega)).trans ((Below.heap_alloc w3 _ _ l3).trans g3)
    have B4 := (B3.alloc B3.size _).trans (hb4.mono (by have := B3.size; simp; omega))
    have l4 : w3.heap.size < w4.heap.size := by have := hb4.size; simp at this; omega
    clear hb4 g3 B3
    have a0 := cell_of_blk (j := 0) (v := .string ⟨#[]⟩) g4 rfl
    have a1 := cell_of_blk (j := 1) (v := .string ⟨#[]⟩) g4 rfl
    have a2 := cell_of_blk (j := 2) (v := .string ⟨#[]⟩) g4 rfl
    have f0 := free_of_blk (j := 0) g4
    have f1 := free_of_blk (j := 1) g4
    have f2 := free_of_blk (j := 2) g4
    have b0 := cell_of_blk (j := 0) (v := .string (bs x)) t4 rfl
    have b1 := cell_of_blk (j := 1) (v := .string (bs y)) t4 rfl
    have b2 := cell_of_blk (j := 2) (v := .string (bs z)) t4 rfl
    have h0 := free_of_blk (j := 0) t4
    have h1 := free_of_blk (j := 1) t4
    have h2 := free_of_blk (j := 2) t4
    clear g4 t4
    have BB := Lib.hid B4
    clear B4
    go_wp2_with fail
    refine bodyPost_ret (v := .tuple #[.agg #[.string (bs x), .string (bs y), .string (bs z)], .bool true]) (by simp [results, Try.results15, go_sem, *]) rfl ⟨by rw [HR.out]; rfl, ((BB.out.setCell (Nat.le_refl _) _).setCell (Nat.le_refl _) _).setCell (Nat.le_refl _) _⟩
end Go.Proofs.Ytapcbhpkbdlinaa
