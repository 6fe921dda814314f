/- The contracts of the functions that read a triple. -/
import Derived.Test.YtapcbhpkbdlinaaReadM
import Derived.Outline
namespace Go.Proofs.Ytapcbhpkbdlinaa
open Go.RowKit
set_option maxRecDepth 100000 in
set_option maxHeartbeats 800000 in
theorem specCut (s : ByteArray) (c : UInt8) (hs : s.size ≤ 2097152) (w : World) :
    Calls Try.prog 71 #[.string s, .int .u8 c.toNat] w fun e w' => e = .returned (.tuple #[.string (bs (cutL s.data.toList c).1), .string (bs (cutL s.data.toList c).2.1), .bool (cutL s.data.toList c).2.2]) ∧ Below w.heap.size w w' := by
  go_enter Try.func71, Try.ntmps71
  go_wp2_with fail
  go_loop [7] (fun i => ∃ k : Nat, k ≤ s.size ∧ i = .int .i64 k ∧ Hid (cutL s.data.toList c = (s.data.toList.take k ++ (cutL (s.data.toList.drop k) c).1, (cutL (s.data.toList.drop k) c).2))) (fun i => s.size - (intOf i).toNat)
  case atStart => exact ⟨0, Nat.zero_le _, rfl, Lib.hid (by simp)⟩
  case round =>
    obtain ⟨k, hk, rfl, hb⟩ := hrel
    by_cases hlt : k < s.size
    · have HD := Lib.hid (drop_cons s k hlt)
      have HT := Lib.hid (take_snoc s k hlt)
      cases hc : ((s[k].toNat : Int) == (c.toNat : Int))
      · have hne : ¬ s[k] = c := fun h => by rw [h] at hc; simp at hc
        have HN : Hid (cutL s.data.toList c = (s.data.toList.take (k + 1) ++ (cutL (s.data.toList.drop (k + 1)) c).1, (cutL (s.data.toList.drop (k + 1)) c).2)) := Lib.hid (by
          rw [hb.out, HD.out, cutL_no _ hne, HT.out]; simp)
        clear hne
        go_wp2_with fail
        go_round
        case rel => exact ⟨k + 1, by omega, by go_num, HN⟩
        case measure => simp [intOf]; omega
      · have he : s[k] = c := (u8_int _ _).1 hc
        have HN : Hid (cutL s.data.toList c = (s.data.toList.take k, s.data.toList.drop (k + 1), true)) := Lib.hid (by
          rw [hb.out, HD.out, he, cutL_yes]; simp)
        have H0 : Hid (s.extract 0 k = bs (s.data.toList.take k)) := Lib.hid (bs_eq (by rw [ext_toList, List.drop_zero]))
        have H1 : Hid (s.extract (k + 1) s.size = bs (s.data.toList.drop (k + 1))) := Lib.hid (bs_eq (by rw [ext_toList, take_all _ _ (Nat.le_refl _)]))
        have s1 := fun wx => run_slice_string_h (P := Try.prog) wx 9 s Try.underlying9 .i64 (k : Int) (by omega) (by omega)
        have s2 := fun wx => run_slice_string_l (P := Try.prog) wx 9 s Try.underlying9 .i64 ((k : Int) + 1) (by omega) (by omega)
        have hw : IntKind.i64.wrap ((k : Int) + 1) = (k : Int) + 1 := IntWalk.i64_in _ (by omega)
        have e1 : ((k : Int) + 1).toNat = k + 1 := by omega
        simp only [Int.toNat_natCast] at s1
        rw [e1] at s2
        clear e1 he
        go_wp2_with fail
        go_quiet (fail)
        go_wp2_with fail
        go_ret3
        exact ⟨by rw [HN.out, H0.out, H1.out]; rfl, below_drewN (Below.refl _ _) _⟩
    · have HN : Hid (cutL s.data.toList c = (s.data.toList, [], false)) := Lib.hid (by
        rw [hb.out, drop_all _ _ (by omega), take_all _ _ (by omega)]; simp [cutL])
      go_wp2_with fail
      go_ret3
      exact ⟨by rw [HN.out]; simp only [bs_of]; rfl, Below.refl _ _⟩
theorem cell_of_blk {w : World} {g j : Nat} {cs : Array Value} {T : TypeId} {fr : Nat × Nat} (h : w.heap[g]? = some (.cells cs T fr)) {v : Value} (hj : cs[j]? = some v) : w.cell? ⟨g, j, none⟩ = some v := by
  simp [World.cell?, h, hj]
theorem free_of_blk {w : World} {g j : Nat} {cs : Array Value} {T : TypeId} (h : w.heap[g]? = some (.cells cs T (0, 0))) : w.frozen? ⟨g, j, none⟩ = false := by
  simp [World.frozen?, h]
/-- What is read of a triple, as the value that the program returns. -/
def readV (r : Option (List UInt8 × List UInt8 × List UInt8)) : Value := .tuple #[.agg #[.string (bs (r.getD ([], [], [])).1), .string (bs (r.getD ([], [], [])).2.1), .string (bs (r.getD ([], [], [])).2.2)], .bool r.isSome]
set_option maxRecDepth 100000 in
set_option maxHeartbeats 800000 in
theorem implRead (s : ByteArray) (hs : s.size ≤ 2097152) (w : World) :
    Calls Try.prog 16 #[.string s] w fun e w' => e = .returned (readV (readT s.data.toList)) ∧ Below w.heap.size w w' := by
  have C1' := fun w => Try.strings_CutSuffix s (bs [32, 46]) w (by omega)
  rw [bs_toList] at C1'
  have hR : readT s.data.toList = if Lib.hasSuffix s.data.toList [32, 46] = true then _ else _ := rfl
  have hbl : (Lib.trimSuffix s.data.toList [32, 46]).length ≤ 2097152 := by unfold Lib.trimSuffix; split <;> simp <;> omega
  generalize Lib.trimSuffix s.data.toList [32, 46] = b at *
  have hc1 := cutL_len b 32
  have C2' := strCut (bs b) 32 (by rw [bs_size]; omega)
  rw [bs_toList] at C2'
  generalize (cutL b 32).1 = x at *
  generalize (cutL b 32).2.1 = r at *
  have hc2 := cutL_len r 32
  have C3' := strCut (bs r) 32 (by rw [bs_size]; omega)
  rw [bs_toList] at C3'
  generalize (cutL r 32).1 = y at *
  generalize (cutL r 32).2.1 = z at *
  generalize (cutL b 32).2.2 = f1 at *
  generalize (cutL r 32).2.2 = f2 at *
  have C4' := implTripleOk (bs x) (bs y) (bs z) (by rw [bs_size]; omega) (by rw [bs_size]; omega) (by rw [bs_size]; omega)
  simp only [bs_toList] at C4'
  clear hc1 hc2 hbl
  cases h1 : Lib.hasSuffix s.data.toList [32, 46]
  · rw [h1] at C1' hR
    have HR : Hid (readT s.data.toList = none) := Lib.hid (by rw [hR]; rfl)
    have C1 := Lib.hid C1'
    have C2 := Lib.hid C2'
    have C3 := Lib.hid C3'
    clear C1' C2' C3' C4' hR h1
    go_enter Try.func16, Try.ntmps16
    go_wp2_with fail
    refine (C1.out _).mono ?_
    rintro e w1 ⟨rfl, rfl⟩
    go_wp2_with fail
    refine (C2.out _).mono ?_
    rintro e w2 ⟨rfl, hb2⟩
    have g2 : w2.heap[w.heap.size]? = some (.cells #[.string ⟨#[]⟩, .string ⟨#[]⟩, .string ⟨#[]⟩] 23 (0, 0)) := (hb2.block _ (by simp)).trans (heap_alloc_new w _)
    have s2 := hb2.size
    have l2 : w.heap.size < w2.heap.size := by simp at s2; omega
    have B2 : Below w.heap.size w w2 := ((Below.refl _ _).alloc (Nat.le_refl _) _).trans (hb2.mono (by simp))
    clear hb2 s2
    have G2 := Lib.hid g2
    clear g2
    go_wp2_with fail
    refine (C3.out _).mono ?_
    rintro e w3 ⟨rfl, hb3⟩
    have g3 := (hb3.block _ l2).trans G2.out
    have l3 : w.heap.size < w3.heap.size := Nat.lt_of_lt_of_le l2 hb3.size
    have B3 := B2.trans (hb3.mono B2.size)
    clear hb3 B2 G2 l2
    have a0 := cell_of_blk (j := 0) (v := .string ⟨#[]⟩) g3 rfl
    have a1 := cell_of_blk (j := 1) (v := .string ⟨#[]⟩) g3 rfl
    have a2 := cell_of_blk (j := 2) (v := .string ⟨#[]⟩) g3 rfl
    have f0 := free_of_blk (j := 0) g3
    have f1 := free_of_blk (j := 1) g3
    have f2 := free_of_blk (j := 2) g3
    clear g3
    have BB := Lib.hid B3
    clear B3
    go_wp2_with fail
    refine bodyPost_ret (v := .tuple #[.agg #[.string ⟨#[]⟩, .string ⟨#[]⟩, .string ⟨#[]⟩], .bool false]) (by simp [results, Try.results16, go_sem, *]) rfl ⟨by rw [HR.out]; rfl, (((BB.out.setCell (Nat.le_refl _) _).setCell (Nat.le_refl _) _).setCell (Nat.le_refl _) _).alloc (by simp [World.setCell]; omega) _⟩
  · rw [h1] at C1' hR
    have hR' : readT s.data.toList = if triOk x y z = true then some (x, y, z) else none := by rw [hR]; rfl
    clear hR h1
    have C1 := Lib.hid C1'
    have C2 := Lib.hid C2'
    have C3 := Lib.hid C3'
    clear C1' C2' C3'
    cases h4 : triOk x y z
    · rw [h4] at C4' hR'
      have HR : Hid (readT s.data.toList = none) := Lib.hid (by rw [hR']; rfl)
      have C4 := Lib.hid C4'
      clear C4' hR' h4
      go_enter Try.func16, Try.ntmps16
      go_wp2_with fail
      refine (C1.out _).mono ?_
      rintro e w1 ⟨rfl, rfl⟩
      go_wp2_with fail
      refine (C2.out _).mono ?_
      rintro e w2 ⟨rfl, hb2⟩
      have g2 : w2.heap[w.heap.size]? = some (.cells #[.string ⟨#[]⟩, .string ⟨#[]⟩, .string ⟨#[]⟩] 23 (0, 0)) := (hb2.block _ (by simp)).trans (heap_alloc_new w _)
      have s2 := hb2.size
      have l2 : w.heap.size < w2.heap.size := by simp at s2; omega
      have B2 : Below w.heap.size w w2 := ((Below.refl _ _).alloc (Nat.le_refl _) _).trans (hb2.mono (by simp))
      clear hb2 s2
      have G2 := Lib.hid g2
      clear g2
      go_wp2_with fail
      refine (C3.out _).mono ?_
      rintro e w3 ⟨rfl, hb3⟩
      have g3 := (hb3.block _ l2).trans G2.out
      have l3 : w.heap.size < w3.heap.size := Nat.lt_of_lt_of_le l2 hb3.size
      have B3 := B2.trans (hb3.mono B2.size)
      clear hb3 B2 G2 l2
      go_wp2_with fail
      refine (C4.out _).mono ?_
      rintro e w4 ⟨rfl, hb4⟩
      have t4 : w4.heap[w3.heap.size]? = some (.cells #[.string (bs x), .string (bs y), .string (bs z)] 23 (0, 0)) := (hb4.block _ (by simp)).trans (heap_alloc_new w3 _)
      have g4 := (hb4.block w.heap.size (by simp; omega)).trans ((Below.heap_alloc w3 _ _ l3).trans g3)
      have B4 := (B3.alloc B3.size _).trans (hb4.mono (by have := B3.size; simp; omega))
      have l4 : w3.heap.size < w4.heap.size := by have := hb4.size; simp at this; omega
      clear hb4 g3 B3
      have a0 := cell_of_blk (j := 0) (v := .string ⟨#[]⟩) g4 rfl
      have a1 := cell_of_blk (j := 1) (v := .string ⟨#[]⟩) g4 rfl
      have a2 := cell_of_blk (j := 2) (v := .string ⟨#[]⟩) g4 rfl
      have f0 := free_of_blk (j := 0) g4
      have f1 := free_of_blk (j := 1) g4
      have f2 := free_of_blk (j := 2) g4
      have b0 := cell_of_blk (j := 0) (v := .string (bs x)) t4 rfl
      have b1 := cell_of_blk (j := 1) (v := .string (bs y)) t4 rfl
      have b2 := cell_of_blk (j := 2) (v := .string (bs z)) t4 rfl
      have h0 := free_of_blk (j := 0) t4
      have h1 := free_of_blk (j := 1) t4
      have h2 := free_of_blk (j := 2) t4
      clear g4 t4
      have BB := Lib.hid B4
      clear B4
      go_wp2_with fail
      refine bodyPost_ret (v := .tuple #[.agg #[.string ⟨#[]⟩, .string ⟨#[]⟩, .string ⟨#[]⟩], .bool false]) (by simp [results, Try.results16, go_sem, *]) rfl ⟨by rw [HR.out]; rfl, ((BB.out.setCell (Nat.le_refl _) _).setCell (Nat.le_refl _) _).setCell (Nat.le_refl _) _⟩
    · rw [h4] at C4' hR'
      have HR : Hid (readT s.data.toList = some (x, y, z)) := Lib.hid (by rw [hR']; rfl)
      have C4 := Lib.hid C4'
      clear C4' hR' h4
      go_enter Try.func16, Try.ntmps16
      go_wp2_with fail
      refine (C1.out _).mono ?_
      rintro e w1 ⟨rfl, rfl⟩
      go_wp2_with fail
      refine (C2.out _).mono ?_
      rintro e w2 ⟨rfl, hb2⟩
      have g2 : w2.heap[w.heap.size]? = some (.cells #[.string ⟨#[]⟩, .string ⟨#[]⟩, .string ⟨#[]⟩] 23 (0, 0)) := (hb2.block _ (by simp)).trans (heap_alloc_new w _)
      have s2 := hb2.size
      have l2 : w.heap.size < w2.heap.size := by simp at s2; omega
      have B2 : Below w.heap.size w w2 := ((Below.refl _ _).alloc (Nat.le_refl _) _).trans (hb2.mono (by simp))
      clear hb2 s2
      have G2 := Lib.hid g2
      clear g2
      go_wp2_with fail
      refine (C3.out _).mono ?_
      rintro e w3 ⟨rfl, hb3⟩
      have g3 := (hb3.block _ l2).trans G2.out
      have l3 : w.heap.size < w3.heap.size := Nat.lt_of_lt_of_le l2 hb3.size
      have B3 := B2.trans (hb3.mono B2.size)
      clear hb3 B2 G2 l2
      go_wp2_with fail
      refine (C4.out _).mono ?_
      rintro e w4 ⟨rfl, hb4⟩
      have t4 : w4.heap[w3.heap.size]? = some (.cells #[.string (bs x), .string (bs y), .string (bs z)] 23 (0, 0)) := (hb4.block _ (by simp)).trans (heap_alloc_new w3 _)
      have g4 := (hb4.block w.heap.size (by simp; omega)).trans ((Below.heap_alloc w3 _ _ l3).trans g3)
      have B4 := (B3.alloc B3.size _).trans (hb4.mono (by have := B3.size; simp; omega))
      have l4 : w3.heap.size < w4.heap.size := by have := hb4.size; simp at this; omega
      clear hb4 g3 B3
      have a0 := cell_of_blk (j := 0) (v := .string ⟨#[]⟩) g4 rfl
      have a1 := cell_of_blk (j := 1) (v := .string ⟨#[]⟩) g4 rfl
      have a2 := cell_of_blk (j := 2) (v := .string ⟨#[]⟩) g4 rfl
      have f0 := free_of_blk (j := 0) g4
      have f1 := free_of_blk (j := 1) g4
      have f2 := free_of_blk (j := 2) g4
      have b0 := cell_of_blk (j := 0) (v := .string (bs x)) t4 rfl
      have b1 := cell_of_blk (j := 1) (v := .string (bs y)) t4 rfl
      have b2 := cell_of_blk (j := 2) (v := .string (bs z)) t4 rfl
      have h0 := free_of_blk (j := 0) t4
      have h1 := free_of_blk (j := 1) t4
      have h2 := free_of_blk (j := 2) t4
      clear g4 t4
      have BB := Lib.hid B4
      clear B4
      go_wp2_with fail
      refine bodyPost_ret (v := .tuple #[.agg #[.string (bs x), .string (bs y), .string (bs z)], .bool true]) (by simp [results, Try.results16, go_sem, *]) rfl ⟨by rw [HR.out]; rfl, ((BB.out.setCell (Nat.le_refl _) _).setCell (Nat.le_refl _) _).setCell (Nat.le_refl _) _⟩
end Go.Proofs.Ytapcbhpkbdlinaa
