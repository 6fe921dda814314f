/- The text of a row: the plain function; what the program's own rowText answers.; The specification's own text of a row.; The contract of RowOk of the program. -/
import Derived.Test.YtiajdnhmjdfeeaaGreatK16
import Derived.Test.YtiajdnhmjdfeeaaGreatK10
import Derived.Test.YtiajdnhmjdfeeaaGreatK25
import Derived.StillTailTactics
import Derived.Deep.QuietTactic
import Derived.BigQuiet
import Derived.Deep.RegionHeld3
import Derived.Deep.RegionWith
namespace Go.Proofs.YtiajdnhmjdfeeaaGreat
open Go.RowKit Go.WideShapes
def wordZ (x : ByteArray) : List UInt8 := x.data.toList ++ [0]
def rowTextL (ts : List Pre2) : List UInt8 := ts.flatMap fun t => wordZ t.1 ++ wordZ t.2
theorem rowTextL_snoc (ts : List Pre2) (t : Pre2) : rowTextL (ts ++ [t]) = rowTextL ts ++ (wordZ t.1 ++ wordZ t.2) := by unfold rowTextL; rw [List.flatMap_append]; simp
theorem rowTextL_upto (ts : List Pre2) (k : Nat) : (rowTextL (ts.take k)).length ≤ (rowTextL ts).length := by
  have e : rowTextL ts = rowTextL (ts.take k) ++ rowTextL (ts.drop k) := by
    unfold rowTextL
    rw [← List.flatMap_append, List.take_append_drop]
  rw [e, List.length_append]
  omega
theorem wordZ_len (x : ByteArray) : (wordZ x).length = x.size + 1 := by
  unfold wordZ
  rw [List.length_append, size_len]
  rfl
/-- No word has a byte 0 within: a text tells its words. -/
theorem wordZ_head : ∀ (a b r s : List UInt8), (0 : UInt8) ∉ a → (0 : UInt8) ∉ b → (a ++ [0]) ++ r = (b ++ [0]) ++ s → a = b ∧ r = s
  | [], [], r, s, _, _, h => by simpa using h
  | [], y :: b, r, s, _, hb, h => by
    simp only [List.nil_append, List.cons_append, List.cons.injEq] at h
    exact absurd (by rw [h.1]; exact List.mem_cons_self ..) hb
  | x :: a, [], r, s, ha, _, h => by
    simp only [List.nil_append, List.cons_append, List.cons.injEq] at h
    exact absurd (by rw [← h.1]; exact List.mem_cons_self ..) ha
  | x :: a, y :: b, r, s, ha, hb, h => by
    simp only [List.cons_append, List.cons.injEq] at h
    obtain ⟨e1, e2⟩ := wordZ_head a b r s (fun q => ha (List.mem_cons_of_mem _ q)) (fun q => hb (List.mem_cons_of_mem _ q)) (by simpa using h.2)
    exact ⟨by rw [h.1, e1], e2⟩
def NoZ (t : Pre2) : Prop := (0 : UInt8) ∉ t.1.data.toList ∧ (0 : UInt8) ∉ t.2.data.toList
theorem bytes_eq {x y : ByteArray} (h : x.data.toList = y.data.toList) : x = y := by
  obtain ⟨a⟩ := x
  obtain ⟨b⟩ := y
  simp only [ByteArray.mk.injEq]
  exact Array.toList_inj.1 h
theorem rowTextL_inj : ∀ (r s : List Pre2), (∀ t ∈ r, NoZ t) → (∀ t ∈ s, NoZ t) → rowTextL r = rowTextL s → r = s
  | [], [], _, _, _ => rfl
  | [], t :: s, _, _, h => by
    have := congrArg List.length h
    simp [rowTextL, wordZ] at this
  | t :: r, [], _, _, h => by
    have := congrArg List.length h
    simp [rowTextL, wordZ] at this
  | t :: r, u :: s, hr, hs, h => by
    have e : ∀ (z : Pre2) (l : List Pre2), rowTextL (z :: l) = (z.1.data.toList ++ [0]) ++ ((z.2.data.toList ++ [0]) ++ rowTextL l) := by
      intro z l
      simp [rowTextL, wordZ]
    rw [e, e] at h
    obtain ⟨a1, a2⟩ := hr t (List.mem_cons_self ..)
    obtain ⟨b1, b2⟩ := hs u (List.mem_cons_self ..)
    obtain ⟨h1, h⟩ := wordZ_head _ _ _ _ a1 b1 h
    obtain ⟨h2, h⟩ := wordZ_head _ _ _ _ a2 b2 h
    have h3 := rowTextL_inj r s (fun z q => hr z (List.mem_cons_of_mem _ q)) (fun z q => hs z (List.mem_cons_of_mem _ q)) h
    rw [h3, Prod.ext (bytes_eq h1) (bytes_eq h2)]
set_option maxRecDepth 100000 in
set_option maxHeartbeats 1600000 in
theorem implRowText (a : Option Addr) (len cap : Nat) (ts : List Pre2) (w : World) (h : IsPres w a len cap ts) (hL : (rowTextL ts).length ≤ 140737488355328) :
    Calls Tryz.prog 119 #[.slice a len cap] w fun e w' => e = .returned (.string (bs (rowTextL ts))) ∧ Below w.heap.size w w' := by
  have hlen : len ≤ 9223372036854775807 := h.maxl
  obtain ⟨q, hq⟩ : ∃ q, rowTextL ts = q := ⟨_, rfl⟩
  have HU := Lib.hid (rowTextL_upto ts)
  rw [hq] at hL HU ⊢
  have HQ : Hid (rowTextL ts = q) := Lib.hid hq
  have HI := Lib.hid h
  have HT := Lib.hid h.len
  clear h hq
  have N0 := bldNew w
  have B0 : Below w.heap.size w _ := (Below.refl _ w).alloc (Nat.le_refl _) (.cells #[.pointer none, .slice none 0 0] 97)
  go_enter Tryz.func119, Tryz.ntmps119
  go_wp2_with fail
  go_loopw [10] (fun i wr => ∃ k : Nat, k ≤ len ∧ i = .int .i64 k ∧ Hid (Bld w.heap.size w.heap.size (rowTextL (ts.take k)) wr) ∧ Below w.heap.size w wr) (fun i _ => len - (intOf i).toNat)
  case atStart => exact ⟨0, Nat.zero_le _, rfl, Lib.hid N0, B0⟩
  case round =>
    obtain ⟨k, hk, rfl, hbd, hnx⟩ := hrel
    have hbl := hbd.out.lt
    by_cases hlt : k < len
    · obtain ⟨b, off, rfl, hb, hl, hm, hts, hc⟩ := HI.out.cells (by omega)
      have ht : ts[k]? = some ts[k] := List.getElem?_eq_getElem (by omega)
      have HK : Hid (ts.take (k + 1) = ts.take k ++ [ts[k]]) := Lib.hid (List.take_succ_eq_append_getElem (by omega))
      obtain ⟨c0, c1, m0, m1⟩ := hc k _ ht
      clear m0 m1
      rw [← hnx.cell (p := ⟨b, _, none⟩) hb] at c0 c1
      generalize ts[k] = t at c0 c1 HK
      obtain ⟨u, v⟩ := t
      have HN : Hid (rowTextL (ts.take (k + 1)) = rowTextL (ts.take k) ++ (wordZ u ++ wordZ v)) := Lib.hid (by rw [HK.out, rowTextL_snoc])
      have hln : (rowTextL (ts.take k)).length + (u.size + 1 + (v.size + 1)) ≤ 140737488355328 := by
        have := HU.out (k + 1)
        rw [HN.out, List.length_append, List.length_append, wordZ_len, wordZ_len] at this
        omega
      obtain ⟨l, hll⟩ : ∃ l, rowTextL (ts.take k) = l := ⟨_, rfl⟩
      rw [hll] at hbd HN hln
      have T0 := Box2.new wr (.string u) (.string v) 55
      have P0 := bldKeep hbd.out (World.grownBy_alloc wr (.cells #[.string u, .string v] 55) none)
      have B1 := hnx.alloc hnx.size (.cells #[.string u, .string v] 55)
      obtain ⟨e0, e1⟩ := T0.cells
      clear HK ht hts hc hm hll hbd
      dsimp only at c0 c1
      go_wp2_with fail
      clear e0 e1 T0 hnx c0 c1
      have i0 : ∀ w, (Instr.index 187 (.agg #[.string u, .string v]) (.int .i64 0)).run Tryz.prog w = .ok (.string u) w := fun _ => by kernel_rfl
      have i1 : ∀ w, (Instr.index 187 (.agg #[.string u, .string v]) (.int .i64 1)).run Tryz.prog w = .ok (.string v) w := fun _ => by kernel_rfl
      go_loopw [19] (fun i wz => ∃ j : Nat, j ≤ 2 ∧ i = .int .i64 j ∧ Hid (Bld w.heap.size w.heap.size (l ++ ([wordZ u, wordZ v].take j).flatten) wz) ∧ Below w.heap.size w wz) (fun i _ => 2 - (intOf i).toNat)
      case atStart => exact ⟨0, Nat.zero_le _, rfl, Lib.hid (by simpa using P0), B1⟩
      case round =>
        obtain ⟨j, hj, rfl, hbz, hnz⟩ := hrel
        have P1 := hbz.out
        have z1 := P1.lt
        clear hbz
        have j0 : ((0 : Nat) : Int) = 0 := rfl
        have j1 : ((1 : Nat) : Int) = 1 := rfl
        rcases (by omega : j = 0 ∨ j = 1 ∨ j = 2) with rfl | rfl | rfl
        · have P1' : Bld w.heap.size w.heap.size l wr := by simpa using P1
          clear P1
          go_wp2_with fail
          refine (bldText w.heap.size w.heap.size l u _ P1' (by omega) (by omega)).mono ?_
          rintro e w3 ⟨⟨nn, rfl⟩, P2, hb3, _⟩
          have B3 := hnz.trans (hb3.mono (Nat.le_refl _))
          clear P1' hnz hb3
          have z3 := P2.lt
          go_wp2_with fail
          refine (bldByte w.heap.size w.heap.size (l ++ u.data.toList) 0 _ P2 (by rw [List.length_append, size_len]; omega) (by omega)).mono ?_
          rintro e w4 ⟨rfl, P3, hb4⟩
          have B4 := B3.trans (hb4.mono (Nat.le_refl _))
          clear P2 B3 hb4 z3
          go_wp2_with fail
          go_roundw
          case rel => exact ⟨1, by omega, by go_num, Lib.hid (by rw [List.append_assoc] at P3; simpa [wordZ] using P3), B4⟩
          case measure => simp [intOf]
        · have P1' : Bld w.heap.size w.heap.size (l ++ wordZ u) wr := by simpa using P1
          clear P1
          go_wp2_with fail
          refine (bldText w.heap.size w.heap.size (l ++ wordZ u) v _ P1' (by rw [List.length_append, wordZ_len]; omega) (by omega)).mono ?_
          rintro e w3 ⟨⟨nn, rfl⟩, P2, hb3, _⟩
          have B3 := hnz.trans (hb3.mono (Nat.le_refl _))
          clear P1' hnz hb3
          have z3 := P2.lt
          go_wp2_with fail
          refine (bldByte w.heap.size w.heap.size (l ++ wordZ u ++ v.data.toList) 0 _ P2 (by rw [List.length_append, List.length_append, wordZ_len, size_len]; omega) (by omega)).mono ?_
          rintro e w4 ⟨rfl, P3, hb4⟩
          have B4 := B3.trans (hb4.mono (Nat.le_refl _))
          clear P2 B3 hb4 z3
          go_wp2_with fail
          go_roundw
          case rel => exact ⟨2, by omega, by go_num, Lib.hid (by rw [List.append_assoc, List.append_assoc] at P3; simpa [wordZ] using P3), B4⟩
          case measure => simp [intOf]
        · have P2 : Bld w.heap.size w.heap.size (l ++ (wordZ u ++ wordZ v)) wr := by simpa using P1
          clear P1
          go_wp2_with fail
          go_roundw
          case rel => exact ⟨k + 1, by omega, by go_num, Lib.hid (by rw [HN.out]; exact P2), hnz⟩
          case measure => simp [intOf]; omega
    · have HF : Hid (rowTextL (ts.take k) = q) := Lib.hid (by rw [← HQ.out, List.take_of_length_le (by rw [HT.out]; omega)])
      have P := hbd.out
      rw [HF.out] at P
      go_wp2_with fail
      refine (bldString _ _ q _ P (by omega)).mono ?_
      rintro e w2 ⟨rfl, hb2⟩
      have B2 := hnx.trans (hb2.mono (Nat.le_refl _))
      go_wp2_with fail
      go_ret
      exact ⟨rfl, B2⟩
end Go.Proofs.YtiajdnhmjdfeeaaGreat
namespace Go.Proofs.YtiajdnhmjdfeeaaGreat
open Go.RowKit Go.WideShapes
theorem addFactR {a b c : ByteArray} (h : a.size + b.size ≤ 9223372036854775807) (hc : a ++ b = c) : ∀ wx : World, (Op.stringOp .add a b).run Tryz.prog wx = .ok (.string c) wx := fun wx => by
  rw [run_string_add_sum wx _ _ h, hc]
theorem row_line (y u v : ByteArray) : y ++ u ++ ⟨#[0]⟩ ++ v ++ ⟨#[0]⟩ = bs (y.data.toList ++ (wordZ u ++ wordZ v)) := by
  apply bs_eq
  simp [wordZ]
theorem drewN_below {b : Nat} {w w' : World} (n : Nat) (h : Below b w w') : Below b w (w'.drewN n) := ⟨h.os, h.tape, h.output, h.size, h.block⟩
set_option maxRecDepth 100000 in
set_option maxHeartbeats 1600000 in
theorem specRowText (a : Option Addr) (len cap : Nat) (ts : List Pre2) (w : World) (h : IsPres w a len cap ts) (hL : (rowTextL ts).length ≤ 140737488355328) :
    Calls Tryz.prog 144 #[.slice a len cap] w fun e w' => e = .returned (.string (bs (rowTextL ts))) ∧ Below w.heap.size w w' := by
  have hlen : len ≤ 9223372036854775807 := h.maxl
  have HU := Lib.hid (rowTextL_upto ts)
  have HI := Lib.hid h
  have HT := Lib.hid h.len
  have HLL := Lib.hid hL
  clear h hL
  go_enter Tryz.func144, Tryz.ntmps144
  go_wp2_with fail
  go_loopw [3, 4] (fun v i wr => ∃ k : Nat, k ≤ len ∧ i = .int .i64 k ∧ v = .string (bs (rowTextL (ts.take k))) ∧ Below w.heap.size w wr) (fun _ i _ => len - (intOf i).toNat)
  case atStart => exact ⟨0, Nat.zero_le _, rfl, rfl, Below.refl _ _⟩
  case round =>
    obtain ⟨k, hk, rfl, rfl, hnx⟩ := hrel
    have hk6 : (0 : Int) ≤ (k : Int) := by omega
    by_cases hlt : k < len
    · obtain ⟨b, off, rfl, hb, hl, hm, hts, hc⟩ := HI.out.cells (by omega)
      have ht : ts[k]? = some ts[k] := List.getElem?_eq_getElem (by omega)
      have HK : Hid (ts.take (k + 1) = ts.take k ++ [ts[k]]) := Lib.hid (List.take_succ_eq_append_getElem (by omega))
      obtain ⟨c0, c1, m0, m1⟩ := hc k _ ht
      clear m0 m1
      rw [← hnx.cell (p := ⟨b, _, none⟩) hb] at c0 c1
      generalize ts[k] = t at c0 c1 HK
      obtain ⟨u, v⟩ := t
      have HN : Hid (rowTextL (ts.take (k + 1)) = rowTextL (ts.take k) ++ (wordZ u ++ wordZ v)) := Lib.hid (by rw [HK.out, rowTextL_snoc])
      have hln : (rowTextL (ts.take k)).length + (u.size + 1 + (v.size + 1)) ≤ 140737488355328 := by
        have h1 := HU.out (k + 1)
        have h2 := HLL.out
        rw [HN.out, List.length_append, List.length_append, wordZ_len, wordZ_len] at h1
        omega
      obtain ⟨y, hy⟩ : ∃ y, bs (rowTextL (ts.take k)) = y := ⟨_, rfl⟩
      have hyl : y.data.toList = rowTextL (ts.take k) := by rw [← hy, bs_toList]
      have hys : y.size = (rowTextL (ts.take k)).length := by rw [← hy, bs_size]
      have g3 := row_line y u v
      rw [hyl, ← HN.out] at g3
      obtain ⟨x, hx⟩ : ∃ x, bs (rowTextL (ts.take (k + 1))) = x := ⟨_, rfl⟩
      rw [hx] at g3
      have HX := Lib.hid hx
      clear hx
      rw [hy]
      rw [← hys] at hln
      obtain ⟨k0, g0⟩ : ∃ z, y ++ u = z := ⟨_, rfl⟩
      obtain ⟨k1, g1⟩ : ∃ z, k0 ++ (⟨#[0]⟩ : ByteArray) = z := ⟨_, rfl⟩
      obtain ⟨k2, g2⟩ : ∃ z, k1 ++ v = z := ⟨_, rfl⟩
      rw [g0, g1, g2] at g3
      have y0 : k0.size = y.size + u.size := by rw [← g0, ByteArray.size_append]
      have y1 : k1.size = k0.size + 1 := by rw [← g1, ByteArray.size_append]; rfl
      have y2 : k2.size = k1.size + v.size := by rw [← g2, ByteArray.size_append]
      have a0 := addFactR (by omega) g0
      have a1 := addFactR (by rw [show (⟨#[0]⟩ : ByteArray).size = 1 from rfl]; omega) g1
      have a2 := addFactR (by omega) g2
      have a3 := addFactR (by rw [show (⟨#[0]⟩ : ByteArray).size = 1 from rfl]; omega) g3
      have hk7 : (k : Int) < (len : Int) := by omega
      dsimp only at c0 c1
      clear HK HN ht hts hc hm hl hyl hy hys g0 g1 g2 g3 y0 y1 y2 hln
      go_wp2_with fail
      go_quiet (fail)
      have BD := drewN_below nq hnx
      clear hnx c0 c1 a0 a1 a2 a3
      generalize wr.drewN nq = wd at BD ⊢
      go_wp2_with fail
      go_roundw
      case rel => exact ⟨k + 1, by omega, by go_num, by rw [HX.out], BD⟩
      case measure => simp [intOf]; omega
    · have HF : Hid (rowTextL (ts.take k) = rowTextL ts) := Lib.hid (by rw [List.take_of_length_le (by rw [HT.out]; omega)])
      rw [HF.out]
      go_wp2_with fail
      go_ret
      exact ⟨rfl, hnx⟩
end Go.Proofs.YtiajdnhmjdfeeaaGreat
namespace Go.Proofs.YtiajdnhmjdfeeaaGreat
open Go.RowKit Go.WideShapes
set_option maxRecDepth 100000 in
set_option maxHeartbeats 1600000 in
theorem implRowOk (a : Option Addr) (len cap : Nat) (ts : List Pre2) (w : World) (h : IsPres w a len cap ts) (hsm : SmP ts) :
    Calls Tryz.prog 78 #[.slice a len cap] w fun e w' => e = .returned (.bool (rowOk ts)) ∧ Below w.heap.size w w' := by
  have hts := h.len
  have hlen : len ≤ 9223372036854775807 := by
    rcases h with ⟨_, rfl, _, _⟩ | ⟨_, _, h1, h2, _⟩
    · omega
    · unfold maxLen at h2; omega
  by_cases g4 : (12 : Int) < len
  · have HG : Hid (rowOk ts = false) := Lib.hid (by unfold rowOk; rw [decide_eq_false (by omega)]; rfl)
    clear h hsm hts
    go_enter Tryz.func78, Tryz.ntmps78
    go_wp2_with fail
    go_ret
    exact ⟨by rw [HG.out]; rfl, Below.refl _ _⟩
  have HG : Hid (rowOk ts = gUpto pairT lessP ts ts.length) := Lib.hid (by unfold rowOk; rw [decide_eq_true (by omega)]; rfl)
  have HT := Lib.hid hts
  have H := Lib.hid h
  have HM := Lib.hid hsm
  clear hts h hsm
  go_enter Tryz.func78, Tryz.ntmps78
  go_wp2_with fail
  go_loopw [10] (fun i wr => ∃ k : Nat, k ≤ len ∧ i = .int .i64 k ∧ Hid (gUpto pairT lessP ts k = true) ∧ Below w.heap.size w wr) (fun i _ => len - (intOf i).toNat)
  case atStart => exact ⟨0, Nat.zero_le _, rfl, Lib.hid rfl, Below.refl _ _⟩
  case round =>
    obtain ⟨k, hk, rfl, hok, hnx⟩ := hrel
    by_cases hlt : k < len
    · obtain ⟨b, off, rfl, hb, hl, hm, hts, hc⟩ := H.out.cells (by omega)
      have ht : ts[k]? = some ts[k] := List.getElem?_eq_getElem (by omega)
      have hmm := HM.out ts[k] (List.getElem_mem _)
      obtain ⟨c0, c1, m0, m1⟩ := hc k _ ht
      clear m0 m1
      rw [← hnx.cell (p := ⟨b, _, none⟩) hb] at c0 c1
      obtain ⟨t, htt⟩ : ∃ t, ts[k] = t := ⟨_, rfl⟩
      rw [htt] at c0 c1 ht hmm
      clear htt
      obtain ⟨s1, s2⟩ := hmm
      have A1 := implIsVar t.1 (by omega)
      have A2 := implIsValue t.2 (by omega)
      have l0 : b < wr.heap.size := Nat.lt_of_lt_of_le hb hnx.size
      have T0 := Box2.new wr (.string t.1) (.string t.2) 55
      cases hq1 : isVarK t.1.data.toList
      · have HR : Hid (rowOk ts = false) := Lib.hid (by rw [HG.out]; exact gUpto_no (gAt_not ht (by unfold pairT; rw [hq1]; rfl)) (by omega))
        rw [hq1] at A1
        have C1 := Lib.hid A1
        clear A1 A2 hq1 ht hts hc hm
        go_wp2_with fail
        obtain ⟨e0, e1⟩ := T0.drew.cells
        refine wp_region_any (by kernel_rfl) ?_
        change wpAny _ _ _ _ _ _ _ (World.drew _)
        refine wpAny_take (i := 0) (v := ?_) rfl (by kernel_rfl) (by kernel_rfl) (by kernel_rfl) (fun _ _ _ h => h) (Or.inl ⟨by kernel_rfl, ?_⟩) ?_
        rotate_left
        · intro w; go_simp; try with_reducible rfl
        refine wpAny_ready (rs := [1]) (by kernel_rfl) (by simp) ?_
        refine AllReady.cons rfl (fun K hK => ?_) AllReady.nil
        go_simp
        refine hK _ _ ?_
        clear hK K
        refine wpAny_ready (rs := [2]) (by kernel_rfl) (by simp) ?_
        refine AllReady.cons rfl (fun K hK => ?_) AllReady.nil
        go_simp
        refine (C1.out _).mono ?_
        rintro e wn ⟨rfl, hx⟩
        go_wp2_with fail
        refine wpAny_take (i := 3) (v := ?_) rfl (by kernel_rfl) (by kernel_rfl) (by kernel_rfl) (fun _ _ _ h => h) (Or.inl ⟨by kernel_rfl, ?_⟩) ?_
        rotate_left
        · intro w; go_simp; try with_reducible rfl
        refine wpAny_take (i := 4) (v := ?_) rfl (by kernel_rfl) (by kernel_rfl) (by kernel_rfl) (fun _ _ _ h => h) (Or.inl ⟨by kernel_rfl, ?_⟩) ?_
        rotate_left
        · intro w; go_simp; try with_reducible rfl
        refine wpAny_take (i := 5) (v := undef) rfl (by kernel_rfl) (by kernel_rfl) (by kernel_rfl) (fun _ _ _ h => h) (Or.inr ⟨by kernel_rfl, rfl⟩) ?_
        refine wpAny_take (i := 6) (v := undef) rfl (by kernel_rfl) (by kernel_rfl) (by kernel_rfl) (fun _ _ _ h => h) (Or.inr ⟨by kernel_rfl, rfl⟩) ?_
        refine wpAny_take (i := 7) (v := undef) rfl (by kernel_rfl) (by kernel_rfl) (by kernel_rfl) (fun _ _ _ h => h) (Or.inr ⟨by kernel_rfl, rfl⟩) ?_
        refine wpAny_take (i := 8) (v := undef) rfl (by kernel_rfl) (by kernel_rfl) (by kernel_rfl) (fun _ _ _ h => h) (Or.inr ⟨by kernel_rfl, rfl⟩) ?_
        refine wpAny_take (i := 9) (v := ?_) rfl (by kernel_rfl) (by kernel_rfl) (by kernel_rfl) (fun _ _ _ h => h) (Or.inl ⟨by kernel_rfl, ?_⟩) ?_
        rotate_left
        · intro w; go_simp; try with_reducible rfl
        refine wpAny_take (i := 10) (v := ?_) rfl (by kernel_rfl) (by kernel_rfl) (by kernel_rfl) (fun _ _ _ h => h) (Or.inl ⟨by kernel_rfl, ?_⟩) ?_
        rotate_left
        · intro w; go_simp; try with_reducible rfl
        refine wpAny_take (i := 11) (v := undef) rfl (by kernel_rfl) (by kernel_rfl) (by kernel_rfl) (fun _ _ _ h => h) (Or.inr ⟨by kernel_rfl, rfl⟩) ?_
        refine wpAny_take (i := 12) (v := undef) rfl (by kernel_rfl) (by kernel_rfl) (by kernel_rfl) (fun _ _ _ h => h) (Or.inr ⟨by kernel_rfl, rfl⟩) ?_
        refine wpAny_take (i := 13) (v := undef) rfl (by kernel_rfl) (by kernel_rfl) (by kernel_rfl) (fun _ _ _ h => h) (Or.inr ⟨by kernel_rfl, rfl⟩) ?_
        refine wpAny_take (i := 14) (v := undef) rfl (by kernel_rfl) (by kernel_rfl) (by kernel_rfl) (fun _ _ _ h => h) (Or.inr ⟨by kernel_rfl, rfl⟩) ?_
        refine wpAny_take (i := 15) (v := undef) rfl (by kernel_rfl) (by kernel_rfl) (by kernel_rfl) (fun _ _ _ h => h) (Or.inr ⟨by kernel_rfl, rfl⟩) ?_
        refine wpAny_take (i := 16) (v := undef) rfl (by kernel_rfl) (by kernel_rfl) (by kernel_rfl) (fun _ _ _ h => h) (Or.inr ⟨by kernel_rfl, rfl⟩) ?_
        refine wpAny_take (i := 17) (v := undef) rfl (by kernel_rfl) (by kernel_rfl) (by kernel_rfl) (fun _ _ _ h => h) (Or.inr ⟨by kernel_rfl, rfl⟩) ?_
        refine wpAny_take (i := 18) (v := undef) rfl (by kernel_rfl) (by kernel_rfl) (by kernel_rfl) (fun _ _ _ h => h) (Or.inr ⟨by kernel_rfl, rfl⟩) ?_
        refine wpAny_take (i := 19) (v := undef) rfl (by kernel_rfl) (by kernel_rfl) (by kernel_rfl) (fun _ _ _ h => h) (Or.inr ⟨by kernel_rfl, rfl⟩) ?_
        refine wpAny_take (i := 20) (v := undef) rfl (by kernel_rfl) (by kernel_rfl) (by kernel_rfl) (fun _ _ _ h => h) (Or.inr ⟨by kernel_rfl, rfl⟩) ?_
        refine wpAny_take (i := 21) (v := undef) rfl (by kernel_rfl) (by kernel_rfl) (by kernel_rfl) (fun _ _ _ h => h) (Or.inr ⟨by kernel_rfl, rfl⟩) ?_
        refine wpAny_take (i := 22) (v := undef) rfl (by kernel_rfl) (by kernel_rfl) (by kernel_rfl) (fun _ _ _ h => h) (Or.inr ⟨by kernel_rfl, rfl⟩) ?_
        refine wpAny_take (i := 23) (v := undef) rfl (by kernel_rfl) (by kernel_rfl) (by kernel_rfl) (fun _ _ _ h => h) (Or.inr ⟨by kernel_rfl, rfl⟩) ?_
        refine wpAny_take (i := 24) (v := ?_) rfl (by kernel_rfl) (by kernel_rfl) (by kernel_rfl) (fun _ _ _ h => h) (Or.inl ⟨by kernel_rfl, ?_⟩) ?_
        rotate_left
        · intro w; go_simp; try with_reducible rfl
        refine wpAny_done (by kernel_rfl) ?_ _
        try simp only [Act.put, List.setIfInBounds_toArray, List.set_cons_zero, List.set_cons_succ, List.getElem_toArray, List.getElem_cons_zero, List.getElem_cons_succ]
        have B : Below w.heap.size w wn := ((hnx.alloc hnx.size _).drew).trans (hx.mono (by have := hnx.size; simp; omega))
        clear hx hnx c0 c1 T0 e0 e1
        go_wp2_with fail
        go_ret
        exact ⟨by rw [HR.out]; rfl, B⟩
      rw [hq1] at A1
      have C1 := Lib.hid A1
      clear A1
      cases hq2 : isValK t.2.data.toList
      · have HR : Hid (rowOk ts = false) := Lib.hid (by rw [HG.out]; exact gUpto_no (gAt_not ht (by unfold pairT; rw [hq2, Bool.and_false])) (by omega))
        rw [hq2] at A2
        have C2 := Lib.hid A2
        clear A2 hq1 hq2 ht hts hc hm
        go_wp2_with fail
        obtain ⟨e0, e1⟩ := T0.drew.cells
        refine wp_region_any (by kernel_rfl) ?_
        change wpAny _ _ _ _ _ _ _ (World.drew _)
        refine wpAny_take (i := 0) (v := ?_) rfl (by kernel_rfl) (by kernel_rfl) (by kernel_rfl) (fun _ _ _ h => h) (Or.inl ⟨by kernel_rfl, ?_⟩) ?_
        rotate_left
        · intro w; go_simp; try with_reducible rfl
        refine wpAny_ready (rs := [1]) (by kernel_rfl) (by simp) ?_
        refine AllReady.cons rfl (fun K hK => ?_) AllReady.nil
        go_simp
        refine hK _ _ ?_
        clear hK K
        refine wpAny_ready (rs := [2]) (by kernel_rfl) (by simp) ?_
        refine AllReady.cons rfl (fun K hK => ?_) AllReady.nil
        go_simp
        refine (C1.out _).mono ?_
        rintro e wn ⟨rfl, hx⟩
        go_wp2_with fail
        have d1 := e1
        rw [← hx.cell (by simp)] at d1
        have l1 := hx.size
        refine wpAny_take (i := 3) (v := ?_) rfl (by kernel_rfl) (by kernel_rfl) (by kernel_rfl) (fun _ _ _ h => h) (Or.inl ⟨by kernel_rfl, ?_⟩) ?_
        rotate_left
        · intro w; go_simp; try with_reducible rfl
        refine wpAny_take (i := 4) (v := ?_) rfl (by kernel_rfl) (by kernel_rfl) (by kernel_rfl) (fun _ _ _ h => h) (Or.inl ⟨by kernel_rfl, ?_⟩) ?_
        rotate_left
        · intro w; go_simp; try with_reducible rfl
        refine wpAny_take (i := 5) (v := ?_) rfl (by kernel_rfl) (by kernel_rfl) (by kernel_rfl) (fun _ _ _ h => h) (Or.inl ⟨by kernel_rfl, ?_⟩) ?_
        rotate_left
        · intro w; go_simp; try with_reducible rfl
        refine wpAny_ready (rs := [6]) (by kernel_rfl) (by simp) ?_
        refine AllReady.cons rfl (fun K hK => ?_) AllReady.nil
        go_simp
        refine hK _ _ ?_
        clear hK K
        refine wpAny_ready (rs := [7]) (by kernel_rfl) (by simp) ?_
        refine AllReady.cons rfl (fun K hK => ?_) AllReady.nil
        go_simp
        refine (C2.out _).mono ?_
        rintro e wm ⟨rfl, hy⟩
        go_wp2_with fail
        refine wpAny_take (i := 8) (v := ?_) rfl (by kernel_rfl) (by kernel_rfl) (by kernel_rfl) (fun _ _ _ h => h) (Or.inl ⟨by kernel_rfl, ?_⟩) ?_
        rotate_left
        · intro w; go_simp; try with_reducible rfl
        refine wpAny_take (i := 9) (v := ?_) rfl (by kernel_rfl) (by kernel_rfl) (by kernel_rfl) (fun _ _ _ h => h) (Or.inl ⟨by kernel_rfl, ?_⟩) ?_
        rotate_left
        · intro w; go_simp; try with_reducible rfl
        refine wpAny_take (i := 10) (v := ?_) rfl (by kernel_rfl) (by kernel_rfl) (by kernel_rfl) (fun _ _ _ h => h) (Or.inl ⟨by kernel_rfl, ?_⟩) ?_
        rotate_left
        · intro w; go_simp; try with_reducible rfl
        refine wpAny_take (i := 11) (v := undef) rfl (by kernel_rfl) (by kernel_rfl) (by kernel_rfl) (fun _ _ _ h => h) (Or.inr ⟨by kernel_rfl, rfl⟩) ?_
        refine wpAny_take (i := 12) (v := undef) rfl (by kernel_rfl) (by kernel_rfl) (by kernel_rfl) (fun _ _ _ h => h) (Or.inr ⟨by kernel_rfl, rfl⟩) ?_
        refine wpAny_take (i := 13) (v := undef) rfl (by kernel_rfl) (by kernel_rfl) (by kernel_rfl) (fun _ _ _ h => h) (Or.inr ⟨by kernel_rfl, rfl⟩) ?_
        refine wpAny_take (i := 14) (v := undef) rfl (by kernel_rfl) (by kernel_rfl) (by kernel_rfl) (fun _ _ _ h => h) (Or.inr ⟨by kernel_rfl, rfl⟩) ?_
        refine wpAny_take (i := 15) (v := undef) rfl (by kernel_rfl) (by kernel_rfl) (by kernel_rfl) (fun _ _ _ h => h) (Or.inr ⟨by kernel_rfl, rfl⟩) ?_
        refine wpAny_take (i := 16) (v := undef) rfl (by kernel_rfl) (by kernel_rfl) (by kernel_rfl) (fun _ _ _ h => h) (Or.inr ⟨by kernel_rfl, rfl⟩) ?_
        refine wpAny_take (i := 17) (v := undef) rfl (by kernel_rfl) (by kernel_rfl) (by kernel_rfl) (fun _ _ _ h => h) (Or.inr ⟨by kernel_rfl, rfl⟩) ?_
        refine wpAny_take (i := 18) (v := undef) rfl (by kernel_rfl) (by kernel_rfl) (by kernel_rfl) (fun _ _ _ h => h) (Or.inr ⟨by kernel_rfl, rfl⟩) ?_
        refine wpAny_take (i := 19) (v := undef) rfl (by kernel_rfl) (by kernel_rfl) (by kernel_rfl) (fun _ _ _ h => h) (Or.inr ⟨by kernel_rfl, rfl⟩) ?_
        refine wpAny_take (i := 20) (v := undef) rfl (by kernel_rfl) (by kernel_rfl) (by kernel_rfl) (fun _ _ _ h => h) (Or.inr ⟨by kernel_rfl, rfl⟩) ?_
        refine wpAny_take (i := 21) (v := undef) rfl (by kernel_rfl) (by kernel_rfl) (by kernel_rfl) (fun _ _ _ h => h) (Or.inr ⟨by kernel_rfl, rfl⟩) ?_
        refine wpAny_take (i := 22) (v := undef) rfl (by kernel_rfl) (by kernel_rfl) (by kernel_rfl) (fun _ _ _ h => h) (Or.inr ⟨by kernel_rfl, rfl⟩) ?_
        refine wpAny_take (i := 23) (v := undef) rfl (by kernel_rfl) (by kernel_rfl) (by kernel_rfl) (fun _ _ _ h => h) (Or.inr ⟨by kernel_rfl, rfl⟩) ?_
        refine wpAny_take (i := 24) (v := ?_) rfl (by kernel_rfl) (by kernel_rfl) (by kernel_rfl) (fun _ _ _ h => h) (Or.inl ⟨by kernel_rfl, ?_⟩) ?_
        rotate_left
        · intro w; go_simp; try with_reducible rfl
        refine wpAny_done (by kernel_rfl) ?_ _
        try simp only [Act.put, List.setIfInBounds_toArray, List.set_cons_zero, List.set_cons_succ, List.getElem_toArray, List.getElem_cons_zero, List.getElem_cons_succ]
        have B0 : Below w.heap.size w wn := ((hnx.alloc hnx.size _).drew).trans (hx.mono (by have := hnx.size; simp; omega))
        have B : Below w.heap.size w wm := B0.trans (hy.mono B0.size)
        clear hx hy B0 hnx c0 c1 d1 T0 e0 e1
        go_wp2_with fail
        go_ret
        exact ⟨by rw [HR.out]; rfl, B⟩
      have hq : pairT t = true := by unfold pairT; rw [hq1, hq2]; rfl
      rw [hq2] at A2
      have C2 := Lib.hid A2
      clear A2 hq1 hq2
      rcases Nat.eq_zero_or_pos k with rfl | h0
      · have HN : Hid (gUpto pairT lessP ts (0 + 1) = true) := Lib.hid (by rw [gUpto_succ, hok.out, gAt_zero ht, hq]; rfl)
        clear hq ht hts hc hm
        simp only [Nat.zero_mul, Nat.add_zero] at c0 c1
        go_wp2_with fail
        obtain ⟨e0, e1⟩ := T0.drew.cells
        refine wp_region_any (by kernel_rfl) ?_
        change wpAny _ _ _ _ _ _ _ (World.drew _)
        refine wpAny_take (i := 0) (v := ?_) rfl (by kernel_rfl) (by kernel_rfl) (by kernel_rfl) (fun _ _ _ h => h) (Or.inl ⟨by kernel_rfl, ?_⟩) ?_
        rotate_left
        · intro w; go_simp; try with_reducible rfl
        refine wpAny_ready (rs := [1]) (by kernel_rfl) (by simp) ?_
        refine AllReady.cons rfl (fun K hK => ?_) AllReady.nil
        go_simp
        refine hK _ _ ?_
        clear hK K
        refine wpAny_ready (rs := [2]) (by kernel_rfl) (by simp) ?_
        refine AllReady.cons rfl (fun K hK => ?_) AllReady.nil
        go_simp
        refine (C1.out _).mono ?_
        rintro e wn ⟨rfl, hx⟩
        go_wp2_with fail
        have d1 := e1
        rw [← hx.cell (by simp)] at d1
        have l1 := hx.size
        refine wpAny_take (i := 3) (v := ?_) rfl (by kernel_rfl) (by kernel_rfl) (by kernel_rfl) (fun _ _ _ h => h) (Or.inl ⟨by kernel_rfl, ?_⟩) ?_
        rotate_left
        · intro w; go_simp; try with_reducible rfl
        refine wpAny_take (i := 4) (v := ?_) rfl (by kernel_rfl) (by kernel_rfl) (by kernel_rfl) (fun _ _ _ h => h) (Or.inl ⟨by kernel_rfl, ?_⟩) ?_
        rotate_left
        · intro w; go_simp; try with_reducible rfl
        refine wpAny_take (i := 5) (v := ?_) rfl (by kernel_rfl) (by kernel_rfl) (by kernel_rfl) (fun _ _ _ h => h) (Or.inl ⟨by kernel_rfl, ?_⟩) ?_
        rotate_left
        · intro w; go_simp; try with_reducible rfl
        refine wpAny_ready (rs := [6]) (by kernel_rfl) (by simp) ?_
        refine AllReady.cons rfl (fun K hK => ?_) AllReady.nil
        go_simp
        refine hK _ _ ?_
        clear hK K
        refine wpAny_ready (rs := [7]) (by kernel_rfl) (by simp) ?_
        refine AllReady.cons rfl (fun K hK => ?_) AllReady.nil
        go_simp
        refine (C2.out _).mono ?_
        rintro e wm ⟨rfl, hy⟩
        go_wp2_with fail
        refine wpAny_take (i := 8) (v := ?_) rfl (by kernel_rfl) (by kernel_rfl) (by kernel_rfl) (fun _ _ _ h => h) (Or.inl ⟨by kernel_rfl, ?_⟩) ?_
        rotate_left
        · intro w; go_simp; try with_reducible rfl
        refine wpAny_take (i := 9) (v := ?_) rfl (by kernel_rfl) (by kernel_rfl) (by kernel_rfl) (fun _ _ _ h => h) (Or.inl ⟨by kernel_rfl, ?_⟩) ?_
        rotate_left
        · intro w; go_simp; try with_reducible rfl
        refine wpAny_take (i := 10) (v := ?_) rfl (by kernel_rfl) (by kernel_rfl) (by kernel_rfl) (fun _ _ _ h => h) (Or.inl ⟨by kernel_rfl, ?_⟩) ?_
        rotate_left
        · intro w; go_simp; try with_reducible rfl
        refine wpAny_take (i := 11) (v := ?_) rfl (by kernel_rfl) (by kernel_rfl) (by kernel_rfl) (fun _ _ _ h => h) (Or.inl ⟨by kernel_rfl, ?_⟩) ?_
        rotate_left
        · intro w; go_simp; try with_reducible rfl
        refine wpAny_take (i := 12) (v := ?_) rfl (by kernel_rfl) (by kernel_rfl) (by kernel_rfl) (fun _ _ _ h => h) (Or.inl ⟨by kernel_rfl, ?_⟩) ?_
        rotate_left
        · intro w; go_simp; try with_reducible rfl
        refine wpAny_take (i := 13) (v := ?_) rfl (by kernel_rfl) (by kernel_rfl) (by kernel_rfl) (fun _ _ _ h => h) (Or.inl ⟨by kernel_rfl, ?_⟩) ?_
        rotate_left
        · intro w; go_simp; try with_reducible rfl
        refine wpAny_take (i := 14) (v := undef) rfl (by kernel_rfl) (by kernel_rfl) (by kernel_rfl) (fun _ _ _ h => h) (Or.inr ⟨by kernel_rfl, rfl⟩) ?_
        refine wpAny_take (i := 15) (v := undef) rfl (by kernel_rfl) (by kernel_rfl) (by kernel_rfl) (fun _ _ _ h => h) (Or.inr ⟨by kernel_rfl, rfl⟩) ?_
        refine wpAny_take (i := 16) (v := undef) rfl (by kernel_rfl) (by kernel_rfl) (by kernel_rfl) (fun _ _ _ h => h) (Or.inr ⟨by kernel_rfl, rfl⟩) ?_
        refine wpAny_take (i := 17) (v := undef) rfl (by kernel_rfl) (by kernel_rfl) (by kernel_rfl) (fun _ _ _ h => h) (Or.inr ⟨by kernel_rfl, rfl⟩) ?_
        refine wpAny_take (i := 18) (v := undef) rfl (by kernel_rfl) (by kernel_rfl) (by kernel_rfl) (fun _ _ _ h => h) (Or.inr ⟨by kernel_rfl, rfl⟩) ?_
        refine wpAny_take (i := 19) (v := undef) rfl (by kernel_rfl) (by kernel_rfl) (by kernel_rfl) (fun _ _ _ h => h) (Or.inr ⟨by kernel_rfl, rfl⟩) ?_
        refine wpAny_take (i := 20) (v := undef) rfl (by kernel_rfl) (by kernel_rfl) (by kernel_rfl) (fun _ _ _ h => h) (Or.inr ⟨by kernel_rfl, rfl⟩) ?_
        refine wpAny_take (i := 21) (v := undef) rfl (by kernel_rfl) (by kernel_rfl) (by kernel_rfl) (fun _ _ _ h => h) (Or.inr ⟨by kernel_rfl, rfl⟩) ?_
        refine wpAny_take (i := 22) (v := undef) rfl (by kernel_rfl) (by kernel_rfl) (by kernel_rfl) (fun _ _ _ h => h) (Or.inr ⟨by kernel_rfl, rfl⟩) ?_
        refine wpAny_take (i := 23) (v := ?_) rfl (by kernel_rfl) (by kernel_rfl) (by kernel_rfl) (fun _ _ _ h => h) (Or.inl ⟨by kernel_rfl, ?_⟩) ?_
        rotate_left
        · intro w; go_simp; try with_reducible rfl
        refine wpAny_take (i := 24) (v := ?_) rfl (by kernel_rfl) (by kernel_rfl) (by kernel_rfl) (fun _ _ _ h => h) (Or.inl ⟨by kernel_rfl, ?_⟩) ?_
        rotate_left
        · intro w; go_simp; try with_reducible rfl
        refine wpAny_done (by kernel_rfl) ?_ _
        try simp only [Act.put, List.setIfInBounds_toArray, List.set_cons_zero, List.set_cons_succ, List.getElem_toArray, List.getElem_cons_zero, List.getElem_cons_succ]
        have B0 : Below w.heap.size w wn := ((hnx.alloc hnx.size _).drew).trans (hx.mono (by have := hnx.size; simp; omega))
        have B : Below w.heap.size w wm := B0.trans (hy.mono B0.size)
        clear hx hy B0 hnx c0 c1 d1 T0 e0 e1
        go_wp2_with fail
        go_roundw
        case rel => exact ⟨0 + 1, by omega, by go_num, HN, B⟩
        case measure => simp [intOf]; omega
      · obtain ⟨j, rfl⟩ : ∃ j, k = j + 1 := ⟨k - 1, by omega⟩
        have hu : ts[j]? = some ts[j] := List.getElem?_eq_getElem (by omega)
        obtain ⟨p0, p1, m0, m1⟩ := hc j _ hu
        clear m0 m1
        rw [← hnx.cell (p := ⟨b, _, none⟩) hb] at p0 p1
        obtain ⟨u, huu⟩ : ∃ u, ts[j] = u := ⟨_, rfl⟩
        rw [huu] at p0 p1 hu
        clear huu
        have HA := gAt_next (ok := pairT) (ah := lessP) h0 ht hu
        rw [hq] at HA
        cases ha : lessP u t
        · have HR : Hid (rowOk ts = false) := Lib.hid (by rw [HG.out]; exact gUpto_no (k := j + 1) (by rw [HA, ha]; rfl) (by omega))
          have hls : Op.bytesLess u.1.toList t.1.toList = false := ha
          clear ha HA hq ht hu hts hc hm
          go_wp2_with fail
          obtain ⟨e0, e1⟩ := T0.cells
          have hj1 : ((j + 1 : Nat) : Int) - 1 = (j : Int) := by omega
          have hj2 : IntKind.i64.wrap (((j + 1 : Nat) : Int) - 1) = (j : Int) := by rw [hj1]; exact IntWalk.i64_in _ (by omega)
          have hjl : j < len := by omega
          have hj6 : (0 : Int) ≤ (j : Int) := by omega
          have hj7 : (j : Int) < (len : Int) := by omega
          have hj8 : IntKind.i64.wrap (j : Int) = (j : Int) := IntWalk.i64_in _ (by omega)
          have hj4 : (j : Int) + 1 - 1 = (j : Int) := by omega
          have hj5 : IntKind.i64.wrap ((j : Int) + 1 - 1) = (j : Int) := by rw [hj4]; exact IntWalk.i64_in _ (by omega)
          have hj3 : decide ((0 : Int) < ((j + 1 : Nat) : Int)) = true := by rw [decide_eq_true_eq]; omega
          go_region_held3 (fun w' => w'.cell? ⟨wr.heap.size, 0, none⟩ = some (.string t.1) ∧ w'.cell? ⟨wr.heap.size, 1, none⟩ = some (.string t.2) ∧ w'.cell? ⟨b, off + j * 2, none⟩ = some (.string u.1))
            (first | go_keep | (go_split_ands; refine ⟨?_, ?_, ?_⟩ <;> (rw [hb4.cell (by first | (simp; done) | exact World.block_lt_of_cell? _ _ (by assumption))]; assumption)) | (go_split_ands; refine ⟨?_, ?_, ?_⟩ <;> (rw [ha4.cell (by first | (simp; done) | exact World.block_lt_of_cell? _ _ (by assumption))]; assumption)))
            (first
              | (go_at_call 83; refine (C1.out _).mono ?_; rintro e wa ⟨rfl, ha4⟩)
              | (go_at_call 121; refine (C2.out _).mono ?_; rintro e wb ⟨rfl, hb4⟩))
          have B1 : Below w.heap.size w wa := ((hnx.alloc hnx.size _).drew).trans (ha4.mono (by have := hnx.size; simp; omega))
          have B : Below w.heap.size w wb := B1.trans (hb4.mono B1.size)
          clear ha4 hb4 B1 hnx c0 c1 p0 p1 e0 e1 T0
          go_wp2_with fail
          go_ret
          exact ⟨by rw [HR.out]; rfl, B⟩
        · have HN : Hid (gUpto pairT lessP ts (j + 1 + 1) = true) := Lib.hid (by rw [gUpto_succ, hok.out, HA, ha]; rfl)
          have hls : Op.bytesLess u.1.toList t.1.toList = true := ha
          clear ha HA hq ht hu hts hc hm
          go_wp2_with fail
          obtain ⟨e0, e1⟩ := T0.cells
          have hj1 : ((j + 1 : Nat) : Int) - 1 = (j : Int) := by omega
          have hj2 : IntKind.i64.wrap (((j + 1 : Nat) : Int) - 1) = (j : Int) := by rw [hj1]; exact IntWalk.i64_in _ (by omega)
          have hjl : j < len := by omega
          have hj6 : (0 : Int) ≤ (j : Int) := by omega
          have hj7 : (j : Int) < (len : Int) := by omega
          have hj8 : IntKind.i64.wrap (j : Int) = (j : Int) := IntWalk.i64_in _ (by omega)
          have hj4 : (j : Int) + 1 - 1 = (j : Int) := by omega
          have hj5 : IntKind.i64.wrap ((j : Int) + 1 - 1) = (j : Int) := by rw [hj4]; exact IntWalk.i64_in _ (by omega)
          have hj3 : decide ((0 : Int) < ((j + 1 : Nat) : Int)) = true := by rw [decide_eq_true_eq]; omega
          go_region_held3 (fun w' => w'.cell? ⟨wr.heap.size, 0, none⟩ = some (.string t.1) ∧ w'.cell? ⟨wr.heap.size, 1, none⟩ = some (.string t.2) ∧ w'.cell? ⟨b, off + j * 2, none⟩ = some (.string u.1))
            (first | go_keep | (go_split_ands; refine ⟨?_, ?_, ?_⟩ <;> (rw [hb4.cell (by first | (simp; done) | exact World.block_lt_of_cell? _ _ (by assumption))]; assumption)) | (go_split_ands; refine ⟨?_, ?_, ?_⟩ <;> (rw [ha4.cell (by first | (simp; done) | exact World.block_lt_of_cell? _ _ (by assumption))]; assumption)))
            (first
              | (go_at_call 83; refine (C1.out _).mono ?_; rintro e wa ⟨rfl, ha4⟩)
              | (go_at_call 121; refine (C2.out _).mono ?_; rintro e wb ⟨rfl, hb4⟩))
          have B1 : Below w.heap.size w wa := ((hnx.alloc hnx.size _).drew).trans (ha4.mono (by have := hnx.size; simp; omega))
          have B : Below w.heap.size w wb := B1.trans (hb4.mono B1.size)
          clear ha4 hb4 B1 hnx c0 c1 p0 p1 e0 e1 T0
          go_wp2_with fail
          go_roundw
          case rel => exact ⟨j + 1 + 1, by omega, by go_num, HN, B⟩
          case measure => simp [intOf]; omega
    · have HF : Hid (rowOk ts = true) := Lib.hid (by have := hok.out; rw [HG.out, HT.out, show len = k from by omega]; exact this)
      go_wp2_with fail
      go_ret
      exact ⟨by rw [HF.out]; rfl, hnx⟩
end Go.Proofs.YtiajdnhmjdfeeaaGreat
