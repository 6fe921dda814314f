/- The text of rows: the specification. -/
import Derived.Test.YtiajdnhmjdfeeaaGreatKAS
import Derived.Test.YtiajdnhmjdfeeaaGreatKA00
import Derived.Deep.RegionHeld3
namespace Go.Proofs.YtiajdnhmjdfeeaaGreat
open Go.RowKit Go.WideShapes
theorem addFactX {a b c : ByteArray} (h : a.size + b.size ≤ 9223372036854775807) (hc : a ++ b = c) : ∀ wx : World, (Op.stringOp .add a b).run Tryz.prog wx = .ok (.string c) wx := fun wx => by
  rw [run_string_add_sum wx _ _ h, hc]
theorem rowL_first {r : RowV} {p : Pre2} (h : r[0]? = some p) : rowL (r.take 1) = rowP p := by
  cases r with
  | nil => simp at h
  | cons x r => simp at h; subst h; simp [rowL, Lib.join_one]
theorem rowL_next {r : RowV} {p : Pre2} {j : Nat} (h : r[j]? = some p) (h0 : 0 < j) : rowL (r.take (j + 1)) = rowL (r.take j) ++ (32 :: rowP p) := by
  have hj := (List.getElem?_eq_some_iff.1 h).1
  rw [List.take_add_one, h, Option.toList_some, rowL_snoc, if_neg (by rw [List.length_take]; omega)]
theorem bs_cat (l m : List UInt8) : bs l ++ bs m = bs (l ++ m) := by
  apply bs_eq
  simp [bs]
theorem rowP_cat (y z : ByteArray) : y ++ ({ data := #[61] } : ByteArray) ++ z = bs (rowP (y, z)) := by
  unfold rowP
  apply bs_eq
  simp
set_option maxRecDepth 100000 in
set_option maxHeartbeats 3200000 in
theorem specRowsText (a : Option Addr) (n c : Nat) (rs : List RowV) (w : World) (h : IsRows w a n c rs) (hsm : SmR rs) (hn : n ≤ 1048576) :
    Calls Tryz.prog 26 #[.slice a n c] w fun e w' => e = .returned (.string (bs (rowsTx rs))) ∧ Below w.heap.size w w' := by
  have C' := fun (W : World) (hb : Below w.heap.size w W) => specRowsOk a n c rs W (h.next hb) hsm
  obtain ⟨q, hq⟩ : ∃ q, rowsTx rs = q := ⟨_, rfl⟩
  rw [hq]
  unfold rowsTx at hq
  cases hg : rowsOkL rs
  · rw [hg] at C' hq
    have C := Lib.hid C'
    have HQ := Lib.hid hq
    clear C' h hsm hg hq
    go_enter Tryz.func26, Tryz.ntmps26
    go_wp2_with fail
    go_loopw [3, 4] (fun s i wr => s = .string ⟨#[]⟩ ∧ i = .int .i64 0 ∧ Below w.heap.size w wr) (fun _ _ _ => 0)
    case atStart => exact ⟨rfl, rfl, Below.refl _ _⟩
    case round =>
      obtain ⟨rfl, rfl, hnx⟩ := hrel
      go_wp2_with fail
      refine (C.out _ hnx).mono ?_
      rintro e w1 ⟨rfl, hb1⟩
      go_wp2_with fail
      go_ret
      exact ⟨by rw [← HQ.out]; rfl, hnx.trans (hb1.mono hnx.size)⟩
  · rw [hg] at C' hq
    have C := Lib.hid C'
    have HQ : Hid (rowsL rs = q) := Lib.hid hq
    have HL := Lib.hid (rowsL_take hg hsm)
    have H12 := Lib.hid (rowsOk_12 hg).2
    have HI := Lib.hid h
    have HM := Lib.hid hsm
    have HT := Lib.hid h.len
    clear C' h hsm hg hq
    go_enter Tryz.func26, Tryz.ntmps26
    go_wp2_with fail
    go_loopw [3, 4] (fun s i wr => ∃ (k : Nat) (x : ByteArray), k ≤ n ∧ i = .int .i64 k ∧ s = .string x ∧ Hid (x = bs (rowsL (rs.take k))) ∧ Below w.heap.size w wr) (fun _ i _ => n - (intOf i).toNat)
    case atStart => exact ⟨0, _, Nat.zero_le _, rfl, rfl, Lib.hid rfl, Below.refl _ _⟩
    case round =>
      obtain ⟨k, x, hk, rfl, rfl, hx, hnx⟩ := hrel
      have hk6 : (0 : Int) ≤ (k : Int) := by omega
      have C0 := Lib.hid (C.out _ hnx)
      by_cases hlt : k < n
      · have hk7 : (k : Int) < (n : Int) := by omega
        go_wp2_with fail
        refine C0.out.mono ?_
        rintro e w1 ⟨rfl, hb1⟩
        have B1 := hnx.trans (hb1.mono hnx.size)
        clear C0 hb1 hnx
        obtain ⟨b, off, rfl, hb, hl, hm, hts, hc⟩ := HI.out.cells (by omega)
        have ht : rs[k]? = some rs[k] := List.getElem?_eq_getElem (by omega)
        have HK : Hid (rs.take (k + 1) = rs.take k ++ [rs[k]]) := Lib.hid (List.take_succ_eq_append_getElem (by omega))
        have hsr := HM.out rs[k] (List.getElem_mem _)
        have h12 := H12.out rs[k] (List.getElem_mem _)
        obtain ⟨ra, rn, rc, c0, hz⟩ := hc k _ ht
        generalize rs[k] = r at ht c0 HK hsr h12 hz
        have HN : Hid (rowsL (rs.take (k + 1)) = rowsL (rs.take k) ++ rowL r ++ [10]) := Lib.hid (by rw [HK.out, rowsL_snoc, List.append_assoc])
        obtain ⟨l, hll⟩ : ∃ l, rowsL (rs.take k) = l := ⟨_, rfl⟩
        have hln := HL.out k
        rw [hll] at hx HN hln
        have hrl := hz.len
        have HZ := Lib.hid hz
        have HC0 := Lib.hid c0
        have HSR := Lib.hid hsr
        have HRL := Lib.hid hrl
        have hrn : rn ≤ 12 := by omega
        clear HK ht hts hc hm hll hz hsr c0 hrl h12
        go_wp2_with fail
        obtain ⟨xo, hxo⟩ : ∃ y, x = y := ⟨_, rfl⟩
        go_loopw [3, 5] (fun s i w2 => ∃ (j : Nat) (y : ByteArray), j ≤ rn ∧ i = .int .i64 j ∧ s = .string y ∧ Hid (y = bs (l ++ rowL (r.take j))) ∧ Below w.heap.size w w2) (fun _ i _ => rn - (intOf i).toNat)
        case atStart => exact ⟨0, _, Nat.zero_le _, rfl, rfl, Lib.hid (by rw [hx.out]; simp [rowL, Lib.join_nil]), B1⟩
        case round =>
          obtain ⟨j, y, hj, rfl, rfl, hy, hnx2⟩ := hrel
          clear B1 hx hxo
          have hj6 : (0 : Int) ≤ (j : Int) := by omega
          have c0 := HC0.out
          rw [← hnx2.cell (p := ⟨b, _, none⟩) hb] at c0
          have hrm := rowL_most (r.take j).length (r.take j) rfl (fun t ht => HSR.out t (List.mem_of_mem_take ht))
          have htl : (r.take j).length ≤ 12 := by rw [List.length_take]; have := HRL.out; omega
          have hysz : y.size ≤ 8100000000 := by rw [hy.out, bs_size, List.length_append]; omega
          by_cases hlj : j < rn
          · have hj7 : (j : Int) < (rn : Int) := by omega
            obtain ⟨b2, off2, rfl, hb2, _, _, hts2, hcs2⟩ := (HZ.out.next hnx2).cells (by omega)
            have ht2 : r[j]? = some (r[j]'(by omega)) := List.getElem?_eq_getElem (by omega)
            obtain ⟨d0, d1, m0, m1⟩ := hcs2 j _ ht2
            have hsz := HSR.out _ (List.mem_of_getElem? ht2)
            generalize r[j]'(by omega) = p at ht2 d0 d1 m0 m1 hsz
            obtain ⟨p0, p1⟩ := p
            simp only at d0 d1 m0 m1 hsz
            clear hts2 hcs2 m0 m1
            by_cases hj0 : j = 0
            · obtain ⟨ys, hys⟩ : ∃ z, y = z := ⟨_, rfl⟩
              have hl0 : l ++ rowL (r.take (j + 1)) = (l ++ rowL (r.take j)) ++ rowP (p0, p1) := by subst hj0; rw [rowL_first ht2]; simp [rowL, Lib.join_nil]
              have hj8 : ¬ (0 : Int) < (j : Int) := by omega
              have hyss : ys.size ≤ 8100000001 := by rw [← hys]; omega
              obtain ⟨k0, g0⟩ : ∃ z, ys ++ p0 = z := ⟨_, rfl⟩
              obtain ⟨k1, g1⟩ : ∃ z, k0 ++ ({ data := #[61] } : ByteArray) = z := ⟨_, rfl⟩
              obtain ⟨k2, g2⟩ : ∃ z, k1 ++ p1 = z := ⟨_, rfl⟩
              have z0 : k0.size ≤ 8101048577 := by rw [← g0, ByteArray.size_append]; omega
              have z1 : k1.size ≤ 8101048578 := by rw [← g1, ByteArray.size_append, show ({ data := #[61] } : ByteArray).size = 1 from rfl]; omega
              have HE : Hid (k2 = bs (l ++ rowL (r.take (j + 1)))) := Lib.hid (by
                rw [hl0, ← g2, ← g1, ← g0, ← hys, hy.out]
                rw [← bs_cat _ (rowP (p0, p1)), ← rowP_cat, ByteArray.append_assoc, ByteArray.append_assoc, ByteArray.append_assoc])
              have a0 := addFactX (by omega) g0
              have a1 := addFactX (by rw [show ({ data := #[61] } : ByteArray).size = 1 from rfl]; omega) g1
              have a2 := addFactX (by omega) g2
              have HB := Lib.hid hnx2.drew
              clear g0 g1 g2 z0 z1 hl0 hy hrm htl hnx2 ht2 hj0
              subst hys
              go_wp2_with fail
              refine wp_region_held_drew (S := (fun w' => w'.cell? ⟨b, off + k, none⟩ = some (.slice (some ⟨b2, off2, none⟩) rn rc) ∧ w'.cell? ⟨b2, off2 + j * 2, none⟩ = some (.string p0) ∧ w'.cell? ⟨b2, off2 + j * 2 + 1, none⟩ = some (.string p1))) (by kernel_rfl) ?_ (fun hHeld => ?_)
              · exact ⟨c0, d0, d1⟩
              refine wpAnyH_take (i := 0) (v := ?_) rfl (by kernel_rfl) (by kernel_rfl) (by kernel_rfl) (fun _ _ _ h => h) (Or.inl ⟨by kernel_rfl, ?_⟩) (by assumption) ?_
              rotate_left
              · intro w hSw; (try dsimp only at hSw); go_simp; try with_reducible rfl
              refine wpAnyH_take (i := 1) (v := ?_) rfl (by kernel_rfl) (by kernel_rfl) (by kernel_rfl) (fun _ _ _ h => h) (Or.inl ⟨by kernel_rfl, ?_⟩) (by assumption) ?_
              rotate_left
              · intro w hSw; (try dsimp only at hSw); go_simp; try with_reducible rfl
              refine wpAnyH_take (i := 2) (v := ?_) rfl (by kernel_rfl) (by kernel_rfl) (by kernel_rfl) (fun _ _ _ h => h) (Or.inl ⟨by kernel_rfl, ?_⟩) (by assumption) ?_
              rotate_left
              · intro w hSw; (try dsimp only at hSw); go_simp; try with_reducible rfl
              refine wpAnyH_take (i := 3) (v := ?_) rfl (by kernel_rfl) (by kernel_rfl) (by kernel_rfl) (fun _ _ _ h => h) (Or.inl ⟨by kernel_rfl, ?_⟩) (by assumption) ?_
              rotate_left
              · intro w hSw; (try dsimp only at hSw); go_simp; try with_reducible rfl
              refine wpAnyH_take (i := 4) (v := ?_) rfl (by kernel_rfl) (by kernel_rfl) (by kernel_rfl) (fun _ _ _ h => h) (Or.inl ⟨by kernel_rfl, ?_⟩) (by assumption) ?_
              rotate_left
              · intro w hSw; (try dsimp only at hSw); go_simp; try with_reducible rfl
              refine wpAnyH_take (i := 5) (v := ?_) rfl (by kernel_rfl) (by kernel_rfl) (by kernel_rfl) (fun _ _ _ h => h) (Or.inl ⟨by kernel_rfl, ?_⟩) (by assumption) ?_
              rotate_left
              · intro w hSw; (try dsimp only at hSw); go_simp; try with_reducible rfl
              refine wpAnyH_take (i := 6) (v := ?_) rfl (by kernel_rfl) (by kernel_rfl) (by kernel_rfl) (fun _ _ _ h => h) (Or.inl ⟨by kernel_rfl, ?_⟩) (by assumption) ?_
              rotate_left
              · intro w hSw; (try dsimp only at hSw); go_simp; try with_reducible rfl
              refine wpAnyH_take (i := 7) (v := ?_) rfl (by kernel_rfl) (by kernel_rfl) (by kernel_rfl) (fun _ _ _ h => h) (Or.inl ⟨by kernel_rfl, ?_⟩) (by assumption) ?_
              rotate_left
              · intro w hSw; (try dsimp only at hSw); go_simp; try with_reducible rfl
              refine wpAnyH_take (i := 8) (v := ?_) rfl (by kernel_rfl) (by kernel_rfl) (by kernel_rfl) (fun _ _ _ h => h) (Or.inl ⟨by kernel_rfl, ?_⟩) (by assumption) ?_
              rotate_left
              · intro w hSw; (try dsimp only at hSw); go_simp; try with_reducible rfl
              refine wpAnyH_take (i := 9) (v := ?_) rfl (by kernel_rfl) (by kernel_rfl) (by kernel_rfl) (fun _ _ _ h => h) (Or.inl ⟨by kernel_rfl, ?_⟩) (by assumption) ?_
              rotate_left
              · intro w hSw; (try dsimp only at hSw); go_simp; try with_reducible rfl
              refine wpAnyH_take (i := 10) (v := ?_) rfl (by kernel_rfl) (by kernel_rfl) (by kernel_rfl) (fun _ _ _ h => h) (Or.inl ⟨by kernel_rfl, ?_⟩) (by assumption) ?_
              rotate_left
              · intro w hSw; (try dsimp only at hSw); go_simp; try with_reducible rfl
              refine wpAnyH_take (i := 11) (v := ?_) rfl (by kernel_rfl) (by kernel_rfl) (by kernel_rfl) (fun _ _ _ h => h) (Or.inl ⟨by kernel_rfl, ?_⟩) (by assumption) ?_
              rotate_left
              · intro w hSw; (try dsimp only at hSw); go_simp; try with_reducible rfl
              refine wpAnyH_take (i := 12) (v := ?_) rfl (by kernel_rfl) (by kernel_rfl) (by kernel_rfl) (fun _ _ _ h => h) (Or.inl ⟨by kernel_rfl, ?_⟩) (by assumption) ?_
              rotate_left
              · intro w hSw; (try dsimp only at hSw); go_simp; try with_reducible rfl
              refine wpAnyH_take (i := 13) (v := ?_) rfl (by kernel_rfl) (by kernel_rfl) (by kernel_rfl) (fun _ _ _ h => h) (Or.inl ⟨by kernel_rfl, ?_⟩) (by assumption) ?_
              rotate_left
              · intro w hSw; (try dsimp only at hSw); go_simp; try with_reducible rfl
              refine wpAnyH_take (i := 14) (v := ?_) rfl (by kernel_rfl) (by kernel_rfl) (by kernel_rfl) (fun _ _ _ h => h) (Or.inl ⟨by kernel_rfl, ?_⟩) (by assumption) ?_
              rotate_left
              · intro w hSw; (try dsimp only at hSw); go_simp; try with_reducible rfl
              refine wpAnyH_take (i := 15) (v := ?_) rfl (by kernel_rfl) (by kernel_rfl) (by kernel_rfl) (fun _ _ _ h => h) (Or.inl ⟨by kernel_rfl, ?_⟩) (by assumption) ?_
              rotate_left
              · intro w hSw; (try dsimp only at hSw); go_simp; try with_reducible rfl
              refine wpAnyH_take (i := 16) (v := ?_) rfl (by kernel_rfl) (by kernel_rfl) (by kernel_rfl) (fun _ _ _ h => h) (Or.inl ⟨by kernel_rfl, ?_⟩) (by assumption) ?_
              rotate_left
              · intro w hSw; (try dsimp only at hSw); go_simp; try with_reducible rfl
              refine wpAnyH_take (i := 17) (v := ?_) rfl (by kernel_rfl) (by kernel_rfl) (by kernel_rfl) (fun _ _ _ h => h) (Or.inl ⟨by kernel_rfl, ?_⟩) (by assumption) ?_
              rotate_left
              · intro w hSw; (try dsimp only at hSw); go_simp; try with_reducible rfl
              refine wpAnyH_take (i := 18) (v := ?_) rfl (by kernel_rfl) (by kernel_rfl) (by kernel_rfl) (fun _ _ _ h => h) (Or.inl ⟨by kernel_rfl, ?_⟩) (by assumption) ?_
              rotate_left
              · intro w hSw; (try dsimp only at hSw); go_simp; try with_reducible rfl
              refine wpAnyH_take (i := 19) (v := ?_) rfl (by kernel_rfl) (by kernel_rfl) (by kernel_rfl) (fun _ _ _ h => h) (Or.inl ⟨by kernel_rfl, ?_⟩) (by assumption) ?_
              rotate_left
              · intro w hSw; (try dsimp only at hSw); go_simp; try with_reducible rfl
              refine wpAnyH_take (i := 20) (v := ?_) rfl (by kernel_rfl) (by kernel_rfl) (by kernel_rfl) (fun _ _ _ h => h) (Or.inl ⟨by kernel_rfl, ?_⟩) (by assumption) ?_
              rotate_left
              · intro w hSw; (try dsimp only at hSw); go_simp; try with_reducible rfl
              refine wpAnyH_done (by kernel_rfl) ?_ _
              try simp only [Act.put, List.setIfInBounds_toArray, List.set_cons_zero, List.set_cons_succ, List.getElem_toArray, List.getElem_cons_zero, List.getElem_cons_succ]
              clear hHeld
              go_wp2_with fail
              go_roundw
              case rel => exact ⟨j + 1, _, by omega, by go_num, rfl, HE, HB.out⟩
              case measure => simp [intOf]; omega
            · have hj8 : (0 : Int) < (j : Int) := by omega
              obtain ⟨ys, hys⟩ : ∃ z, y ++ ({ data := #[32] } : ByteArray) = z := ⟨_, rfl⟩
              have hl0 : l ++ rowL (r.take (j + 1)) = (l ++ rowL (r.take j)) ++ [32] ++ rowP (p0, p1) := by rw [rowL_next ht2 (by omega)]; simp
              have hyss : ys.size ≤ 8100000001 := by rw [← hys, ByteArray.size_append, show ({ data := #[32] } : ByteArray).size = 1 from rfl]; omega
              obtain ⟨k0, g0⟩ : ∃ z, ys ++ p0 = z := ⟨_, rfl⟩
              obtain ⟨k1, g1⟩ : ∃ z, k0 ++ ({ data := #[61] } : ByteArray) = z := ⟨_, rfl⟩
              obtain ⟨k2, g2⟩ : ∃ z, k1 ++ p1 = z := ⟨_, rfl⟩
              have z0 : k0.size ≤ 8101048577 := by rw [← g0, ByteArray.size_append]; omega
              have z1 : k1.size ≤ 8101048578 := by rw [← g1, ByteArray.size_append, show ({ data := #[61] } : ByteArray).size = 1 from rfl]; omega
              have HE : Hid (k2 = bs (l ++ rowL (r.take (j + 1)))) := Lib.hid (by
                rw [hl0, ← g2, ← g1, ← g0, ← hys, hy.out]
                rw [show ({ data := #[32] } : ByteArray) = bs [32] from rfl, bs_cat]
                rw [← bs_cat _ (rowP (p0, p1)), ← rowP_cat, ByteArray.append_assoc, ByteArray.append_assoc, ByteArray.append_assoc])
              have a0 := addFactX (by omega) g0
              have a1 := addFactX (by rw [show ({ data := #[61] } : ByteArray).size = 1 from rfl]; omega) g1
              have a2 := addFactX (by omega) g2
              have HB := Lib.hid hnx2.drew
              have a9 := addFactX (a := y) (b := { data := #[32] }) (by rw [show ({ data := #[32] } : ByteArray).size = 1 from rfl]; omega) hys
              have hs9 : y.size + 1 ≤ 9223372036854775807 := by omega
              clear g0 g1 g2 z0 z1 hl0 hy hrm htl hnx2 ht2 hj0
              go_wp2_with fail
              try rw [hys]
              clear hys
              refine wp_region_held_drew (S := (fun w' => w'.cell? ⟨b, off + k, none⟩ = some (.slice (some ⟨b2, off2, none⟩) rn rc) ∧ w'.cell? ⟨b2, off2 + j * 2, none⟩ = some (.string p0) ∧ w'.cell? ⟨b2, off2 + j * 2 + 1, none⟩ = some (.string p1))) (by kernel_rfl) ?_ (fun hHeld => ?_)
              · exact ⟨c0, d0, d1⟩
              refine wpAnyH_take (i := 0) (v := ?_) rfl (by kernel_rfl) (by kernel_rfl) (by kernel_rfl) (fun _ _ _ h => h) (Or.inl ⟨by kernel_rfl, ?_⟩) (by assumption) ?_
              rotate_left
              · intro w hSw; (try dsimp only at hSw); go_simp; try with_reducible rfl
              refine wpAnyH_take (i := 1) (v := ?_) rfl (by kernel_rfl) (by kernel_rfl) (by kernel_rfl) (fun _ _ _ h => h) (Or.inl ⟨by kernel_rfl, ?_⟩) (by assumption) ?_
              rotate_left
              · intro w hSw; (try dsimp only at hSw); go_simp; try with_reducible rfl
              refine wpAnyH_take (i := 2) (v := ?_) rfl (by kernel_rfl) (by kernel_rfl) (by kernel_rfl) (fun _ _ _ h => h) (Or.inl ⟨by kernel_rfl, ?_⟩) (by assumption) ?_
              rotate_left
              · intro w hSw; (try dsimp only at hSw); go_simp; try with_reducible rfl
              refine wpAnyH_take (i := 3) (v := ?_) rfl (by kernel_rfl) (by kernel_rfl) (by kernel_rfl) (fun _ _ _ h => h) (Or.inl ⟨by kernel_rfl, ?_⟩) (by assumption) ?_
              rotate_left
              · intro w hSw; (try dsimp only at hSw); go_simp; try with_reducible rfl
              refine wpAnyH_take (i := 4) (v := ?_) rfl (by kernel_rfl) (by kernel_rfl) (by kernel_rfl) (fun _ _ _ h => h) (Or.inl ⟨by kernel_rfl, ?_⟩) (by assumption) ?_
              rotate_left
              · intro w hSw; (try dsimp only at hSw); go_simp; try with_reducible rfl
              refine wpAnyH_take (i := 5) (v := ?_) rfl (by kernel_rfl) (by kernel_rfl) (by kernel_rfl) (fun _ _ _ h => h) (Or.inl ⟨by kernel_rfl, ?_⟩) (by assumption) ?_
              rotate_left
              · intro w hSw; (try dsimp only at hSw); go_simp; try with_reducible rfl
              refine wpAnyH_take (i := 6) (v := ?_) rfl (by kernel_rfl) (by kernel_rfl) (by kernel_rfl) (fun _ _ _ h => h) (Or.inl ⟨by kernel_rfl, ?_⟩) (by assumption) ?_
              rotate_left
              · intro w hSw; (try dsimp only at hSw); go_simp; try with_reducible rfl
              refine wpAnyH_take (i := 7) (v := ?_) rfl (by kernel_rfl) (by kernel_rfl) (by kernel_rfl) (fun _ _ _ h => h) (Or.inl ⟨by kernel_rfl, ?_⟩) (by assumption) ?_
              rotate_left
              · intro w hSw; (try dsimp only at hSw); go_simp; try with_reducible rfl
              refine wpAnyH_take (i := 8) (v := ?_) rfl (by kernel_rfl) (by kernel_rfl) (by kernel_rfl) (fun _ _ _ h => h) (Or.inl ⟨by kernel_rfl, ?_⟩) (by assumption) ?_
              rotate_left
              · intro w hSw; (try dsimp only at hSw); go_simp; try with_reducible rfl
              refine wpAnyH_take (i := 9) (v := ?_) rfl (by kernel_rfl) (by kernel_rfl) (by kernel_rfl) (fun _ _ _ h => h) (Or.inl ⟨by kernel_rfl, ?_⟩) (by assumption) ?_
              rotate_left
              · intro w hSw; (try dsimp only at hSw); go_simp; try with_reducible rfl
              refine wpAnyH_take (i := 10) (v := ?_) rfl (by kernel_rfl) (by kernel_rfl) (by kernel_rfl) (fun _ _ _ h => h) (Or.inl ⟨by kernel_rfl, ?_⟩) (by assumption) ?_
              rotate_left
              · intro w hSw; (try dsimp only at hSw); go_simp; try with_reducible rfl
              refine wpAnyH_take (i := 11) (v := ?_) rfl (by kernel_rfl) (by kernel_rfl) (by kernel_rfl) (fun _ _ _ h => h) (Or.inl ⟨by kernel_rfl, ?_⟩) (by assumption) ?_
              rotate_left
              · intro w hSw; (try dsimp only at hSw); go_simp; try with_reducible rfl
              refine wpAnyH_take (i := 12) (v := ?_) rfl (by kernel_rfl) (by kernel_rfl) (by kernel_rfl) (fun _ _ _ h => h) (Or.inl ⟨by kernel_rfl, ?_⟩) (by assumption) ?_
              rotate_left
              · intro w hSw; (try dsimp only at hSw); go_simp; try with_reducible rfl
              refine wpAnyH_take (i := 13) (v := ?_) rfl (by kernel_rfl) (by kernel_rfl) (by kernel_rfl) (fun _ _ _ h => h) (Or.inl ⟨by kernel_rfl, ?_⟩) (by assumption) ?_
              rotate_left
              · intro w hSw; (try dsimp only at hSw); go_simp; try with_reducible rfl
              refine wpAnyH_take (i := 14) (v := ?_) rfl (by kernel_rfl) (by kernel_rfl) (by kernel_rfl) (fun _ _ _ h => h) (Or.inl ⟨by kernel_rfl, ?_⟩) (by assumption) ?_
              rotate_left
              · intro w hSw; (try dsimp only at hSw); go_simp; try with_reducible rfl
              refine wpAnyH_take (i := 15) (v := ?_) rfl (by kernel_rfl) (by kernel_rfl) (by kernel_rfl) (fun _ _ _ h => h) (Or.inl ⟨by kernel_rfl, ?_⟩) (by assumption) ?_
              rotate_left
              · intro w hSw; (try dsimp only at hSw); go_simp; try with_reducible rfl
              refine wpAnyH_take (i := 16) (v := ?_) rfl (by kernel_rfl) (by kernel_rfl) (by kernel_rfl) (fun _ _ _ h => h) (Or.inl ⟨by kernel_rfl, ?_⟩) (by assumption) ?_
              rotate_left
              · intro w hSw; (try dsimp only at hSw); go_simp; try with_reducible rfl
              refine wpAnyH_take (i := 17) (v := ?_) rfl (by kernel_rfl) (by kernel_rfl) (by kernel_rfl) (fun _ _ _ h => h) (Or.inl ⟨by kernel_rfl, ?_⟩) (by assumption) ?_
              rotate_left
              · intro w hSw; (try dsimp only at hSw); go_simp; try with_reducible rfl
              refine wpAnyH_take (i := 18) (v := ?_) rfl (by kernel_rfl) (by kernel_rfl) (by kernel_rfl) (fun _ _ _ h => h) (Or.inl ⟨by kernel_rfl, ?_⟩) (by assumption) ?_
              rotate_left
              · intro w hSw; (try dsimp only at hSw); go_simp; try with_reducible rfl
              refine wpAnyH_take (i := 19) (v := ?_) rfl (by kernel_rfl) (by kernel_rfl) (by kernel_rfl) (fun _ _ _ h => h) (Or.inl ⟨by kernel_rfl, ?_⟩) (by assumption) ?_
              rotate_left
              · intro w hSw; (try dsimp only at hSw); go_simp; try with_reducible rfl
              refine wpAnyH_take (i := 20) (v := ?_) rfl (by kernel_rfl) (by kernel_rfl) (by kernel_rfl) (fun _ _ _ h => h) (Or.inl ⟨by kernel_rfl, ?_⟩) (by assumption) ?_
              rotate_left
              · intro w hSw; (try dsimp only at hSw); go_simp; try with_reducible rfl
              refine wpAnyH_done (by kernel_rfl) ?_ _
              try simp only [Act.put, List.setIfInBounds_toArray, List.set_cons_zero, List.set_cons_succ, List.getElem_toArray, List.getElem_cons_zero, List.getElem_cons_succ]
              clear hHeld
              go_wp2_with fail
              go_roundw
              case rel => exact ⟨j + 1, _, by omega, by go_num, rfl, HE, HB.out⟩
              case measure => simp [intOf]; omega
          · obtain rfl : j = rn := by omega
            have HF : Hid (rowsL (rs.take (k + 1)) = (l ++ rowL (r.take j)) ++ [10]) := Lib.hid (by rw [HN.out, List.take_of_length_le (by rw [HRL.out]; exact Nat.le_refl _)])
            have HE : Hid (y ++ ({ data := #[10] } : ByteArray) = bs (rowsL (rs.take (k + 1)))) := Lib.hid (by
              rw [HF.out, hy.out, show ({ data := #[10] } : ByteArray) = bs [10] from rfl, bs_cat])
            have hs1 : y.size + 1 ≤ 9223372036854775807 := by omega
            clear hy HF hrm htl
            go_wp2_with fail
            go_roundw
            case rel => exact ⟨k + 1, _, by omega, by go_num, rfl, HE, hnx2⟩
            case measure => simp [intOf]; omega
      · have HE : Hid (x = bs q) := Lib.hid (by rw [hx.out, List.take_of_length_le (by rw [HT.out]; omega), HQ.out])
        have hk7 : ¬ (k : Int) < (n : Int) := by omega
        go_wp2_with fail
        refine C0.out.mono ?_
        rintro e w1 ⟨rfl, hb1⟩
        go_wp2_with fail
        go_ret
        exact ⟨by rw [← HE.out]; rfl, hnx.trans (hb1.mono hnx.size)⟩
end Go.Proofs.YtiajdnhmjdfeeaaGreat
