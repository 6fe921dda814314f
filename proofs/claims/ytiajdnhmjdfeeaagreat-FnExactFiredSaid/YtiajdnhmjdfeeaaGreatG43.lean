/- What a rule makes of rows: the specification. -/
import Derived.Test.YtiajdnhmjdfeeaaGreatG39
import Derived.Test.YtiajdnhmjdfeeaaGreatG26
import Derived.Test.YtiajdnhmjdfeeaaGreatG40
import Derived.Test.YtiajdnhmjdfeeaaGreatG42
import Derived.Test.YtiajdnhmjdfeeaaGreatG07
import Derived.Test.YtiajdnhmjdfeeaaGreatG01
import Derived.Deep.RegionHeld3
import Derived.Test.YtiajdnhmjdfeeaaGreatG31
import Derived.Test.YtiajdnhmjdfeeaaGreatG41
import Derived.Test.YtiajdnhmjdfeeaaGreatG08
namespace Go.Proofs.YtiajdnhmjdfeeaaGreat
open Go.RowKit Go.WideShapes Go.Maps
theorem Box.set2z {w : World} {g : Nat} {x y z : Value} {T : TypeId} (h : Box w g x y z T) (u : Value) : Box (w.setCell ⟨g, 2, none⟩ u) g x y u T := by
  unfold Box at h ⊢; simp [World.setCell, Array.getElem?_modify, h]
set_option maxRecDepth 100000 in
set_option maxHeartbeats 6400000 in
theorem specHeads (B : Nat) (a : Option Addr) (la ca : Nat) (gs : List Tri3) (b : Option Addr) (lr cr : Nat) (rs : List RowV) (s p o : ByteArray) (v0 : Value) (w : World) (ha : IsTris w a la ca gs) (hr : IsRows w b lr cr rs) (ho : OwnT B w v0 []) (hBw : B ≤ w.heap.size) (hok : ∀ r ∈ rs, rowOk r = true) (hsr : SmR rs) (hlr : lr ≤ 300) (hla : la ≤ 1048576) (hh : s.size ≤ 1048576 ∧ p.size ≤ 1048576 ∧ o.size ≤ 1048576) :
    Calls Tryz.prog 88 #[.slice a la ca, .slice b lr cr, .agg #[.string s, .string p, .string o], v0] w fun e w' => ∃ v, e = .returned v ∧ OwnT B w' v (headsL gs (s, p, o) rs) ∧ Below w.heap.size w w' := by
  have hb0 : Below w.heap.size w (w.alloc (.cells #[.string s, .string p, .string o] 65)) := (Below.refl w.heap.size w).alloc (Nat.le_refl _) (.cells #[.string s, .string p, .string o] 65)
  have B0 := Lib.hid hb0
  have X0 := Lib.hid (Box.new w (.string s) (.string p) (.string o) 65)
  have A0 := Lib.hid (ha.next hb0)
  have R0 := Lib.hid (hr.next hb0)
  have O0 := Lib.hid (ho.next hb0)
  have HRL := Lib.hid hr.len
  have HOK := Lib.hid hok
  have HSR := Lib.hid hsr
  have HH := Lib.hid hh
  have HSZ : Hid (∀ k, ∀ t ∈ headsL gs (s, p, o) (rs.take k), t.1.size ≤ maxLen ∧ t.2.1.size ≤ maxLen ∧ t.2.2.size ≤ maxLen) := Lib.hid (fun k => headsL_sz (fun r h => hsr r (List.mem_of_mem_take h)) hh)
  clear hb0 ha hr ho hok hsr hh
  go_enter Tryz.func88, Tryz.ntmps88
  go_wp2_with fail
  go_loopw [3, 9] (fun v i wr => ∃ k : Nat, k ≤ lr ∧ i = .int .i64 k ∧ Hid (OwnT B wr v (headsL gs (s, p, o) (rs.take k))) ∧ Hid (Box wr w.heap.size (.string s) (.string p) (.string o) 65) ∧ Hid (IsTris wr a la ca gs) ∧ Hid (IsRows wr b lr cr rs) ∧ Hid (Below w.heap.size w wr)) (fun _ i _ => lr - (intOf i).toNat)
  case atStart => exact ⟨0, Nat.zero_le _, rfl, Lib.hid (by simpa [headsL] using O0.out), X0, A0, R0, B0⟩
  case round =>
    obtain ⟨k, hk, rfl, O1, X1, A1, R1, B1⟩ := hrel
    clear B0 X0 A0 R0 O0
    have hk6 : (0 : Int) ≤ (k : Int) := by omega
    by_cases hlt : k < lr
    · have hk7 : (k : Int) < (lr : Int) := by omega
      obtain ⟨rb, off, rfl, hb, _, _, hts, hc⟩ := R1.out.cells (by omega)
      have ht : rs[k]? = some (rs[k]'(by omega)) := List.getElem?_eq_getElem (by omega)
      obtain ⟨ra, rn, rc, c0, hp⟩ := hc k _ ht
      have hmr : rs[k]'(by omega) ∈ rs := List.getElem_mem _
      have HSN0 := headsL_snoc gs (s, p, o) (rs.take k) (rs[k]'(by omega))
      rw [← List.take_succ_eq_append_getElem (by omega)] at HSN0
      generalize rs[k]'(by omega) = r at ht c0 hp hmr HSN0
      have hro := HOK.out r hmr
      have hrs := HSR.out r hmr
      have hrn : rn ≤ 12 := by have := rowOk_most hro; have := hp.len; omega
      have HZT := Lib.hid (seenT_sz (h := (s, p, o)) hrs HH.out)
      have P1 := Lib.hid hp
      have HAS := Lib.hid (asc_ok hro)
      obtain ⟨L, hL⟩ : ∃ L, headsL gs (s, p, o) (rs.take k) = L := ⟨_, rfl⟩
      have hLl : L.length ≤ 300 := by rw [← hL]; have := headsL_len gs (s, p, o) (rs.take k); rw [List.length_take] at this; omega
      have HLM := Lib.hid (HSZ.out k)
      rw [hL] at O1 HSN0 HLM
      have HSN := Lib.hid HSN0
      obtain ⟨va, vc, rfl, _⟩ := OwnT.plain O1.out HLM.out
      obtain ⟨N, hN⟩ : ∃ N, L.length = N := ⟨_, rfl⟩
      rw [hN] at hLl O1 ⊢
      have HN := Lib.hid hN
      have Y1 := Lib.hid c0
      clear HSN0 hL hN hmr hro hrs ht hts hc hp hb
      clear c0
      go_wp2_with fail
      have hb : Below wr.heap.size wr wr.drew := (Below.refl _ _).drew
      have B2 := Lib.hid B1.out.drew
      have O2 := Lib.hid (O1.out.next hb)
      have X2 := Lib.hid (X1.out.next hb)
      have A2 := Lib.hid (A1.out.next hb)
      have R2 := Lib.hid (R1.out.next hb)
      have P2 := Lib.hid (P1.out.next hb)
      have Y2 : Hid (wr.drew.cell? ⟨rb, off + k, none⟩ = some (.slice ra rn rc)) := Y1
      clear hb B1 O1 X1 A1 R1 P1 Y1
      refine wp_region_held_drew (S := (fun w' => w'.cell? ⟨rb, off + k, none⟩ = some (.slice ra rn rc) ∧ w'.cell? ⟨w.heap.size, 0, none⟩ = some (.string s) ∧ w'.cell? ⟨w.heap.size, 1, none⟩ = some (.string p) ∧ w'.cell? ⟨w.heap.size, 2, none⟩ = some (.string o))) (by kernel_rfl) ?_ (fun hHeld => ?_)
      · exact ⟨Y2.out, X2.out.cells⟩
      generalize World.drew wr = V0 at B2 O2 X2 A2 R2 P2 Y2 hHeld ⊢
      have HK : Hid (∀ W, Below V0.heap.size V0 W → (fun w' => w'.cell? ⟨rb, off + k, none⟩ = some (.slice ra rn rc) ∧ w'.cell? ⟨w.heap.size, 0, none⟩ = some (.string s) ∧ w'.cell? ⟨w.heap.size, 1, none⟩ = some (.string p) ∧ w'.cell? ⟨w.heap.size, 2, none⟩ = some (.string o)) W) := Lib.hid (fun W hb => ⟨(hb.cell (World.block_lt_of_cell? _ _ Y2.out)).trans Y2.out, (X2.out.next hb).cells⟩)
      have D0 := Lib.hid (Below.refl V0.heap.size V0)
      refine wpAnyH_take (i := 0) (v := ?_) rfl (by kernel_rfl) (by kernel_rfl) (by kernel_rfl) (fun _ _ _ h => h) (Or.inl ⟨by kernel_rfl, ?_⟩) (by assumption) ?_
      rotate_left
      · intro w hSw; (try dsimp only at hSw); go_simp; try with_reducible rfl
      refine wpAnyH_take (i := 1) (v := ?_) rfl (by kernel_rfl) (by kernel_rfl) (by kernel_rfl) (fun _ _ _ h => h) (Or.inl ⟨by kernel_rfl, ?_⟩) (by assumption) ?_
      rotate_left
      · intro w hSw; (try dsimp only at hSw); go_simp; try with_reducible rfl
      refine wpAnyH_take (i := 2) (v := ?_) rfl (by kernel_rfl) (by kernel_rfl) (by kernel_rfl) (fun _ _ _ h => h) (Or.inl ⟨by kernel_rfl, ?_⟩) (by assumption) ?_
      rotate_left
      · intro w hSw; (try dsimp only at hSw); go_simp; try with_reducible rfl
      refine wpAnyH_take (i := 3) (v := ?_) rfl (by kernel_rfl) (by kernel_rfl) (by kernel_rfl) (fun _ _ _ h => h) (Or.inl ⟨by kernel_rfl, ?_⟩) (by assumption) ?_
      rotate_left
      · intro w hSw; (try dsimp only at hSw); go_simp; try with_reducible rfl
      refine wpAnyH_take (i := 4) (v := ?_) rfl (by kernel_rfl) (by kernel_rfl) (by kernel_rfl) (fun _ _ _ h => h) (Or.inl ⟨by kernel_rfl, ?_⟩) (by assumption) ?_
      rotate_left
      · intro w hSw; (try dsimp only at hSw); go_simp; try with_reducible rfl
      refine wpAnyH_ready (rs := [5, 6]) (by kernel_rfl) (by simp) ?_
      refine (AllReadyH.cons rfl (fun K hK => ?_) (AllReadyH.cons rfl (fun K hK => ?_) AllReadyH.nil))
      focus
        go_simp
        refine (specFilledBy ra rn rc r s p o _ (P2.out.next D0.out) HAS.out (by omega)).mono ?_
        rintro e u1 ⟨rfl, hb⟩
        have D1 := Lib.hid (D0.out.trans (hb.mono D0.out.size))
        clear hb D0
        go_wp2_with fail
        clear hHeld
        refine hK.out _ _ ?_ (fun hHeld => ?_)
        · exact HK.out _ D1.out
        clear hK K
        refine wpAnyH_ready (rs := [6]) (by kernel_rfl) (by simp) ?_
        refine (AllReadyH.cons rfl (fun K hK => ?_) AllReadyH.nil)
        go_simp
        clear hHeld
        refine hK.out _ _ ?_ (fun hHeld => ?_)
        · exact HK.out _ (D1.out.alloc D1.out.size _)
        clear hK K
        have D2 := Lib.hid (D1.out.alloc D1.out.size (.cells #[.string ⟨#[]⟩, .string ⟨#[]⟩, .string ⟨#[]⟩] 65))
        have T2 := Lib.hid (Box.new u1 (.string ⟨#[]⟩) (.string ⟨#[]⟩) (.string ⟨#[]⟩) 65)
        obtain ⟨tb, hte⟩ : ∃ t, u1.heap.size = t := ⟨_, rfl⟩
        have htb : V0.heap.size ≤ tb := Nat.le_trans D1.out.size (Nat.le_of_eq hte)
        rw [hte] at T2 ⊢
        clear D1
        generalize u1.alloc (.cells #[.string ⟨#[]⟩, .string ⟨#[]⟩, .string ⟨#[]⟩] 65) = u2 at D2 T2 hHeld ⊢
        clear hte
        refine wpAnyH_ready (rs := [7]) (by kernel_rfl) (by simp) ?_
        refine (AllReadyH.cons rfl (fun K hK => ?_) AllReadyH.nil)
        obtain ⟨t0, t1, t2⟩ := T2.out.cells
        obtain ⟨f0, f1, f2⟩ := T2.out.free
        have D3 := Lib.hid (((D2.out.setCell (p := ⟨tb, 0, none⟩) htb (.string (seen r s))).setCell (p := ⟨tb, 1, none⟩) htb (.string (seen r p))).setCell (p := ⟨tb, 2, none⟩) htb (.string (seen r o)))
        have T3 := Lib.hid (((T2.out.set0 (.string (seen r s))).set1 (.string (seen r p))).set2z (.string (seen r o)))
        clear D2 T2
        go_simp
        clear t0 t1 t2 f0 f1 f2
        clear hHeld
        refine hK.out _ _ ?_ (fun hHeld => ?_)
        · exact HK.out _ D3.out
        clear hK K
        refine wpAnyH_done (by kernel_rfl) ?_ _
        try simp only [Act.put, List.setIfInBounds_toArray, List.set_cons_zero, List.set_cons_succ, List.getElem_toArray, List.getElem_cons_zero, List.getElem_cons_succ]
        clear hHeld
        have TF := T3
        have DF := D3
        clear T3 D3 HK
        generalize (((u2.setCell ⟨tb, 0, none⟩ (.string (seen r s))).setCell ⟨tb, 1, none⟩ (.string (seen r p))).setCell ⟨tb, 2, none⟩ (.string (seen r o))) = wf at TF DF ⊢
      rotate_left
      focus
        go_simp
        clear hHeld
        refine hK.out _ _ ?_ (fun hHeld => ?_)
        · exact HK.out _ (D0.out.alloc D0.out.size _)
        clear hK K
        have D1 := Lib.hid (D0.out.alloc D0.out.size (.cells #[.string ⟨#[]⟩, .string ⟨#[]⟩, .string ⟨#[]⟩] 65))
        have T1 := Lib.hid (Box.new V0 (.string ⟨#[]⟩) (.string ⟨#[]⟩) (.string ⟨#[]⟩) 65)
        obtain ⟨tb, hte⟩ : ∃ t, V0.heap.size = t := ⟨_, rfl⟩
        have htb : V0.heap.size ≤ tb := Nat.le_trans D0.out.size (Nat.le_of_eq hte)
        rw [hte] at T1 ⊢
        clear D0
        generalize V0.alloc (.cells #[.string ⟨#[]⟩, .string ⟨#[]⟩, .string ⟨#[]⟩] 65) = u1 at D1 T1 hHeld ⊢
        clear hte
        refine wpAnyH_ready (rs := [5]) (by kernel_rfl) (by simp) ?_
        refine (AllReadyH.cons rfl (fun K hK => ?_) AllReadyH.nil)
        go_simp
        refine (specFilledBy ra rn rc r s p o _ (P2.out.next D1.out) HAS.out (by omega)).mono ?_
        rintro e u2 ⟨rfl, hb⟩
        have D2 := Lib.hid (D1.out.trans (hb.mono D1.out.size))
        have T2 := Lib.hid (T1.out.next hb)
        clear hb D1 T1
        go_wp2_with fail
        clear hHeld
        refine hK.out _ _ ?_ (fun hHeld => ?_)
        · exact HK.out _ D2.out
        clear hK K
        refine wpAnyH_ready (rs := [7]) (by kernel_rfl) (by simp) ?_
        refine (AllReadyH.cons rfl (fun K hK => ?_) AllReadyH.nil)
        obtain ⟨t0, t1, t2⟩ := T2.out.cells
        obtain ⟨f0, f1, f2⟩ := T2.out.free
        have D3 := Lib.hid (((D2.out.setCell (p := ⟨tb, 0, none⟩) htb (.string (seen r s))).setCell (p := ⟨tb, 1, none⟩) htb (.string (seen r p))).setCell (p := ⟨tb, 2, none⟩) htb (.string (seen r o)))
        have T3 := Lib.hid (((T2.out.set0 (.string (seen r s))).set1 (.string (seen r p))).set2z (.string (seen r o)))
        clear D2 T2
        go_simp
        clear t0 t1 t2 f0 f1 f2
        clear hHeld
        refine hK.out _ _ ?_ (fun hHeld => ?_)
        · exact HK.out _ D3.out
        clear hK K
        refine wpAnyH_done (by kernel_rfl) ?_ _
        try simp only [Act.put, List.setIfInBounds_toArray, List.set_cons_zero, List.set_cons_succ, List.getElem_toArray, List.getElem_cons_zero, List.getElem_cons_succ]
        clear hHeld
        have TF := T3
        have DF := D3
        clear T3 D3 HK
        generalize (((u2.setCell ⟨tb, 0, none⟩ (.string (seen r s))).setCell ⟨tb, 1, none⟩ (.string (seen r p))).setCell ⟨tb, 2, none⟩ (.string (seen r o))) = wf at TF DF ⊢
      all_goals
        clear P2
        clear Y2
        have B3 := Lib.hid (B2.out.trans (DF.out.mono B2.out.size))
        have O3 := Lib.hid (O2.out.next DF.out)
        have X3 := Lib.hid (X2.out.next DF.out)
        have A3 := Lib.hid (A2.out.next DF.out)
        have R3 := Lib.hid (R2.out.next DF.out)
        have T3 := TF
        clear TF DF B2 O2 X2 A2 R2 htb HAS
        unfold seenT at HSN HZT
        obtain ⟨s2, hs2⟩ : ∃ x, seen r s = x := ⟨_, rfl⟩
        obtain ⟨p2, hp2⟩ : ∃ x, seen r p = x := ⟨_, rfl⟩
        obtain ⟨o2, ho2⟩ : ∃ x, seen r o = x := ⟨_, rfl⟩
        dsimp only at HSN HZT
        rw [hs2, hp2, ho2] at HSN HZT T3
        obtain ⟨z1, z2, z3⟩ := HZT.out
        clear hs2 hp2 ho2 HZT
        have HTK : Hid (takes gs (s2, p2, o2) = (triOk s2.data.toList p2.data.toList o2.data.toList && !decide ((s2, p2, o2) ∈ gs))) := Lib.hid rfl
        have CT := Lib.hid (fun W => specTripleOk s2 p2 o2 (by omega) (by omega) (by omega) W)
        cases hto : triOk s2.data.toList p2.data.toList o2.data.toList
        · rw [hto] at CT
          rw [hto] at HTK
          have CT2 := Lib.hid CT.out
          clear CT hto
          obtain ⟨t0, t1, t2⟩ := T3.out.cells
          go_wp2_with fail
          refine (CT2.out _).mono ?_
          rintro e w4 ⟨rfl, hb⟩
          clear t0 t1 t2
          have B4 := Lib.hid (B3.out.trans (hb.mono B3.out.size))
          have O4 := Lib.hid (O3.out.next hb)
          have X4 := Lib.hid (X3.out.next hb)
          have A4 := Lib.hid (A3.out.next hb)
          have R4 := Lib.hid (R3.out.next hb)
          have T4 := Lib.hid (T3.out.next hb)
          clear hb B3 O3 X3 A3 R3 T3
          obtain ⟨t0, t1, t2⟩ := T4.out.cells
          go_wp2_with fail
          clear t0 t1 t2
          go_roundw
          case rel => exact ⟨k + 1, by omega, by go_num, Lib.hid (by rw [HSN.out, HTK.out]; exact O4.out), X4, A4, R4, B4⟩
          case measure => simp [intOf]; omega
        · cases hin : decide ((s2, p2, o2) ∈ gs)
          · rw [hto] at CT
            rw [hto] at HTK
            have CT2 := Lib.hid CT.out
            clear CT hto
            obtain ⟨t0, t1, t2⟩ := T3.out.cells
            go_wp2_with fail
            refine (CT2.out _).mono ?_
            rintro e w4 ⟨rfl, hb⟩
            clear t0 t1 t2
            have B4 := Lib.hid (B3.out.trans (hb.mono B3.out.size))
            have O4 := Lib.hid (O3.out.next hb)
            have X4 := Lib.hid (X3.out.next hb)
            have A4 := Lib.hid (A3.out.next hb)
            have R4 := Lib.hid (R3.out.next hb)
            have T4 := Lib.hid (T3.out.next hb)
            clear hb B3 O3 X3 A3 R3 T3
            have CH := Lib.hid (fun W (h : IsTris W a la ca gs) => specHas2 a la ca gs s2 p2 o2 W h hla)
            simp only [hin] at CH HTK
            clear hin
            obtain ⟨t0, t1, t2⟩ := T4.out.cells
            go_wp2_with fail
            refine (CH.out _ A4.out).mono ?_
            rintro e w5 ⟨rfl, hb⟩
            clear t0 t1 t2
            have B5 := Lib.hid (B4.out.trans (hb.mono B4.out.size))
            have O5 := Lib.hid (O4.out.next hb)
            have X5 := Lib.hid (X4.out.next hb)
            have A5 := Lib.hid (A4.out.next hb)
            have R5 := Lib.hid (R4.out.next hb)
            have T5 := Lib.hid (T4.out.next hb)
            clear hb B4 O4 X4 A4 R4 T4
            obtain ⟨t0, t1, t2⟩ := T5.out.cells
            go_wp2_with fail
            obtain ⟨x2, c2, hv, hi, hpl⟩ := OwnT.plain O5.out HLM.out
            rw [HN.out] at hv hi
            simp only [Value.slice.injEq, true_and] at hv
            obtain ⟨rfl, rfl⟩ := hv
            refine (specPutAny _ _ _ L s2 p2 o2 _ hi hpl (by omega)).mono ?_
            rintro e w6 ⟨v2, rfl, ho, hb⟩
            clear t0 t1 t2
            have B6 := Lib.hid (B5.out.trans (hb.mono B5.out.size))
            have hBn : B ≤ w5.heap.size := by have := B5.out.size; omega
            have O6 := Lib.hid (own_base ho hBn)
            have X6 := Lib.hid (X5.out.next hb)
            have A6 := Lib.hid (A5.out.next hb)
            have R6 := Lib.hid (R5.out.next hb)
            have T6 := Lib.hid (T5.out.next hb)
            clear hb ho hi hpl B5 O5 X5 A5 R5 T5
            obtain ⟨t0, t1, t2⟩ := T6.out.cells
            go_wp2_with fail
            clear t0 t1 t2
            go_roundw
            case rel => exact ⟨k + 1, by omega, by go_num, Lib.hid (by rw [HSN.out, HTK.out]; exact O6.out), X6, A6, R6, B6⟩
            case measure => simp [intOf]; omega
          · rw [hto] at CT
            rw [hto] at HTK
            have CT2 := Lib.hid CT.out
            clear CT hto
            obtain ⟨t0, t1, t2⟩ := T3.out.cells
            go_wp2_with fail
            refine (CT2.out _).mono ?_
            rintro e w4 ⟨rfl, hb⟩
            clear t0 t1 t2
            have B4 := Lib.hid (B3.out.trans (hb.mono B3.out.size))
            have O4 := Lib.hid (O3.out.next hb)
            have X4 := Lib.hid (X3.out.next hb)
            have A4 := Lib.hid (A3.out.next hb)
            have R4 := Lib.hid (R3.out.next hb)
            have T4 := Lib.hid (T3.out.next hb)
            clear hb B3 O3 X3 A3 R3 T3
            have CH := Lib.hid (fun W (h : IsTris W a la ca gs) => specHas2 a la ca gs s2 p2 o2 W h hla)
            simp only [hin] at CH HTK
            clear hin
            obtain ⟨t0, t1, t2⟩ := T4.out.cells
            go_wp2_with fail
            refine (CH.out _ A4.out).mono ?_
            rintro e w5 ⟨rfl, hb⟩
            clear t0 t1 t2
            have B5 := Lib.hid (B4.out.trans (hb.mono B4.out.size))
            have O5 := Lib.hid (O4.out.next hb)
            have X5 := Lib.hid (X4.out.next hb)
            have A5 := Lib.hid (A4.out.next hb)
            have R5 := Lib.hid (R4.out.next hb)
            have T5 := Lib.hid (T4.out.next hb)
            clear hb B4 O4 X4 A4 R4 T4
            obtain ⟨t0, t1, t2⟩ := T5.out.cells
            go_wp2_with fail
            clear t0 t1 t2
            go_roundw
            case rel => exact ⟨k + 1, by omega, by go_num, Lib.hid (by rw [HSN.out, HTK.out]; exact O5.out), X5, A5, R5, B5⟩
            case measure => simp [intOf]; omega
    · obtain rfl : k = lr := by omega
      have HF : Hid (rs.take k = rs) := Lib.hid (List.take_of_length_le (by rw [HRL.out]; exact Nat.le_refl _))
      go_wp2_with fail
      go_ret
      exact ⟨_, rfl, by rw [← HF.out]; exact O1.out, B1.out⟩
end Go.Proofs.YtiajdnhmjdfeeaaGreat
/- Fired: the specification. -/
namespace Go.Proofs.YtiajdnhmjdfeeaaGreat
open Go.RowKit Go.WideShapes Go.Maps
set_option maxRecDepth 100000 in
set_option maxHeartbeats 6400000 in
theorem specFired (a : Option Addr) (la ca : Nat) (gs : List Tri3) (b : Option Addr) (n c : Nat) (ts : List Tri3) (s p o : ByteArray) (w : World) (ha : IsTris w a la ca gs) (h : IsTris w b n c ts) (hga : SmT gs) (hgb : SmT ts) (hl : la ≤ 1048576) (hn : n ≤ 1048576) (hh : s.size ≤ 1048576 ∧ p.size ≤ 1048576 ∧ o.size ≤ 1048576) :
    Calls Tryz.prog 33 #[.slice a la ca, .agg #[.slice b n c, .string s, .string p, .string o]] w (ResPost (firedO gs ts (s, p, o)) w) := by
  have hb0 : Below w.heap.size w (w.alloc (.cells #[.slice b n c, .string s, .string p, .string o] 67)) := (Below.refl w.heap.size w).alloc (Nat.le_refl _) _
  have B0 := Lib.hid hb0
  have X0 := Lib.hid (Box4.new w (.slice b n c) (.string s) (.string p) (.string o) 67)
  have I0 := Lib.hid (h.next hb0)
  have A0 := Lib.hid (ha.next hb0)
  have HH := Lib.hid hh
  have HGA := Lib.hid hga
  have HGB := Lib.hid hgb
  have HLA := Lib.hid ha.len
  have HLB := Lib.hid h.len
  obtain ⟨q, hq⟩ : ∃ q, firedO gs ts (s, p, o) = q := ⟨_, rfl⟩
  have HQ := Lib.hid hq
  rw [hq]
  clear hb0 h ha hga hgb hh hq
  cases hg : graphOk gs
  · have HF : Hid (q = none) := Lib.hid (by rw [← HQ.out]; exact firedO_s (by cases hs : solOk gs ts; rfl; rw [solOk_g hs] at hg; cases hg))
    have Cg := fun (W : World) (hi : IsTris W a la ca gs) => specGraphOk a la ca gs W hi HGA.out.sm
    rw [hg] at Cg
    have HG := Lib.hid Cg
    clear Cg
    clear hg
    go_enter Tryz.func33, Tryz.ntmps33
    obtain ⟨xv0, xv1, xv2, xv3⟩ := X0.out.cells
    go_wp2_with fail
    refine (HG.out _ A0.out).mono ?_
    rintro e w1 ⟨rfl, hb⟩
    clear xv0 xv1 xv2 xv3
    have B1 := Lib.hid (B0.out.trans (hb.mono B0.out.size))
    have X1 := Lib.hid (X0.out.next hb)
    have I1 := Lib.hid (I0.out.next hb)
    have A1 := Lib.hid (A0.out.next hb)
    clear hb B0 X0 I0 A0
    obtain ⟨xv0, xv1, xv2, xv3⟩ := X1.out.cells
    go_wp2_with fail
    go_ret2
    rw [HF.out]
    exact ResPost.no B1.out
  cases hr : ruleOk ts (s, p, o)
  · have HF : Hid (q = none) := Lib.hid (by rw [← HQ.out]; exact firedO_r hr)
    have Cr := fun (W : World) (hi : IsTris W b n c ts) => specRuleOk b n c ts s p o W hi HGB.out.sm hn (by have := HH.out; omega) (by have := HH.out; omega) (by have := HH.out; omega)
    rw [hr] at Cr
    have HR := Lib.hid Cr
    clear Cr
    have Cg := fun (W : World) (hi : IsTris W a la ca gs) => specGraphOk a la ca gs W hi HGA.out.sm
    rw [hg] at Cg
    have HG := Lib.hid Cg
    clear Cg
    clear hr hg
    go_enter Tryz.func33, Tryz.ntmps33
    obtain ⟨xv0, xv1, xv2, xv3⟩ := X0.out.cells
    go_wp2_with fail
    refine (HG.out _ A0.out).mono ?_
    rintro e w1 ⟨rfl, hb⟩
    clear xv0 xv1 xv2 xv3
    have B1 := Lib.hid (B0.out.trans (hb.mono B0.out.size))
    have X1 := Lib.hid (X0.out.next hb)
    have I1 := Lib.hid (I0.out.next hb)
    have A1 := Lib.hid (A0.out.next hb)
    clear hb B0 X0 I0 A0
    obtain ⟨xv0, xv1, xv2, xv3⟩ := X1.out.cells
    go_wp2_with fail
    refine (HR.out _ I1.out).mono ?_
    rintro e w2 ⟨rfl, hb⟩
    clear xv0 xv1 xv2 xv3
    have B2 := Lib.hid (B1.out.trans (hb.mono B1.out.size))
    have X2 := Lib.hid (X1.out.next hb)
    have I2 := Lib.hid (I1.out.next hb)
    have A2 := Lib.hid (A1.out.next hb)
    clear hb B1 X1 I1 A1
    obtain ⟨xv0, xv1, xv2, xv3⟩ := X2.out.cells
    go_wp2_with fail
    go_ret2
    rw [HF.out]
    exact ResPost.no B2.out
  have Cr := fun (W : World) (hi : IsTris W b n c ts) => specRuleOk b n c ts s p o W hi HGB.out.sm hn (by have := HH.out; omega) (by have := HH.out; omega) (by have := HH.out; omega)
  rw [hr] at Cr
  have HR := Lib.hid Cr
  clear Cr
  have HBG := Lib.hid (ruleOk_bgp hr)
  obtain ⟨rs, hrs⟩ : ∃ q, solR gs ts = q := ⟨_, rfl⟩
  have HRS := Lib.hid hrs
  have HSM : Hid (SmR rs) := Lib.hid (by rw [← hrs]; exact solR_sm HGA.out HGB.out)
  have HRL : Hid (rs.length ≤ 300) := Lib.hid (by rw [← hrs]; exact solR_len)
  have Cg := fun (W : World) (hi : IsTris W a la ca gs) => specGraphOk a la ca gs W hi HGA.out.sm
  rw [hg] at Cg
  have HG := Lib.hid Cg
  clear Cg
  obtain ⟨e1, e2⟩ := solOk_yes (gs := gs) (ls := ts) (by rw [hg, HBG.out]; rfl)
  have Cs := fun (W : World) (hx : IsTris W a la ca gs) (hy : IsTris W b n c ts) => specSolve a b none la ca n c 0 0 gs ts [] W hx hy (isPres_nil W) (by rw [← HLA.out]; exact (graphOk_iff.1 hg).1) (by rw [← HLB.out]; exact (bgpOk_iff.1 HBG.out).1) (by omega) HGA.out HGB.out (fun u hu => by simp at hu)
  unfold SolvePost at Cs
  rw [← e1, ← e2, hrs] at Cs
  clear e1 e2
  clear hrs
  cases hs : solOk gs ts
  · have HF : Hid (q = none) := Lib.hid (by rw [← HQ.out]; exact firedO_s hs)
    rw [hs] at Cs
    have HS := Lib.hid Cs
    clear Cs hs hr hg
    go_enter Tryz.func33, Tryz.ntmps33
    obtain ⟨xv0, xv1, xv2, xv3⟩ := X0.out.cells
    go_wp2_with fail
    refine (HG.out _ A0.out).mono ?_
    rintro e w1 ⟨rfl, hb⟩
    clear xv0 xv1 xv2 xv3
    have B1 := Lib.hid (B0.out.trans (hb.mono B0.out.size))
    have X1 := Lib.hid (X0.out.next hb)
    have I1 := Lib.hid (I0.out.next hb)
    have A1 := Lib.hid (A0.out.next hb)
    clear hb B0 X0 I0 A0
    obtain ⟨xv0, xv1, xv2, xv3⟩ := X1.out.cells
    go_wp2_with fail
    refine (HR.out _ I1.out).mono ?_
    rintro e w2 ⟨rfl, hb⟩
    clear xv0 xv1 xv2 xv3
    have B2 := Lib.hid (B1.out.trans (hb.mono B1.out.size))
    have X2 := Lib.hid (X1.out.next hb)
    have I2 := Lib.hid (I1.out.next hb)
    have A2 := Lib.hid (A1.out.next hb)
    clear hb B1 X1 I1 A1
    obtain ⟨xv0, xv1, xv2, xv3⟩ := X2.out.cells
    go_wp2_with fail
    refine (HS.out _ A2.out I2.out).mono ?_
    rintro e w3 ⟨rx, rn, rc, rfl, ri, hb⟩
    clear xv0 xv1 xv2 xv3
    have B3 := Lib.hid (B2.out.trans (hb.mono B2.out.size))
    have X3 := Lib.hid (X2.out.next hb)
    have I3 := Lib.hid (I2.out.next hb)
    have A3 := Lib.hid (A2.out.next hb)
    clear hb B2 X2 I2 A2
    clear ri
    obtain ⟨xv0, xv1, xv2, xv3⟩ := X3.out.cells
    go_wp2_with fail
    go_ret2
    rw [HF.out]
    exact ResPost.no B3.out
  · have HF : Hid (q = some (headsL gs (s, p, o) rs)) := Lib.hid (by rw [← HQ.out, ← HRS.out]; exact firedO_y hr hs)
    have HOK : Hid (∀ r ∈ rs, rowOk r = true) := Lib.hid (by rw [← HRS.out]; exact solR_rowOk hs)
    have HL8 : Hid (la ≤ 80) := Lib.hid (by rw [← HLA.out]; exact (graphOk_iff.1 (solOk_g hs)).1)
    rw [hs] at Cs
    have HS := Lib.hid Cs
    clear Cs hs hr hg
    go_enter Tryz.func33, Tryz.ntmps33
    obtain ⟨xv0, xv1, xv2, xv3⟩ := X0.out.cells
    go_wp2_with fail
    refine (HG.out _ A0.out).mono ?_
    rintro e w1 ⟨rfl, hb⟩
    clear xv0 xv1 xv2 xv3
    have B1 := Lib.hid (B0.out.trans (hb.mono B0.out.size))
    have X1 := Lib.hid (X0.out.next hb)
    have I1 := Lib.hid (I0.out.next hb)
    have A1 := Lib.hid (A0.out.next hb)
    clear hb B0 X0 I0 A0
    obtain ⟨xv0, xv1, xv2, xv3⟩ := X1.out.cells
    go_wp2_with fail
    refine (HR.out _ I1.out).mono ?_
    rintro e w2 ⟨rfl, hb⟩
    clear xv0 xv1 xv2 xv3
    have B2 := Lib.hid (B1.out.trans (hb.mono B1.out.size))
    have X2 := Lib.hid (X1.out.next hb)
    have I2 := Lib.hid (I1.out.next hb)
    have A2 := Lib.hid (A1.out.next hb)
    clear hb B1 X1 I1 A1
    obtain ⟨xv0, xv1, xv2, xv3⟩ := X2.out.cells
    go_wp2_with fail
    refine (HS.out _ A2.out I2.out).mono ?_
    rintro e w3 ⟨rx, rn, rc, rfl, ri, hb⟩
    clear xv0 xv1 xv2 xv3
    have B3 := Lib.hid (B2.out.trans (hb.mono B2.out.size))
    have X3 := Lib.hid (X2.out.next hb)
    have I3 := Lib.hid (I2.out.next hb)
    have A3 := Lib.hid (A2.out.next hb)
    clear hb B2 X2 I2 A2
    have hrl : rn ≤ 300 := by rw [← ri.len]; exact HRL.out
    have Y3 := Lib.hid ri
    clear ri
    have hb : Below w3.heap.size w3 (w3.alloc (.cells #[] 65)) := (Below.refl _ _).alloc (Nat.le_refl _) _
    have O4 : Hid (OwnT w3.heap.size (w3.alloc (.cells #[] 65)) (.slice (some ⟨w3.heap.size, 0, none⟩) 0 0) []) := Lib.hid (World.ownsRow_lit (size := 3) (e := 65) w3 #[] 0 (Nat.le_refl _) (by decide) rfl)
    have AA := Lib.hid (A3.out.next hb)
    have YY := Lib.hid (Y3.out.next hb)
    have BB := Lib.hid (B3.out.alloc B3.out.size (.cells #[] 65))
    have hwz : w.heap.size ≤ w3.heap.size := B3.out.size
    have hwy : w3.heap.size ≤ (w3.alloc (.cells #[] 65)).heap.size := hb.size
    clear hb
    obtain ⟨xv0, xv1, xv2, xv3⟩ := X3.out.cells
    go_wp2_with fail
    refine (specHeads w3.heap.size a la ca gs rx rn rc rs s p o _ _ AA.out YY.out O4.out hwy HOK.out HSM.out hrl (by omega) HH.out).mono ?_
    rintro e wz ⟨v, rfl, ho, hb⟩
    clear xv0 xv1 xv2 xv3
    have BZ := Lib.hid (BB.out.trans (hb.mono BB.out.size))
    have HO := Lib.hid (own_base ho hwz)
    clear hb ho hwy
    go_wp2_with fail
    go_ret2
    rw [HF.out]
    exact ResPost.yes HO.out BZ.out
end Go.Proofs.YtiajdnhmjdfeeaaGreat
/- What a rule makes of rows: the program. -/
namespace Go.Proofs.YtiajdnhmjdfeeaaGreat
open Go.RowKit Go.WideShapes Go.Maps
section
variable {ops : Array Oper} {Q : Exit → Act → World → Prop} {rest : List Oper} {o : Oper} {a : Act} {w : World}
/-- A look into a set of triples, behind a guard that lets it through. -/
theorem wpList_lookGW (hg : Region.wanted o (yielded ops a.tmps) = true) (m x : Operand) (hop : o.op = Op.lookup 158 m x false) (b n : Nat) (ts : List Tri3) (hm : a.eval m = .map (some b)) (h : OwnSet w b n ts) (t : Tri3) (ht : SmK t)
    (hx : a.eval x = strT t) (hz : (zeroValue 4).run Tryz.prog w = .ok (.bool false) w) (hK : wpList Tryz.prog ops Q rest (a.put o.dst (.bool (decide (t ∈ ts)))) w) : wpList Tryz.prog ops Q (o :: rest) a w := by
  obtain ⟨D, hown, hD⟩ := h
  obtain ⟨f0, f1, f2, S⟩ := keyTri
  refine wpList_step fun K' hK' => ?_
  rw [if_pos hg]
  obtain ⟨v, ps, hrun, hv⟩ := hown.lookup lawTri Tryz.underlying158 hz (plainElem_bool Tryz.underlying4 false) (S.of ht)
  rw [hD.look S lawTri ht] at hv
  obtain ⟨y, rfl, e⟩ := bool_elem_inv Tryz.underlying4 hv
  simp only [DataW.lit.injEq, Lit.bool.injEq] at e
  subst e
  unfold Oper.wp
  simp [execOp, hop, hm, hx, hrun, Result.andThen]
  exact hK' _ _ hK
end
theorem zeroBoolF (w : World) : (zeroValue 4).run Tryz.prog w = .ok (.bool false) w := by kernel_rfl
theorem allT_oneF (a : Option Addr) (len cap : Nat) (ts : List Tri3) : allT [(a, len, cap, ts)] = ts := by simp [allT]
/-- A slice put into a variadic call's own row becomes a set. -/
theorem implSetF (B : Nat) (a : Option Addr) (len cap : Nat) (ts : List Tri3) (w : World) (hB : B < w.heap.size) (hc : w.cell? ⟨B, 0, none⟩ = some (.slice a len cap)) (h : IsTris w a len cap ts) (hl : len ≤ 1000) :
    Calls Tryz.prog 135 #[.slice (some ⟨B, 0, none⟩) 1 1] w fun e w' => ∃ b m us, e = .returned (.map (some b)) ∧ w.heap.size ≤ b ∧ OwnSet w' b m us ∧ (∀ t, t ∈ us ↔ t ∈ ts) ∧ Below w.heap.size w w' := by
  have T := implTripleSet B 1 [(a, len, cap, ts)] w rfl hB (by omega) (by rw [allT_oneF]; have := h.len; omega) (fun i x hx => by
    match i, hx with
    | 0, hx =>
      simp at hx; subst hx
      exact ⟨hc, h⟩)
  rw [allT_oneF] at T
  exact T.mono fun e w' ⟨b, m, he, hb, _, ho, hbl⟩ => ⟨b, m, _, he, hb, ho, fun t => by rw [addAll_mem]; simp, hbl⟩
set_option maxRecDepth 100000 in
set_option maxHeartbeats 3200000 in
theorem implHeadBy (b : Option Addr) (n c : Nat) (s p o : ByteArray) (ra : Option Addr) (rn rc : Nat) (r : RowV) (w : World) (h : IsPres w ra rn rc r) (hok : rowOk r = true) (hsm : SmP r) (hl : rn ≤ 1048576) :
    Calls Tryz.prog 91 #[.agg #[.slice b n c, .string s, .string p, .string o], .slice ra rn rc] w fun e w' => e = .returned (.agg #[.string (seen r s), .string (seen r p), .string (seen r o)]) ∧ Below w.heap.size w w' := by
  obtain ⟨W1, hW1⟩ : ∃ W, w.alloc (.cells #[.slice b n c, .string s, .string p, .string o] 67) = W := ⟨_, rfl⟩
  obtain ⟨W2, hW2⟩ : ∃ W, W1.alloc (.cells #[.string ⟨#[]⟩, .string ⟨#[]⟩, .string ⟨#[]⟩] 65) = W := ⟨_, rfl⟩
  have z1 : W1.heap.size = w.heap.size + 1 := by rw [← hW1]; simp
  have B2 : Below w.heap.size w W2 := by rw [← hW2, ← hW1]; exact ((Below.refl w.heap.size w).alloc (Nat.le_refl _) _).alloc (by simp) _
  have g0 : Box4 W2 w.heap.size (.slice b n c) (.string s) (.string p) (.string o) 67 := by rw [← hW2, ← hW1]; exact (Box4.new w _ _ _ _ _).alloc _
  have g1 : Box W2 (w.heap.size + 1) (.string ⟨#[]⟩) (.string ⟨#[]⟩) (.string ⟨#[]⟩) 65 := by
    rw [← hW2, ← z1]; exact Box.new W1 _ _ _ _
  have C := implFilled ra rn rc r s p o W2 (h.next B2) hsm hl
  unfold filledV at C
  rw [hok] at C
  have HC := Lib.hid C
  have G1 := Lib.hid g1
  have BB := Lib.hid B2
  obtain ⟨c0, c1, c2, c3⟩ := g0.cells
  clear h hok hsm C g0 g1 B2 z1
  subst hW2
  subst hW1
  go_enter Tryz.func91, Tryz.ntmps91
  go_wp2_with fail
  refine HC.out.mono ?_
  rintro e w2 ⟨rfl, hb2⟩
  have g2 := G1.out.next hb2
  obtain ⟨a0, a1, a2⟩ := g2.cells
  obtain ⟨f0, f1, f2⟩ := g2.free
  have B2 := Lib.hid (BB.out.trans (hb2.mono BB.out.size))
  clear hb2 g2 c0 c1 c2 c3
  go_wp2_with fail
  refine bodyPost_ret (v := .agg #[.string (seen r s), .string (seen r p), .string (seen r o)]) (by simp [results, Tryz.results91, go_sem, *]) rfl ⟨rfl, below_set3 B2.out (w.heap.size + 1) (Nat.le_succ _) _ _ _⟩
set_option maxRecDepth 100000 in
set_option maxHeartbeats 6400000 in
theorem implMadeBy (a : Option Addr) (la ca : Nat) (gs : List Tri3) (x : Option Addr) (lr cr : Nat) (rs : List RowV) (b : Option Addr) (n c : Nat) (s p o : ByteArray) (w : World) (ha : IsTris w a la ca gs) (hr : IsRows w x lr cr rs) (hok : ∀ r ∈ rs, rowOk r = true) (hsr : SmR rs) (hlr : lr ≤ 300) (hla : la ≤ 1000) (hh : s.size ≤ 1048576 ∧ p.size ≤ 1048576 ∧ o.size ≤ 1048576) :
    Calls Tryz.prog 90 #[.slice a la ca, .slice x lr cr, .func (.func 91) #[.agg #[.slice b n c, .string s, .string p, .string o]] #[]] w fun e w' => ∃ v, e = .returned v ∧ OwnT w.heap.size w' v (headsL gs (s, p, o) rs) ∧ Below w.heap.size w w' := by
  have HA := Lib.hid ha
  have HR := Lib.hid hr
  have HRL := Lib.hid hr.len
  have HOK := Lib.hid hok
  have HSR := Lib.hid hsr
  have HH := Lib.hid hh
  have HZ := Lib.hid zeroBoolF
  have hmm := @run_makeMap Tryz.prog
  have hb0 : Below w.heap.size w (w.alloc (.cells #[.slice a la ca] 31)) := (Below.refl w.heap.size w).alloc (Nat.le_refl _) _
  have B0 := Lib.hid hb0
  have CS := Lib.hid (implSetF w.heap.size a la ca gs _ (by simp) (by simp) (ha.next hb0) hla)
  clear hb0 ha hr hok hsr hh
  go_enter Tryz.func90, Tryz.ntmps90
  go_wp2_with fail
  refine CS.out.mono ?_
  rintro e w1 ⟨q, m, us, rfl, hq, ho, hmem, hb⟩
  have B1 := Lib.hid (B0.out.trans (hb.mono B0.out.size))
  have B2 := Lib.hid (B1.out.alloc B1.out.size (.map #[] 0))
  have S2 := Lib.hid (ho.alloc (.map #[] 0))
  have hql := ho.lt
  have M2 := Lib.hid (OwnSet.made w1)
  have HM := Lib.hid hmem
  have hw1 : w.heap.size ≤ w1.heap.size := B1.out.size
  clear ho hb hmem B0 B1 CS hq
  go_wp2_with fail
  clear hmm
  generalize w1.heap.size = g at hql hw1 M2 ⊢
  go_loopw [18] (fun i wr => ∃ k : Nat, k ≤ lr ∧ i = .int .i64 k ∧ Hid (∃ mm, mm ≤ k ∧ OwnSet wr g mm (freshL gs (s, p, o) (rs.take k))) ∧ Hid (OwnSet wr q m us) ∧ Hid (Below w.heap.size w wr)) (fun i _ => lr - (intOf i).toNat)
  case atStart => exact ⟨0, Nat.zero_le _, rfl, Lib.hid ⟨0, Nat.le_refl _, by simpa [freshL, addAll] using M2.out⟩, S2, B2⟩
  case round =>
    obtain ⟨k, hk, rfl, M3, S3, B3⟩ := hrel
    clear M2 S2 B2
    have hk6 : (0 : Int) ≤ (k : Int) := by omega
    by_cases hlt : k < lr
    · have hk7 : (k : Int) < (lr : Int) := by omega
      obtain ⟨rb, off, rfl, hb, _, _, hts, hc⟩ := HR.out.cells (by omega)
      have ht : rs[k]? = some (rs[k]'(by omega)) := List.getElem?_eq_getElem (by omega)
      obtain ⟨ra, rn, rc, c0, hp⟩ := hc k _ ht
      have hmr : rs[k]'(by omega) ∈ rs := List.getElem_mem _
      have HSN0 := freshL_snoc gs (s, p, o) (rs.take k) (rs[k]'(by omega))
      rw [← List.take_succ_eq_append_getElem (by omega)] at HSN0
      generalize rs[k]'(by omega) = r at ht c0 hp hmr HSN0
      rw [← B3.out.cell (p := ⟨rb, _, none⟩) hb] at c0
      have hro := HOK.out r hmr
      have hrs := HSR.out r hmr
      have hrn : rn ≤ 12 := by have := rowOk_most hro; have := hp.len; omega
      have HZT := Lib.hid (seenT_sz (h := (s, p, o)) hrs HH.out)
      have CH := Lib.hid (fun (W : World) (hW : Below w.heap.size w W) => implHeadBy b n c s p o ra rn rc r W (hp.next hW) hro hrs (by omega))
      obtain ⟨L, hL⟩ : ∃ L, freshL gs (s, p, o) (rs.take k) = L := ⟨_, rfl⟩
      rw [hL] at M3 HSN0
      have HSN := Lib.hid HSN0
      clear HSN0 hL hmr hro hrs ht hts hc hp
      go_wp2_with fail
      refine (CH.out _ B3.out).mono ?_
      rintro e w4 ⟨rfl, hb4⟩
      clear c0
      unfold seenT at HSN HZT
      obtain ⟨s2, hs2⟩ : ∃ y, seen r s = y := ⟨_, rfl⟩
      obtain ⟨p2, hp2⟩ : ∃ y, seen r p = y := ⟨_, rfl⟩
      obtain ⟨o2, ho2⟩ : ∃ y, seen r o = y := ⟨_, rfl⟩
      dsimp only at HSN HZT
      rw [hs2, hp2, ho2] at HSN HZT ⊢
      obtain ⟨z1, z2, z3⟩ := HZT.out
      clear hs2 hp2 ho2 HZT
      obtain ⟨mm, hmk, hM⟩ := M3.out
      have M5 := Lib.hid ((hM.next hb4).alloc (.cells #[.string s2, .string p2, .string o2] 65))
      have S5 := Lib.hid ((S3.out.next hb4).alloc (.cells #[.string s2, .string p2, .string o2] 65))
      have B4 := B3.out.trans (hb4.mono B3.out.size)
      have B5 := Lib.hid (B4.alloc B4.size (.cells #[.string s2, .string p2, .string o2] 65))
      have T5 := Lib.hid (Box.new w4 (.string s2) (.string p2) (.string o2) 65)
      have HTK : Hid (takes gs (s2, p2, o2) = (triOk s2.data.toList p2.data.toList o2.data.toList && !decide ((s2, p2, o2) ∈ gs))) := Lib.hid rfl
      have CT := Lib.hid (fun W => implTripleOk s2 p2 o2 (by omega) (by omega) (by omega) W)
      have hsk : SmK (s2, p2, o2) := by unfold SmK maxLen; exact ⟨Nat.le_trans z1 (by decide), Nat.le_trans z2 (by decide), Nat.le_trans z3 (by decide)⟩
      clear hM M3 S3 B3 B4 hb4 CH
      obtain ⟨t0, t1, t2⟩ := T5.out.cells
      cases hto : triOk s2.data.toList p2.data.toList o2.data.toList
      · rw [hto] at CT HTK
        have CT2 := Lib.hid CT.out
        clear CT hto
        go_wp2_with fail
        refine (CT2.out _).mono ?_
        rintro e w6 ⟨rfl, hb6⟩
        have M6 := Lib.hid (M5.out.next hb6)
        have S6 := Lib.hid (S5.out.next hb6)
        have B6 := Lib.hid (B5.out.trans (hb6.mono B5.out.size))
        clear hb6 M5 S5 B5 T5 t0 t1 t2
        go_wp2_with fail
        go_roundw
        case rel => exact ⟨k + 1, by omega, by go_num, Lib.hid ⟨mm, by omega, by rw [HSN.out, HTK.out]; exact M6.out⟩, S6, B6⟩
        case measure => simp [intOf]; omega
      · rw [hto] at CT HTK
        have CT2 := Lib.hid CT.out
        clear CT hto
        go_wp2_with fail
        refine (CT2.out _).mono ?_
        rintro e w6 ⟨rfl, hb6⟩
        have M6 := Lib.hid (M5.out.next hb6)
        have S6 := Lib.hid (S5.out.next hb6)
        have B6 := Lib.hid (B5.out.trans (hb6.mono B5.out.size))
        have T6 := Lib.hid (T5.out.next hb6)
        have HMI : Hid (decide ((s2, p2, o2) ∈ us) = decide ((s2, p2, o2) ∈ gs)) := Lib.hid (by rw [decide_eq_decide]; exact HM.out _)
        clear hb6 M5 S5 B5 T5 t0 t1 t2
        obtain ⟨t0, t1, t2⟩ := T6.out.cells
        cases hin : decide ((s2, p2, o2) ∈ gs)
        · simp only [hin] at HTK HMI
          have hml : mm < maxLen := by unfold maxLen; omega
          clear hin
          go_wp2_with (first
            | (at_lookup; refine wpList_lookGW (by rfl) _ _ rfl q m us rfl S6.out (s2, p2, o2) hsk rfl (HZ.out _) ?_; rw [HMI.out])
            | (at_mapUpdate; refine wpList_put _ rfl _ _ _ rfl g mm L rfl M6.out hml (s2, p2, o2) hsk rfl rfl ?_))
          intro w7 hM7 hg7
          have M7 := Lib.hid hM7
          have hgq : g < w6.heap.size := M6.out.lt
          have S7 := Lib.hid (S6.out.kept hg7 (by simp; omega))
          have B7 := Lib.hid (B6.out.grown hg7 B6.out.size (fun r e => by cases e; exact hw1))
          clear hM7 hg7 M6 S6 B6 T6 t0 t1 t2
          go_wp2_with fail
          go_roundw
          case rel => exact ⟨k + 1, by omega, by go_num, Lib.hid ⟨mm + 1, by omega, by rw [HSN.out, HTK.out]; exact M7.out⟩, S7, B7⟩
          case measure => simp [intOf]; omega
        · simp only [hin] at HTK HMI
          clear hin
          go_wp2_with (at_lookup; refine wpList_lookGW (by rfl) _ _ rfl q m us rfl S6.out (s2, p2, o2) hsk rfl (HZ.out _) ?_; rw [HMI.out])
          go_wp2_with fail
          clear t0 t1 t2
          go_roundw
          case rel => exact ⟨k + 1, by omega, by go_num, Lib.hid ⟨mm, by omega, by rw [HSN.out, HTK.out]; exact M6.out⟩, S6, B6⟩
          case measure => simp [intOf]; omega
    · obtain rfl : k = lr := by omega
      have HF : Hid (rs.take k = rs) := Lib.hid (List.take_of_length_le (by rw [HRL.out]; exact Nat.le_refl _))
      obtain ⟨mm, hmk, hM⟩ := M3.out
      have hfl := freshL_len gs (s, p, o) (rs.take k)
      have CO := Lib.hid (implInOrder g mm _ wr hM (by rw [List.length_take] at hfl; omega))
      clear hM hfl
      go_wp2_with fail
      refine CO.out.mono ?_
      rintro e wz ⟨v, rfl, ho, hb⟩
      have HO := Lib.hid (own_base ho B3.out.size)
      have BZ := Lib.hid (B3.out.trans (hb.mono B3.out.size))
      clear ho hb CO
      go_wp2_with fail
      go_ret
      exact ⟨v, rfl, by rw [← sort_fresh, ← HF.out]; rw [HF.out]; have := HO.out; rw [HF.out] at this; exact this, BZ.out⟩
end Go.Proofs.YtiajdnhmjdfeeaaGreat
