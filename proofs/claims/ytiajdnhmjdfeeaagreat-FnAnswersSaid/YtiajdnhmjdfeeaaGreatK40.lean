/- Rows that are extended: the specification's way.; What a query's answer is: plain facts.; Rows projected: the specification's own walk. -/
import Derived.Test.YtiajdnhmjdfeeaaGreatK39
import Derived.Test.YtiajdnhmjdfeeaaGreatK35
import Derived.Test.YtiajdnhmjdfeeaaGreatK27
import Derived.Test.YtiajdnhmjdfeeaaGreatK14
import Derived.Test.YtiajdnhmjdfeeaaGreatK37
import Derived.Test.YtiajdnhmjdfeeaaGreatK30
import Derived.Test.YtiajdnhmjdfeeaaGreatK07
namespace Go.Proofs.YtiajdnhmjdfeeaaGreat
open Go.RowKit Go.WideShapes Go.Maps Go.Sort Go.Shelf
/-- What one right row gives, the specification's way, is short, too. -/
theorem more_smallS {gs ls : List Tri3} (hg : graphOk gs = true) (hl : bgpOk ls = true) (hga : SmT gs) (hgb : SmT ls) {r : RowV} (hr : rowOk r = true) (hs : SmP r) : ∀ M, moreS gs ls r = some M → ∀ m ∈ M, SmP m ∧ m.length ≤ 24 := by
  intro M hM m hm
  obtain ⟨h1, h2⟩ := more_same hg hl hr
  rw [hM] at h1
  cases hC : moreC gs ls r with
  | none => rw [hC] at h1; cases h1
  | some C =>
    have := (more_small hg hl hga hgb hr hs C hC).2 m ((h2 M C hM hC m).1 hm)
    exact ⟨this.1, this.2.1⟩
theorem solveM_len {g : List Tri3} : ∀ (l : List Tri3) (rows R : List RowV), rows.length ≤ 300 → solveM g l rows = some R → R.length ≤ 300
  | [], rows, R, hr, e => by
    unfold solveM at e
    cases e
    exact hr
  | p :: l, rows, R, hr, e => by
    unfold solveM at e
    by_cases hc : (addAllR [] (joinM g p rows)).length ≤ 300
    · rw [if_pos hc] at e
      exact solveM_len l _ R hc e
    · rw [if_neg hc] at e
      cases e
def ExtPost (gs : List Tri3) (rs : List RowV) (ls : List Tri3) (w : World) (e : Ending) (w' : World) : Prop :=
  ∃ x n c, e = .returned (.tuple #[.slice x n c, .bool (extOk gs rs ls)]) ∧ IsRows w' x n c (extR gs rs ls) ∧ Below w.heap.size w w'
set_option maxRecDepth 100000 in
set_option maxHeartbeats 6400000 in
theorem specExtended (a b c : Option Addr) (la ca lr cr lb cb : Nat) (gs : List Tri3) (rs : List RowV) (ls : List Tri3) (w : World) (ha : IsTris w a la ca gs) (hr : IsRows w b lr cr rs) (hb : IsTris w c lb cb ls) (hga : SmT gs) (hsr : SmR rs) (hgb : SmT ls) :
    Calls Tryz.prog 49 #[.slice a la ca, .slice b lr cr, .slice c lb cb] w (ExtPost gs rs ls w) := by
  have A1 := specGraphOk a la ca gs w ha hga.sm
  cases hg : graphOk gs
  · have HS : Hid (extOk gs rs ls = false) := Lib.hid (by unfold extOk; rw [hg]; rfl)
    rw [hg] at A1
    have C1 := Lib.hid A1
    clear A1 hg ha hb hga hgb hr hsr
    go_enter Tryz.func49, Tryz.ntmps49
    go_wp2_with fail
    refine C1.out.mono ?_
    rintro e w1 ⟨rfl, hb1⟩
    go_wp2_with fail
    go_ret2
    exact ⟨none, 0, 0, by rw [HS.out]; rfl, by rw [extR_no HS.out]; exact isRows_nil _, hb1⟩
  rw [hg] at A1
  have C1 := Lib.hid A1
  have A2 := fun W (h : Below w.heap.size w W) => specRowsOk b lr cr rs W (hr.next h) hsr
  cases hq : rowsOkL rs
  · have HS : Hid (extOk gs rs ls = false) := Lib.hid (by unfold extOk; rw [hg, hq]; rfl)
    rw [hq] at A2
    have C2 := Lib.hid A2
    clear A1 A2 hg hq ha hb hga hgb hr hsr
    go_enter Tryz.func49, Tryz.ntmps49
    go_wp2_with fail
    refine C1.out.mono ?_
    rintro e w1 ⟨rfl, hb1⟩
    go_wp2_with fail
    refine (C2.out _ (by first | exact hb1 | exact hb1.drew)).mono ?_
    rintro e w2 ⟨rfl, hb2⟩
    go_wp2_with fail
    go_ret2
    exact ⟨none, 0, 0, by rw [HS.out]; rfl, by rw [extR_no HS.out]; exact isRows_nil _, hb1.trans (hb2.mono hb1.size)⟩
  rw [hq] at A2
  have C2 := Lib.hid A2
  have A3 := fun W (h : Below w.heap.size w W) => specBgpOk c lb cb ls W (hb.next h) hgb.sm
  cases hl : bgpOk ls
  · have HS : Hid (extOk gs rs ls = false) := Lib.hid (by unfold extOk; rw [hg, hq, hl]; rfl)
    rw [hl] at A3
    have C3 := Lib.hid A3
    clear A1 A2 A3 hg hq hl ha hb hga hgb hr hsr
    go_enter Tryz.func49, Tryz.ntmps49
    go_wp2_with fail
    refine C1.out.mono ?_
    rintro e w1 ⟨rfl, hb1⟩
    go_wp2_with fail
    refine (C2.out _ (by first | exact hb1 | exact hb1.drew)).mono ?_
    rintro e w2 ⟨rfl, hb2⟩
    have B2 := hb1.trans (hb2.mono hb1.size)
    clear hb1 hb2
    go_wp2_with fail
    refine (C3.out _ (by first | exact B2 | exact B2.drew)).mono ?_
    rintro e w3 ⟨rfl, hb3⟩
    go_wp2_with fail
    go_ret2
    exact ⟨none, 0, 0, by rw [HS.out]; rfl, by rw [extR_no HS.out]; exact isRows_nil _, B2.trans (hb3.mono B2.size)⟩
  rw [hl] at A3
  have C3 := Lib.hid A3
  have HOK : Hid (extOk gs rs ls = finX (extA gs rs ls)) := Lib.hid (by unfold extOk; rw [hg, hq, hl]; rfl)
  have hrok : ∀ r ∈ rs, rowOk r = true := by
    unfold rowsOkL at hq
    simp only [Bool.and_eq_true, List.all_eq_true] at hq
    exact hq.2
  have HROK := Lib.hid hrok
  have hla := (graphOk_iff.1 hg).1
  have hlb := (bgpOk_iff.1 hl).1
  rw [ha.len] at hla
  rw [hb.len] at hlb
  have hlr : lr ≤ 300 := by have := rowsOk_most hq; rw [hr.len] at this; exact this
  have HRL := Lib.hid hr.len
  have HR := Lib.hid hr
  have HMS := Lib.hid (fun r (h : r ∈ rs) => more_smallS hg hl hga hgb (hrok r h) (hsr r h))
  have CC := Lib.hid (fun (s : Option Addr) (sn sc : Nat) (r : RowV) (hm : r ∈ rs) W (h : Below w.heap.size w W) (hs : IsPres W s sn sc r) (hsn : sn ≤ 12) => specSolve a c s la ca lb cb sn sc gs ls r W (ha.next h) (hb.next h) hs hla hlb hsn hga hgb (hsr r hm))
  clear A1 A2 A3 hg hq hl ha hb hga hgb hr hsr hrok
  go_enter Tryz.func49, Tryz.ntmps49
  go_wp2_with fail
  refine C1.out.mono ?_
  rintro e w1 ⟨rfl, hb1⟩
  go_wp2_with fail
  refine (C2.out _ (by first | exact hb1 | exact hb1.drew)).mono ?_
  rintro e w2 ⟨rfl, hb2⟩
  have B2 := hb1.trans (hb2.mono hb1.size)
  clear hb1 hb2 C1 C2
  go_wp2_with fail
  refine (C3.out _ (by first | exact B2 | exact B2.drew)).mono ?_
  rintro e w3 ⟨rfl, hb3⟩
  have B3 : Below w.heap.size w w3 := by first | exact B2.trans (hb3.mono B2.size) | exact B2.drew.trans (hb3.mono B2.size)
  have O0 : OutI w.heap.size (w3.alloc (.cells #[] 50)) (.slice (some ⟨w3.heap.size, 0, none⟩) 0 0) [] [] := ⟨World.ownsRow_lit (size := 1) (e := 50) w3 #[] 0 B3.size (by decide) rfl, rfl, by simp⟩
  have HO0 := Lib.hid O0
  have B4 := B3.alloc B3.size (.cells #[] 50)
  clear O0 hb3 B2 B3 C3
  go_wp2_with fail
  go_loopw [8, 9] (fun v i wr => ∃ k g n c : Nat, k ≤ lr ∧ i = .int .i64 k ∧ v = .slice (some ⟨g, 0, none⟩) n c ∧ n ≤ 300 ∧ (∃ (A : List RowV) (us : List Value), Hid (allX (moreS gs ls) (rs.take k) = some A ∧ A.all rowOk = true ∧ (∀ m ∈ A, SmP m ∧ m.length ≤ 24) ∧ OutI w.heap.size wr (.slice (some ⟨g, 0, none⟩) n c) (addAllR [] A) us ∧ (addAllR [] A).length = n)) ∧ Below w.heap.size w wr) (fun _ i _ => lr - (intOf i).toNat)
  case atStart => exact ⟨0, _, 0, 0, Nat.zero_le _, rfl, rfl, by omega, ⟨[], [], Lib.hid ⟨rfl, rfl, by simp, by simpa [addAllR] using HO0.out, by simp [addAllR]⟩⟩, B4⟩
  case round =>
    obtain ⟨k, g, n, c, hk, rfl, rfl, hn, ⟨A, us, HU⟩, hnx⟩ := hrel
    clear HO0 B4
    by_cases hlt : k < lr
    · obtain ⟨bb, off, rfl, hbb, _, _, hts, hcs⟩ := HR.out.cells (by omega)
      have ht : rs[k]? = some (rs[k]'(by have := HRL.out; omega)) := List.getElem?_eq_getElem (by have := HRL.out; omega)
      obtain ⟨a1, n1, c1, c0, hz⟩ := hcs k _ ht
      have HC0 := Lib.hid c0
      rw [← hnx.cell (p := ⟨bb, _, none⟩) hbb] at c0
      have hm := List.mem_of_getElem? ht
      generalize rs[k]'(by have := HRL.out; omega) = r at ht hz hm
      have hn1 : n1 ≤ 12 := by have := rowOk_most (HROK.out r hm); have := hz.len; omega
      have HZ := Lib.hid hz
      have HT := Lib.hid ht
      have HM := Lib.hid hm
      have hk6 : (0 : Int) ≤ (k : Int) := by omega
      have hk7 : (k : Int) < (lr : Int) := by omega
      have CK := Lib.hid (fun W (h : Below w.heap.size w W) => CC.out a1 n1 c1 r hm W h (hz.next h) hn1)
      clear hts hcs ht hz hm
      go_wp2_with fail
      refine (CK.out _ (by first | exact hnx | exact hnx.drew)).mono ?_
      rintro e w5 ⟨x, xn, xc, rfl, hr5, hb5⟩
      have hb5' : Below wr.heap.size wr w5 := by first | exact hb5 | exact (Below.drew (Below.refl _ _)).trans hb5
      have B5 := hnx.trans (hb5'.mono hnx.size)
      have HE5 := Lib.hid hb5'
      clear hb5 hb5' CK c0 hnx
      cases hc : solveM gs ls [r] with
      | none =>
        have HF : Hid (extOk gs rs ls = false) := Lib.hid (by
          rw [HOK.out]
          unfold extA
          rw [allX_none (f := moreS gs ls) (r := r) (by unfold moreS; rw [hc]; rfl) HM.out]
          rfl)
        clear hr5 HU HE5 hc
        go_wp2_with fail
        go_ret2
        exact ⟨none, 0, 0, by rw [HF.out]; rfl, by rw [extR_no HF.out]; exact isRows_nil _, B5⟩
      | some R =>
        rw [hc] at hr5
        simp only [Option.getD_some] at hr5
        have HMM : Hid (moreS gs ls r = some (orOne r R)) := Lib.hid (by unfold moreS; rw [hc]; rfl)
        have HRN := Lib.hid hr5.len
        have hxn : xn ≤ 300 := by rw [← hr5.len]; exact solveM_len ls [r] R (by simp) hc
        by_cases hn0 : xn = 0
        case pos =>
          subst hn0
          have HOR : Hid (orOne r R = [r]) := Lib.hid (by unfold orOne; rw [if_pos HRN.out])
          have I6 := Lib.hid (one_rows (HZ.out.next B5))
          have b6 := (Below.refl w5.heap.size w5).alloc (Nat.le_refl _) (.cells #[.slice a1 n1 c1] 50)
          have B6 := B5.alloc B5.size (.cells #[.slice a1 n1 c1] 50)
          have E6 := Lib.hid (HE5.out.trans (b6.mono HE5.out.size))
          have q0 := (B5.cell (p := ⟨bb, off + k, none⟩) hbb).trans HC0.out
          clear hr5 hc b6 B5 HE5
          go_wp2_with fail
          clear q0
          generalize hw6 : w5.alloc (.cells #[.slice a1 n1 c1] 50) = w6 at I6 B6 E6 ⊢
          have HI : Hid (IsRows w6 (some ⟨w5.heap.size, 0, none⟩) 1 1 (orOne r R)) := Lib.hid (by rw [HOR.out]; exact I6.out)
          clear hw6 I6 HOR HRN
          generalize hx6 : (some (⟨w5.heap.size, 0, none⟩ : Addr)) = x6 at HI ⊢
          clear hx6
          have HML : Hid ((orOne r R).length = 1) := Lib.hid HI.out.len
          have HSML := Lib.hid (HMS.out r HM.out _ HMM.out)
          have HST : Hid (allX (moreS gs ls) (rs.take (k + 1)) = some (A ++ orOne r R)) := Lib.hid (allX_step HT.out HU.out.1 HMM.out)
          have HXN : Hid (1 ≤ 300) := Lib.hid (by omega)
          have HU0 : Hid (OutI w.heap.size w6 (.slice (some ⟨g, 0, none⟩) n c) (addAllR [] (A ++ (orOne r R).take 0)) us ∧ (addAllR [] (A ++ (orOne r R).take 0)).length = n ∧ ((orOne r R).take 0).all rowOk = true) := Lib.hid (by
            rw [List.take_zero, List.append_nil]
            exact ⟨HU.out.2.2.2.1.next E6.out, HU.out.2.2.2.2, rfl⟩)
          go_loopw [8, 12] (fun v k' wr => ∃ j g n c : Nat, j ≤ 1 ∧ k' = .int .i64 j ∧ v = .slice (some ⟨g, 0, none⟩) n c ∧ n ≤ 300 + j ∧ (∃ us : List Value, Hid (OutI w.heap.size wr (.slice (some ⟨g, 0, none⟩) n c) (addAllR [] (A ++ (orOne r R).take j)) us ∧ (addAllR [] (A ++ (orOne r R).take j)).length = n ∧ ((orOne r R).take j).all rowOk = true)) ∧ Hid (Below w6.heap.size w6 wr)) (fun _ k' _ => 1 - (intOf k').toNat)
          case atStart => exact ⟨0, g, n, c, Nat.zero_le _, rfl, rfl, by omega, ⟨us, HU0⟩, Lib.hid (Below.refl _ _)⟩
          case round =>
            clear HU0 hn
            obtain ⟨j, g, n, c, hj, rfl, rfl, hn, ⟨us, HV⟩, hfr⟩ := hrel
            have hj6 : (0 : Int) ≤ (j : Int) := by omega
            have hn3 : 1 ≤ 300 := HXN.out
            by_cases hjl : j < 1
            · obtain ⟨eb, eo, rfl, heb, _, _, hts, hcs⟩ := HI.out.cells (by omega)
              have ht : (orOne r R)[j]? = some ((orOne r R)[j]'(by omega)) := List.getElem?_eq_getElem (by omega)
              obtain ⟨am, nm, cm, d0, hz⟩ := hcs j _ ht
              have HTK : Hid ((orOne r R).take (j + 1) = (orOne r R).take j ++ [(orOne r R)[j]'(by omega)]) := Lib.hid (List.take_succ_eq_append_getElem (by omega))
              have hmem := List.mem_of_getElem? ht
              generalize (orOne r R)[j]'(by omega) = m at ht hz HTK hmem
              have hsm := HSML.out m hmem
              have hnm : nm ≤ 24 := by have := hz.len; have := hsm.2; omega
              have HZM := Lib.hid hz
              have HSM := Lib.hid hsm.1
              have HD0 := Lib.hid d0
              have HMEM := Lib.hid hmem
              have CR := Lib.hid (fun W (h : Below w6.heap.size w6 W) => specRowOk am nm cm m W (HZM.out.next h) HSM.out)
              have q0 := (hfr.out.cell (p := ⟨eb, eo + j, none⟩) heb).trans d0
              have hj7 : (j : Int) < (1 : Int) := by omega
              have HTX : Hid ((rowTextL m).length ≤ 140737488355328) := Lib.hid (by have h1 := rowText_len hsm.1; have h2 := hsm.2; omega)
              clear hts hcs ht hz hsm d0 hmem
              obtain ⟨rb, hrb⟩ : ∃ x, rowOk m = x := ⟨_, rfl⟩
              have HRB := Lib.hid hrb
              rw [hrb] at CR
              clear hrb
              go_wp2_with fail
              refine (CR.out _ (by first | exact hfr.out | exact hfr.out.drew)).mono ?_
              rintro e w7 ⟨rfl, hb7⟩
              have E7 : Hid (Below w6.heap.size w6 w7) := Lib.hid (by first | exact hfr.out.trans (hb7.mono hfr.out.size) | exact hfr.out.drew.trans (hb7.mono hfr.out.size))
              have V7 : Hid (Below wr.heap.size wr w7) := Lib.hid (by first | exact hb7 | exact (Below.drew (Below.refl _ _)).trans hb7)
              clear hb7 q0 CR hfr
              cases rb
              · have HF : Hid (extOk gs rs ls = false) := Lib.hid (by
                  rw [HOK.out]
                  exact finX_row HST.out (List.mem_append_right _ HMEM.out) HRB.out)
                have B7 := B6.trans (E7.out.mono B6.size)
                go_wp2_with fail
                go_ret2
                exact ⟨none, 0, 0, by rw [HF.out]; rfl, by rw [extR_no HF.out]; exact isRows_nil _, B7⟩
              · have q0 := (E7.out.cell (p := ⟨eb, eo + j, none⟩) heb).trans HD0.out
                have HLG : Hid (LongR (addAllR [] (A ++ (orOne r R).take j))) := Lib.hid (fun x hx => by
                  have hx' : x ∈ A ++ orOne r R := by
                    rcases addAllR_mem hx with h | h
                    · simp at h
                    · rcases List.mem_append.1 h with h | h
                      · exact List.mem_append_left _ h
                      · exact List.mem_append_right _ (List.mem_of_mem_take h)
                  have h2 : SmP x ∧ x.length ≤ 24 := by
                    rcases List.mem_append.1 hx' with h | h
                    · exact HU.out.2.2.1 x h
                    · exact HSML.out x h
                  have h1 := rowText_len h2.1
                  have h3 := h2.2
                  omega)
                have CA := Lib.hid (fun W (h : Below w7.heap.size w7 W) => specAdd w.heap.size g n c _ us am nm cm m W ((HV.out.1.next V7.out).next h) HV.out.2.1 (by omega) (by have h1 := B6.size; have h2 := E7.out.size; have h3 := h.size; omega) ((HZM.out.next E7.out).next h) (by omega) HLG.out HTX.out)
                go_wp2_with fail
                refine (CA.out _ (by first | exact Below.refl _ _ | exact Below.drew (Below.refl _ _))).mono ?_
                rintro e w8 ⟨g2, n2, c2, us2, rfl, ho8, hl8, hb8⟩
                have E8 : Hid (Below w6.heap.size w6 w8) := Lib.hid (by first | exact E7.out.trans (hb8.mono E7.out.size) | exact E7.out.drew.trans (hb8.mono E7.out.size))
                have hal := addR_len (addAllR [] (A ++ (orOne r R).take j)) m
                have hn2 : n2 ≤ 300 + (j + 1) := by
                  have h1 := HV.out.2.1
                  rw [hl8, h1] at hal
                  omega
                have HV2 : Hid (OutI w.heap.size w8 (.slice (some ⟨g2, 0, none⟩) n2 c2) (addAllR [] (A ++ (orOne r R).take (j + 1))) us2 ∧ (addAllR [] (A ++ (orOne r R).take (j + 1))).length = n2 ∧ ((orOne r R).take (j + 1)).all rowOk = true) := Lib.hid (by
                  rw [HTK.out, ← List.append_assoc, addAllR_snoc]
                  refine ⟨ho8, hl8, ?_⟩
                  rw [List.all_append, HV.out.2.2]
                  simp [HRB.out])
                clear ho8 hl8 hb8 hal q0 CA HV
                go_wp2_with fail
                go_roundw
                case rel => exact ⟨j + 1, g2, n2, c2, by omega, by go_num, rfl, hn2, ⟨us2, HV2⟩, E8⟩
                case measure => simp [intOf]; omega
            · have htk : (orOne r R).take j = orOne r R := List.take_of_length_le (by rw [HML.out]; omega)
              have HV9 : Hid (OutI w.heap.size wr (.slice (some ⟨g, 0, none⟩) n c) (addAllR [] (A ++ orOne r R)) us ∧ (addAllR [] (A ++ orOne r R)).length = n ∧ (orOne r R).all rowOk = true) := Lib.hid (by
                have h1 := HV.out
                rw [htk] at h1
                exact h1)
              have B9 := B6.trans (hfr.out.mono B6.size)
              clear HV htk hfr
              by_cases h300 : n ≤ 300
              · have hn8 : ¬ (300 : Int) < (n : Int) := by omega
                have HN : Hid (allX (moreS gs ls) (rs.take (k + 1)) = some (A ++ orOne r R) ∧ (A ++ orOne r R).all rowOk = true ∧ (∀ m ∈ A ++ orOne r R, SmP m ∧ m.length ≤ 24) ∧ OutI w.heap.size wr (.slice (some ⟨g, 0, none⟩) n c) (addAllR [] (A ++ orOne r R)) us ∧ (addAllR [] (A ++ orOne r R)).length = n) := Lib.hid ⟨HST.out, by rw [List.all_append, HU.out.2.1, HV9.out.2.2]; rfl, fun m hm => by
                  rcases List.mem_append.1 hm with h | h
                  · exact HU.out.2.2.1 m h
                  · exact HSML.out m h, HV9.out.1, HV9.out.2.1⟩
                go_wp2_with fail
                go_roundw
                case rel => exact ⟨k + 1, g, n, c, by omega, by go_num, rfl, h300, ⟨_, us, HN⟩, B9⟩
                case measure => simp [intOf]; omega
              · have hn8 : (300 : Int) < (n : Int) := by omega
                have HF : Hid (extOk gs rs ls = false) := Lib.hid (by
                  rw [HOK.out]
                  exact finX_long HST.out (by rw [HV9.out.2.1]; omega))
                clear HV9
                go_wp2_with fail
                go_ret2
                exact ⟨none, 0, 0, by rw [HF.out]; rfl, by rw [extR_no HF.out]; exact isRows_nil _, B9⟩
        case neg =>
          have HOR : Hid (orOne r R = R) := Lib.hid (by unfold orOne; rw [if_neg (by rw [HRN.out]; exact hn0)])
          have HI : Hid (IsRows w5 x xn xc (orOne r R)) := Lib.hid (by rw [HOR.out]; exact hr5)
          have hn0' : ((xn : Int) == 0) = false := by rw [beq_eq_false_iff_ne]; omega
          have B6 := B5
          have E6 := HE5
          clear hr5 hc HOR HRN B5 HE5
          go_wp2_with fail
          clear hn0'
          have HML : Hid ((orOne r R).length = xn) := Lib.hid HI.out.len
          have HSML := Lib.hid (HMS.out r HM.out _ HMM.out)
          have HST : Hid (allX (moreS gs ls) (rs.take (k + 1)) = some (A ++ orOne r R)) := Lib.hid (allX_step HT.out HU.out.1 HMM.out)
          have HXN : Hid (xn ≤ 300) := Lib.hid (by omega)
          have HU0 : Hid (OutI w.heap.size w5 (.slice (some ⟨g, 0, none⟩) n c) (addAllR [] (A ++ (orOne r R).take 0)) us ∧ (addAllR [] (A ++ (orOne r R).take 0)).length = n ∧ ((orOne r R).take 0).all rowOk = true) := Lib.hid (by
            rw [List.take_zero, List.append_nil]
            exact ⟨HU.out.2.2.2.1.next E6.out, HU.out.2.2.2.2, rfl⟩)
          go_loopw [8, 12] (fun v k' wr => ∃ j g n c : Nat, j ≤ xn ∧ k' = .int .i64 j ∧ v = .slice (some ⟨g, 0, none⟩) n c ∧ n ≤ 300 + j ∧ (∃ us : List Value, Hid (OutI w.heap.size wr (.slice (some ⟨g, 0, none⟩) n c) (addAllR [] (A ++ (orOne r R).take j)) us ∧ (addAllR [] (A ++ (orOne r R).take j)).length = n ∧ ((orOne r R).take j).all rowOk = true)) ∧ Hid (Below w5.heap.size w5 wr)) (fun _ k' _ => xn - (intOf k').toNat)
          case atStart => exact ⟨0, g, n, c, Nat.zero_le _, rfl, rfl, by omega, ⟨us, HU0⟩, Lib.hid (Below.refl _ _)⟩
          case round =>
            clear HU0 hn
            obtain ⟨j, g, n, c, hj, rfl, rfl, hn, ⟨us, HV⟩, hfr⟩ := hrel
            have hj6 : (0 : Int) ≤ (j : Int) := by omega
            have hn3 : xn ≤ 300 := HXN.out
            by_cases hjl : j < xn
            · obtain ⟨eb, eo, rfl, heb, _, _, hts, hcs⟩ := HI.out.cells (by omega)
              have ht : (orOne r R)[j]? = some ((orOne r R)[j]'(by omega)) := List.getElem?_eq_getElem (by omega)
              obtain ⟨am, nm, cm, d0, hz⟩ := hcs j _ ht
              have HTK : Hid ((orOne r R).take (j + 1) = (orOne r R).take j ++ [(orOne r R)[j]'(by omega)]) := Lib.hid (List.take_succ_eq_append_getElem (by omega))
              have hmem := List.mem_of_getElem? ht
              generalize (orOne r R)[j]'(by omega) = m at ht hz HTK hmem
              have hsm := HSML.out m hmem
              have hnm : nm ≤ 24 := by have := hz.len; have := hsm.2; omega
              have HZM := Lib.hid hz
              have HSM := Lib.hid hsm.1
              have HD0 := Lib.hid d0
              have HMEM := Lib.hid hmem
              have CR := Lib.hid (fun W (h : Below w5.heap.size w5 W) => specRowOk am nm cm m W (HZM.out.next h) HSM.out)
              have q0 := (hfr.out.cell (p := ⟨eb, eo + j, none⟩) heb).trans d0
              have hj7 : (j : Int) < (xn : Int) := by omega
              have HTX : Hid ((rowTextL m).length ≤ 140737488355328) := Lib.hid (by have h1 := rowText_len hsm.1; have h2 := hsm.2; omega)
              clear hts hcs ht hz hsm d0 hmem
              obtain ⟨rb, hrb⟩ : ∃ x, rowOk m = x := ⟨_, rfl⟩
              have HRB := Lib.hid hrb
              rw [hrb] at CR
              clear hrb
              go_wp2_with fail
              refine (CR.out _ (by first | exact hfr.out | exact hfr.out.drew)).mono ?_
              rintro e w7 ⟨rfl, hb7⟩
              have E7 : Hid (Below w5.heap.size w5 w7) := Lib.hid (by first | exact hfr.out.trans (hb7.mono hfr.out.size) | exact hfr.out.drew.trans (hb7.mono hfr.out.size))
              have V7 : Hid (Below wr.heap.size wr w7) := Lib.hid (by first | exact hb7 | exact (Below.drew (Below.refl _ _)).trans hb7)
              clear hb7 q0 CR hfr
              cases rb
              · have HF : Hid (extOk gs rs ls = false) := Lib.hid (by
                  rw [HOK.out]
                  exact finX_row HST.out (List.mem_append_right _ HMEM.out) HRB.out)
                have B7 := B6.trans (E7.out.mono B6.size)
                go_wp2_with fail
                go_ret2
                exact ⟨none, 0, 0, by rw [HF.out]; rfl, by rw [extR_no HF.out]; exact isRows_nil _, B7⟩
              · have q0 := (E7.out.cell (p := ⟨eb, eo + j, none⟩) heb).trans HD0.out
                have HLG : Hid (LongR (addAllR [] (A ++ (orOne r R).take j))) := Lib.hid (fun x hx => by
                  have hx' : x ∈ A ++ orOne r R := by
                    rcases addAllR_mem hx with h | h
                    · simp at h
                    · rcases List.mem_append.1 h with h | h
                      · exact List.mem_append_left _ h
                      · exact List.mem_append_right _ (List.mem_of_mem_take h)
                  have h2 : SmP x ∧ x.length ≤ 24 := by
                    rcases List.mem_append.1 hx' with h | h
                    · exact HU.out.2.2.1 x h
                    · exact HSML.out x h
                  have h1 := rowText_len h2.1
                  have h3 := h2.2
                  omega)
                have CA := Lib.hid (fun W (h : Below w7.heap.size w7 W) => specAdd w.heap.size g n c _ us am nm cm m W ((HV.out.1.next V7.out).next h) HV.out.2.1 (by omega) (by have h1 := B6.size; have h2 := E7.out.size; have h3 := h.size; omega) ((HZM.out.next E7.out).next h) (by omega) HLG.out HTX.out)
                go_wp2_with fail
                refine (CA.out _ (by first | exact Below.refl _ _ | exact Below.drew (Below.refl _ _))).mono ?_
                rintro e w8 ⟨g2, n2, c2, us2, rfl, ho8, hl8, hb8⟩
                have E8 : Hid (Below w5.heap.size w5 w8) := Lib.hid (by first | exact E7.out.trans (hb8.mono E7.out.size) | exact E7.out.drew.trans (hb8.mono E7.out.size))
                have hal := addR_len (addAllR [] (A ++ (orOne r R).take j)) m
                have hn2 : n2 ≤ 300 + (j + 1) := by
                  have h1 := HV.out.2.1
                  rw [hl8, h1] at hal
                  omega
                have HV2 : Hid (OutI w.heap.size w8 (.slice (some ⟨g2, 0, none⟩) n2 c2) (addAllR [] (A ++ (orOne r R).take (j + 1))) us2 ∧ (addAllR [] (A ++ (orOne r R).take (j + 1))).length = n2 ∧ ((orOne r R).take (j + 1)).all rowOk = true) := Lib.hid (by
                  rw [HTK.out, ← List.append_assoc, addAllR_snoc]
                  refine ⟨ho8, hl8, ?_⟩
                  rw [List.all_append, HV.out.2.2]
                  simp [HRB.out])
                clear ho8 hl8 hb8 hal q0 CA HV
                go_wp2_with fail
                go_roundw
                case rel => exact ⟨j + 1, g2, n2, c2, by omega, by go_num, rfl, hn2, ⟨us2, HV2⟩, E8⟩
                case measure => simp [intOf]; omega
            · have htk : (orOne r R).take j = orOne r R := List.take_of_length_le (by rw [HML.out]; omega)
              have HV9 : Hid (OutI w.heap.size wr (.slice (some ⟨g, 0, none⟩) n c) (addAllR [] (A ++ orOne r R)) us ∧ (addAllR [] (A ++ orOne r R)).length = n ∧ (orOne r R).all rowOk = true) := Lib.hid (by
                have h1 := HV.out
                rw [htk] at h1
                exact h1)
              have B9 := B6.trans (hfr.out.mono B6.size)
              clear HV htk hfr
              by_cases h300 : n ≤ 300
              · have hn8 : ¬ (300 : Int) < (n : Int) := by omega
                have HN : Hid (allX (moreS gs ls) (rs.take (k + 1)) = some (A ++ orOne r R) ∧ (A ++ orOne r R).all rowOk = true ∧ (∀ m ∈ A ++ orOne r R, SmP m ∧ m.length ≤ 24) ∧ OutI w.heap.size wr (.slice (some ⟨g, 0, none⟩) n c) (addAllR [] (A ++ orOne r R)) us ∧ (addAllR [] (A ++ orOne r R)).length = n) := Lib.hid ⟨HST.out, by rw [List.all_append, HU.out.2.1, HV9.out.2.2]; rfl, fun m hm => by
                  rcases List.mem_append.1 hm with h | h
                  · exact HU.out.2.2.1 m h
                  · exact HSML.out m h, HV9.out.1, HV9.out.2.1⟩
                go_wp2_with fail
                go_roundw
                case rel => exact ⟨k + 1, g, n, c, by omega, by go_num, rfl, h300, ⟨_, us, HN⟩, B9⟩
                case measure => simp [intOf]; omega
              · have hn8 : (300 : Int) < (n : Int) := by omega
                have HF : Hid (extOk gs rs ls = false) := Lib.hid (by
                  rw [HOK.out]
                  exact finX_long HST.out (by rw [HV9.out.2.1]; omega))
                clear HV9
                go_wp2_with fail
                go_ret2
                exact ⟨none, 0, 0, by rw [HF.out]; rfl, by rw [extR_no HF.out]; exact isRows_nil _, B9⟩
    · have hkl : k = lr := by omega
      have HA9 : Hid (extA gs rs ls = some A) := Lib.hid (by
        have h1 := HU.out.1
        rwa [List.take_of_length_le (by rw [HRL.out]; omega)] at h1)
      have HF : Hid (extOk gs rs ls = true) := Lib.hid (by
        rw [HOK.out, HA9.out]
        unfold finX
        simp only [HU.out.2.1, Bool.true_and]
        exact decide_eq_true (by rw [HU.out.2.2.2.2]; exact hn))
      have HE : Hid (extR gs rs ls = addAllR [] A) := Lib.hid (by
        unfold extR
        rw [if_pos HF.out, HA9.out]
        rfl)
      have HI := Lib.hid HU.out.2.2.2.1.rows
      clear HU hkl
      go_wp2_with fail
      go_ret2
      exact ⟨some ⟨g, 0, none⟩, n, c, by rw [HF.out]; rfl, by rw [HE.out]; exact HI.out, hnx⟩
end Go.Proofs.YtiajdnhmjdfeeaaGreat
namespace Go.Proofs.YtiajdnhmjdfeeaaGreat
open Go.RowKit Go.WideShapes Go.Maps
/-- The rows that are projected at last; none: there is no answer. -/
def ansRows (gs : List Tri3) (vs : List ByteArray) (t1 t2 : List Tri3) : Option (List RowV) :=
  if graphOk gs = true ∧ queryOk vs t1 t2 = true ∧ solOk gs t1 = true then
    if t2.length = 0 then some (solR gs t1) else if extOk gs (solR gs t1) t2 = true then some (extR gs (solR gs t1) t2) else none
  else none
def ansOk (gs : List Tri3) (vs : List ByteArray) (t1 t2 : List Tri3) : Bool := match ansRows gs vs t1 t2 with | none => false | some rs => projOk rs vs
def ansR (gs : List Tri3) (vs : List ByteArray) (t1 t2 : List Tri3) : List RowV := match ansRows gs vs t1 t2 with | none => [] | some rs => projR rs vs
theorem ans_none {gs : List Tri3} {vs : List ByteArray} {t1 t2 : List Tri3} (h : ansRows gs vs t1 t2 = none) : ansOk gs vs t1 t2 = false ∧ ansR gs vs t1 t2 = [] := by
  unfold ansOk ansR; rw [h]; exact ⟨rfl, rfl⟩
theorem ans_some {gs : List Tri3} {vs : List ByteArray} {t1 t2 : List Tri3} {rs : List RowV} (h : ansRows gs vs t1 t2 = some rs) : ansOk gs vs t1 t2 = projOk rs vs ∧ ansR gs vs t1 t2 = projR rs vs := by
  unfold ansOk ansR; rw [h]; exact ⟨rfl, rfl⟩
theorem ansRows_g {gs : List Tri3} {vs : List ByteArray} {t1 t2 : List Tri3} (h : graphOk gs = false) : ansRows gs vs t1 t2 = none := by
  unfold ansRows; rw [if_neg (by rw [h]; simp)]
theorem ansRows_q {gs : List Tri3} {vs : List ByteArray} {t1 t2 : List Tri3} (h : queryOk vs t1 t2 = false) : ansRows gs vs t1 t2 = none := by
  unfold ansRows; rw [if_neg (by rw [h]; simp)]
theorem ansRows_s {gs : List Tri3} {vs : List ByteArray} {t1 t2 : List Tri3} (h : solOk gs t1 = false) : ansRows gs vs t1 t2 = none := by
  unfold ansRows; rw [if_neg (by rw [h]; simp)]
theorem solOk_g {gs ls : List Tri3} (h : solOk gs ls = true) : graphOk gs = true := by
  unfold solOk at h
  simp only [Bool.and_eq_true] at h
  exact h.1.1
theorem ansRows_0 {gs : List Tri3} {vs : List ByteArray} {t1 t2 : List Tri3} (hq : queryOk vs t1 t2 = true) (hs : solOk gs t1 = true) (h0 : t2.length = 0) : ansRows gs vs t1 t2 = some (solR gs t1) := by
  unfold ansRows; rw [if_pos ⟨solOk_g hs, hq, hs⟩, if_pos h0]
theorem ansRows_x {gs : List Tri3} {vs : List ByteArray} {t1 t2 : List Tri3} (hq : queryOk vs t1 t2 = true) (hs : solOk gs t1 = true) (h0 : ¬ t2.length = 0) (hx : extOk gs (solR gs t1) t2 = true) : ansRows gs vs t1 t2 = some (extR gs (solR gs t1) t2) := by
  unfold ansRows; rw [if_pos ⟨solOk_g hs, hq, hs⟩, if_neg h0, if_pos hx]
theorem ansRows_y {gs : List Tri3} {vs : List ByteArray} {t1 t2 : List Tri3} (h0 : ¬ t2.length = 0) (hx : extOk gs (solR gs t1) t2 = false) : ansRows gs vs t1 t2 = none := by
  unfold ansRows
  by_cases hc : graphOk gs = true ∧ queryOk vs t1 t2 = true ∧ solOk gs t1 = true
  · rw [if_pos hc, if_neg h0, if_neg (by rw [hx]; simp)]
  · rw [if_neg hc]
theorem queryOk_bgp {vs : List ByteArray} {t1 t2 : List Tri3} (h : queryOk vs t1 t2 = true) : bgpOk t1 = true ∧ bgpOk t2 = true := by
  unfold queryOk at h
  simp only [Bool.and_eq_true] at h
  exact ⟨h.2.1, h.2.2.1⟩
/-- Rows of a right graph are small. -/
theorem solR_sm {gs ls : List Tri3} (hga : SmT gs) (hgb : SmT ls) : SmR (solR gs ls) := by
  cases h : (graphOk gs && bgpOk ls)
  · rw [(solOk_no h).2]; intro r hr; simp at hr
  · rw [(solOk_yes h).2]
    rw [Bool.and_eq_true] at h
    rw [solve_cont h.1 h.2]
    cases hc : contM gs ls [[]] with
    | none => intro r hr; simp at hr
    | some R =>
      obtain ⟨_, _, hk⟩ := contM_rows hga (graphOk_iff.1 h.1).2.1 ls [[]] 12 hgb (bgpOk_iff.1 h.2).2 noZs_one (by simp) (fun r hr => by
        obtain rfl : r = [] := by simpa using hr
        exact goodK_nil) R hc
      intro r hr t ht
      simp only [Option.map_some, Option.getD_some] at hr
      rcases addAllR_mem hr with hr | hr
      · simp at hr
      · exact (hk r hr).2.2.2.2 t ht
theorem extR_sm {gs : List Tri3} {rs : List RowV} {ls : List Tri3} (hga : SmT gs) (hsr : SmR rs) (hgb : SmT ls) : SmR (extR gs rs ls) := by
  cases h : extOk gs rs ls
  · rw [extR_no h]; intro r hr; simp at hr
  · have h0 := h
    unfold extOk at h
    simp only [Bool.and_eq_true] at h
    obtain ⟨hg, hq, hl, hf⟩ := h
    have hrok : ∀ r ∈ rs, rowOk r = true := by
      unfold rowsOkL at hq
      simp only [Bool.and_eq_true, List.all_eq_true] at hq
      exact hq.2
    cases hA : extA gs rs ls with
    | none => rw [hA] at hf; cases hf
    | some A =>
      have hE : extR gs rs ls = addAllR [] A := by
        unfold extR
        rw [if_pos h0, hA]
        rfl
      rw [hE]
      intro r hr t ht
      have hr : r ∈ A := by
        rcases addAllR_mem hr with h | h
        · simp at h
        · exact h
      obtain ⟨s, h1, M, h2, h3⟩ := (allX_mem hA r).1 hr
      have := (more_smallS hg hl hga hgb (hrok s h1) (hsr s h1) M h2 r h3).1 t ht
      omega
theorem ansRows_sm {gs : List Tri3} {vs : List ByteArray} {t1 t2 : List Tri3} {rs : List RowV} (hga : SmT gs) (h1 : SmT t1) (h2 : SmT t2) (h : ansRows gs vs t1 t2 = some rs) : SmR rs := by
  unfold ansRows at h
  split at h
  · split at h
    · obtain rfl := Option.some.inj h; exact solR_sm hga h1
    · split at h
      · obtain rfl := Option.some.inj h; exact extR_sm hga (solR_sm hga h1) h2
      · simp at h
  · simp at h
theorem totR_12 : ∀ (rs : List RowV), (∀ r ∈ rs, r.length ≤ 12) → totR rs ≤ rs.length * 12
  | [], _ => by simp [totR]
  | s :: rs, h => by
    have e : totR (s :: rs) = s.length + totR rs := by simp [totR]
    have := totR_12 rs (fun r hr => h r (List.mem_cons_of_mem _ hr))
    have := h s (List.mem_cons_self ..)
    rw [e, List.length_cons]; omega
theorem projR_sz (rs : List RowV) (vs : List ByteArray) : (projR rs vs).length ≤ 300 ∧ totR (projR rs vs) ≤ 3600 ∧ ∀ r ∈ projR rs vs, ∀ t ∈ r, ∃ s ∈ rs, t ∈ s := by
  cases h : projOk rs vs
  · rw [projR_no h]; simp [totR]
  · rw [projR_yes h]
    have hq : rowsOkL rs = true := by unfold projOk at h; simp only [Bool.and_eq_true] at h; exact h.1
    have hm : ∀ r ∈ projL rs vs, ∃ s ∈ rs, keepL (txts vs) s = r := fun r hr => by
      unfold projL at hr
      rcases addAllR_mem hr with hr | hr
      · simp at hr
      · obtain ⟨s, hs, e⟩ := List.mem_map.1 hr
        exact ⟨s, hs, e⟩
    have hl : (projL rs vs).length ≤ 300 := by
      unfold projL
      have h1 := addAllR_len (rs.map (keepL (txts vs))) []
      have h2 := rowsOk_most hq
      simp only [List.length_nil, List.length_map] at h1
      omega
    have h12 : ∀ r ∈ projL rs vs, r.length ≤ 12 := fun r hr => by
      obtain ⟨s, hs, rfl⟩ := hm r hr
      exact Nat.le_trans (keepL_len _ _) (rowsOk_row hq hs)
    have ht := totR_12 _ h12
    refine ⟨hl, by omega, fun r hr t ht => ?_⟩
    obtain ⟨s, hs, rfl⟩ := hm r hr
    exact ⟨s, hs, (List.mem_filter.1 ht).1⟩
theorem ansR_sz {gs : List Tri3} {vs : List ByteArray} {t1 t2 : List Tri3} (hga : SmT gs) (h1 : SmT t1) (h2 : SmT t2) : (ansR gs vs t1 t2).length ≤ 300 ∧ totR (ansR gs vs t1 t2) ≤ 3600 ∧ ∀ r ∈ ansR gs vs t1 t2, ∀ t ∈ r, t.1.size ≤ maxLen ∧ t.2.size ≤ maxLen := by
  cases h : ansRows gs vs t1 t2 with
  | none => rw [(ans_none h).2]; simp [totR]
  | some rs =>
    rw [(ans_some h).2]
    obtain ⟨e1, e2, e3⟩ := projR_sz rs vs
    refine ⟨e1, e2, fun r hr t ht => ?_⟩
    obtain ⟨s, hs, hts⟩ := e3 r hr t ht
    have := ansRows_sm hga h1 h2 h s hs t hts
    unfold maxLen
    omega
end Go.Proofs.YtiajdnhmjdfeeaaGreat
namespace Go.Proofs.YtiajdnhmjdfeeaaGreat
open Go.RowKit Go.WideShapes Go.Maps
theorem hasB_txts (vs : List ByteArray) (x : ByteArray) : hasB vs x = decide (x.data.toList ∈ txts vs) := by
  rw [Bool.eq_iff_iff]
  unfold hasB txts
  rw [List.any_eq_true, decide_eq_true_eq, List.mem_map]
  constructor
  · rintro ⟨y, hy, he⟩
    rw [beq_iff_eq, ByteArray.toList_eq, ByteArray.toList_eq] at he
    exact ⟨y, hy, he⟩
  · rintro ⟨y, hy, he⟩
    exact ⟨y, hy, by rw [beq_iff_eq, ByteArray.toList_eq, ByteArray.toList_eq]; exact he⟩
def ProjPost (w : World) (rs : List RowV) (vs : List ByteArray) (e : Ending) (w' : World) : Prop :=
  ∃ a n c, e = .returned (.tuple #[.slice a n c, .bool (projOk rs vs)]) ∧ IsRows w' a n c (projR rs vs) ∧ Below w.heap.size w w'
set_option maxRecDepth 100000 in
set_option maxHeartbeats 6400000 in
theorem specProjected (a b : Option Addr) (la ca lb cb : Nat) (rs : List RowV) (vs : List ByteArray) (w : World) (ha : IsRows w a la ca rs) (hb : IsStrs w b lb cb vs) (hsa : SmR rs) (hsb : ∀ t ∈ vs, t.size ≤ 1048576) (hlb : lb ≤ 1048576) :
    Calls Tryz.prog 50 #[.slice a la ca, .slice b lb cb] w (ProjPost w rs vs) := by
  obtain ⟨j0, hj0, hy0, hy1, hy2⟩ := info_parts infoPair
  have C' := specRowsOk a la ca rs w ha hsa
  have HA := Lib.hid ha
  have HB := Lib.hid hb
  have HSB := Lib.hid hsb
  have HVL := Lib.hid hb.len
  have HRL := Lib.hid ha.len
  have hlbm : lb ≤ 9223372036854775807 := by omega
  cases hq : rowsOkL rs
  · rw [hq] at C'
    have C := Lib.hid C'
    have HP : Hid (projOk rs vs = false) := Lib.hid (by unfold projOk; rw [hq, Bool.false_and])
    clear C' hq ha hb hsa hsb
    go_enter Tryz.func50, Tryz.ntmps50
    go_wp2_with fail
    refine C.out.mono ?_
    rintro e w1 ⟨rfl, hb1⟩
    go_wp2_with fail
    go_ret2
    exact ⟨none, 0, 0, by rw [HP.out]; rfl, by rw [projR_no HP.out]; exact .inl ⟨rfl, rfl, rfl, rfl⟩, hb1⟩
  have hla : la ≤ 300 := by have := rowsOk_most hq; rw [ha.len] at this; exact this
  have HROW : Hid (∀ r ∈ rs, r.length ≤ 12) := Lib.hid (fun r hr => rowsOk_row hq hr)
  have HSA := Lib.hid hsa
  have HRQ := Lib.hid hq
  obtain ⟨nm, hnm⟩ : ∃ nm, txts vs = nm := ⟨_, rfl⟩
  have HNM := Lib.hid hnm
  obtain ⟨ks, hks⟩ : ∃ ks, rs.map (keepL nm) = ks := ⟨_, rfl⟩
  have HKL : Hid (ks.length = la) := Lib.hid (by rw [← hks, List.length_map, ha.len])
  have HKS := Lib.hid hks
  have HKM : Hid (∀ r ∈ ks, (rowTextL r).length ≤ 140737488355328) := Lib.hid (fun r hr => by
    rw [← hks] at hr
    obtain ⟨s, hs, rfl⟩ := List.mem_map.1 hr
    have h1 := HROW.out s hs
    have h2 := keepL_len nm s
    have h3 := rowText_len (r := keepL nm s) (fun t ht => hsa s hs t (List.mem_filter.1 ht).1)
    omega)
  have HPL : Hid (projL rs vs = addAllR [] ks) := Lib.hid (by unfold projL; rw [hnm, hks])
  rw [hq] at C'
  have C := Lib.hid C'
  clear C' hq ha hb hsa hsb hnm hks
  go_enter Tryz.func50, Tryz.ntmps50
  go_wp2_with fail
  refine C.out.mono ?_
  rintro e w1 ⟨rfl, hb1⟩
  clear C
  go_wp2_with fail
  go_loopw [6] (fun i wr => ∃ k : Nat, k ≤ lb ∧ i = .int .i64 k ∧ Hid ((txts (vs.take k)).all isVarK = true) ∧ Below w.heap.size w wr) (fun i _ => lb - (intOf i).toNat)
  case atStart => exact ⟨0, Nat.zero_le _, rfl, Lib.hid rfl, hb1⟩
  case round =>
    obtain ⟨k, hk, rfl, hal, hnx⟩ := hrel
    clear hb1
    have hk6 : (0 : Int) ≤ (k : Int) := by omega
    by_cases hlt : k < lb
    · obtain ⟨bb, off, rfl, hbb, _, _, hts, hcs⟩ := HB.out.cells (by omega)
      have ht : vs[k]? = some (vs[k]'(by omega)) := List.getElem?_eq_getElem (by omega)
      have c0 := hcs k _ ht
      have HK : Hid (vs.take (k + 1) = vs.take k ++ [vs[k]'(by omega)]) := Lib.hid (List.take_succ_eq_append_getElem (by omega))
      have hx1 := HSB.out _ (List.getElem_mem (by omega : k < vs.length))
      have HMEM := Lib.hid (List.getElem_mem (by omega : k < vs.length))
      rw [← hnx.cell (p := ⟨bb, _, none⟩) hbb] at c0
      generalize vs[k]'(by omega) = x at c0 HK hx1 HMEM
      have CV' := specKindOf x (by omega)
      have hk7 : (k : Int) < (lb : Int) := by omega
      have EK : (kindL x.data.toList = 4 ∧ isVarK x.data.toList = true) ∨ (((kindL x.data.toList : Nat) : Int) ≠ 4 ∧ isVarK x.data.toList = false) := by
        unfold isVarK
        by_cases g : kindL x.data.toList = 4
        · exact .inl ⟨g, by simp [g]⟩
        · exact .inr ⟨by omega, by simp [g]⟩
      generalize kindL x.data.toList = kk at CV' EK
      have CV := Lib.hid CV'
      clear CV' hts hcs ht
      rcases EK with ⟨rfl, e2⟩ | ⟨e1, e2⟩
      · have HN := Lib.hid (varsOk_step hal.out HK.out e2)
        clear e2 hal HK
        go_wp2_with fail
        refine (CV.out _).mono ?_
        rintro e w4 ⟨rfl, hb4⟩
        have B4 := hnx.trans (hb4.mono hnx.size)
        clear hb4 hnx CV c0
        go_wp2_with fail
        go_roundw
        case rel => exact ⟨k + 1, by omega, by go_num, HN, B4⟩
        case measure => simp [intOf]; omega
      · have HP : Hid (projOk rs vs = false) := Lib.hid (by unfold projOk; rw [varsOk_not HMEM.out e2, Bool.and_false])
        have e3 : ((kk : Int) != 4) = true := by simpa using e1
        have e4 : ((kk : Int) == 4) = false := by simpa using e1
        clear e2
        go_wp2_with fail
        refine (CV.out _).mono ?_
        rintro e w4 ⟨rfl, hb4⟩
        have B4 := hnx.trans (hb4.mono hnx.size)
        clear hb4 hnx CV c0
        go_wp2_with fail
        go_ret2
        exact ⟨none, 0, 0, by rw [HP.out]; rfl, by rw [projR_no HP.out]; exact .inl ⟨rfl, rfl, rfl, rfl⟩, B4⟩
    · have hkl : k = lb := by omega
      have HVO : Hid (projOk rs vs = true) := Lib.hid (by
        have h1 := hal.out
        rw [List.take_of_length_le (by rw [HVL.out]; omega)] at h1
        unfold projOk varsOkL
        rw [HRQ.out, h1]; rfl)
      obtain ⟨wo, rfl⟩ : ∃ x, x = wr := ⟨_, rfl⟩
      have O0 : OutI w.heap.size (wo.alloc (.cells #[] 50)) (.slice (some ⟨wo.heap.size, 0, none⟩) 0 0) [] [] := ⟨World.ownsRow_lit (size := 1) (e := 50) wo #[] 0 hnx.size (by decide) rfl, rfl, by simp⟩
      have HO0 := Lib.hid O0
      have B2 := hnx.alloc hnx.size (.cells #[] 50)
      clear O0 hnx hal hkl
      go_wp2_with fail
      clear hlt hk6 hk
      go_loopw [7, 8] (fun v i wr => ∃ k g n c : Nat, k ≤ la ∧ i = .int .i64 k ∧ v = .slice (some ⟨g, 0, none⟩) n c ∧ n ≤ k ∧ (∃ us, Hid (OutI w.heap.size wr (.slice (some ⟨g, 0, none⟩) n c) (addAllR [] (ks.take k)) us ∧ (addAllR [] (ks.take k)).length = n)) ∧ Below w.heap.size w wr) (fun _ i _ => la - (intOf i).toNat)
      case atStart => exact ⟨0, _, 0, 0, Nat.zero_le _, rfl, rfl, Nat.le_refl _, ⟨[], Lib.hid ⟨by simpa [addAllR] using HO0.out, by simp [addAllR]⟩⟩, B2⟩
      case round =>
        obtain ⟨k, g, n, c, hk, rfl, rfl, hnk, ⟨us, HO⟩, hnx⟩ := hrel
        clear HO0 B2
        have hk6 : (0 : Int) ≤ (k : Int) := by omega
        by_cases hlt : k < la
        · obtain ⟨bb, off, rfl, hbb, _, _, hts, hcs⟩ := HA.out.cells (by omega)
          have ht : rs[k]? = some (rs[k]'(by omega)) := List.getElem?_eq_getElem (by omega)
          obtain ⟨a1, n1, c1, c0, hz0⟩ := hcs k _ ht
          have hrm := List.getElem_mem (by omega : k < rs.length)
          have hr12 := HROW.out _ hrm
          have hsm := HSA.out _ hrm
          have HKT : Hid (ks.take (k + 1) = ks.take k ++ [keepL nm (rs[k]'(by omega))]) := Lib.hid (by
            have e : ks[k]? = some (keepL nm (rs[k]'(by omega))) := by rw [← HKS.out, List.getElem?_map, ht]; rfl
            have hkk : k < ks.length := by rw [HKL.out]; exact hlt
            rw [List.take_succ_eq_append_getElem hkk]
            rw [List.getElem?_eq_getElem hkk] at e
            rw [Option.some.inj e])
          have HTX := Lib.hid (HKM.out (keepL nm (rs[k]'(by omega))) (by rw [← HKS.out]; exact List.mem_map_of_mem hrm))
          generalize rs[k]'(by omega) = s at hz0 hr12 hsm HKT HTX
          have HZ := Lib.hid hz0
          have hn1 := hz0.len
          have hn12 : n1 ≤ 12 := by omega
          have HN1 := Lib.hid hn1
          have HSM := Lib.hid hsm
          have HC0 := Lib.hid c0
          have hk7 : (k : Int) < (la : Int) := by omega
          obtain ⟨wo, rfl⟩ : ∃ x, x = wr := ⟨_, rfl⟩
          have P0 : OwnP wo.heap.size (wo.alloc (.cells #[] 55)) (.slice (some ⟨wo.heap.size, 0, none⟩) 0 0) [] := World.ownsRow_lit (size := 2) (e := 55) wo #[] 0 (Nat.le_refl _) (by decide) rfl
          have HP0 := Lib.hid P0
          have B3 := (Below.refl wo.heap.size wo).alloc (Nat.le_refl _) (.cells #[] 55)
          have HWO := Lib.hid hnx
          clear hts hcs ht hz0 hrm hr12 hsm hn1 P0 c0 hnx
          go_wp2_with fail
          go_loopw [9, 10] (fun v' i wr => ∃ (j : Nat) (v : Value), j ≤ n1 ∧ i = .int .i64 j ∧ v = v' ∧ Hid (OwnP wo.heap.size wr v (keepL nm (s.take j))) ∧ Below wo.heap.size wo wr) (fun _ i _ => n1 - (intOf i).toNat)
          case atStart => exact ⟨0, _, Nat.zero_le _, rfl, rfl, by simpa [keepL] using HP0, B3⟩
          case round =>
            obtain ⟨j, v, hj, rfl, rfl, hown, hbx⟩ := hrel
            clear HP0 B3
            have hj6 : (0 : Int) ≤ (j : Int) := by omega
            have hnx := HWO.out.trans (hbx.mono HWO.out.size)
            have c0 := HC0.out
            rw [← hnx.cell (p := ⟨bb, _, none⟩) hbb] at c0
            by_cases hlj : j < n1
            · obtain ⟨x, xo, rfl, hx, _, _, hts, hcs⟩ := HZ.out.cells (by omega)
              have ht : s[j]? = some (s[j]'(by omega)) := List.getElem?_eq_getElem (by omega)
              obtain ⟨d0, d1, m0, m1⟩ := hcs j _ ht
              rw [← hnx.cell (p := ⟨x, _, none⟩) hx] at d0 d1
              have HK : Hid (s.take (j + 1) = s.take j ++ [s[j]'(by omega)]) := Lib.hid (List.take_succ_eq_append_getElem (by omega))
              have hkl : (keepL nm (s.take j)).length ≤ j := by have := keepL_len nm (s.take j); rw [List.length_take] at this; omega
              generalize s[j]'(by omega) = t at d0 d1 HK m0 m1
              obtain ⟨y, z⟩ := t
              dsimp only at d0 d1 m0
              have HN : Hid (keepL nm (s.take (j + 1)) = if y.data.toList ∈ nm then keepL nm (s.take j) ++ [(y, z)] else keepL nm (s.take j)) := Lib.hid (by rw [HK.out, keepL_snoc])
              have HH := Lib.hid (fun W (h : Below wr.heap.size wr W) => specHas b lb cb vs y W ((HB.out.next hnx).next h) hlb)
              have HHB : Hid (hasB vs y = decide (y.data.toList ∈ nm)) := Lib.hid (by rw [hasB_txts, HNM.out])
              have hj7 : (j : Int) < (n1 : Int) := by omega
              clear hts hcs ht HK m0 m1
              generalize keepL nm (s.take j) = kr at HN hkl hown
              go_wp2_with fail
              refine (HH.out _ (by first | exact Below.refl _ _ | exact Below.drew (Below.refl _ _))).mono ?_
              rintro e w4 ⟨rfl, hw4⟩
              obtain rfl : wr = w4 := hw4.symm
              clear HH
              by_cases hin : y.data.toList ∈ nm
              · have HM : Hid (keepL nm (s.take (j + 1)) = kr ++ [(y, z)]) := Lib.hid (by rw [HN.out, if_pos hin])
                have hd : hasB vs y = true := by rw [HHB.out]; exact decide_eq_true hin
                have HA2 := Lib.hid (World.ownsRow.alloc hown.out (.cells #[.string y, .string z] 55))
                have HC2 := Lib.hid (hbx.alloc hbx.size (.cells #[.string y, .string z] 55))
                clear HN hin HHB
                rw [hd]
                clear hd
                go_wp2_with (at_builtin; refine wpList_append_own_at _ rfl _ _ 50 rfl wo.heap.size 55 j0 (.agg #[.string ⟨#[]⟩, .string ⟨#[]⟩]) 2 32 Tryz.underlying50 hj0 hy0 hy1 hy2 rfl (by decide) _ _ _ rfl HA2.out ⟨_, 0, none⟩ 1 1 [.string y, .string z] rfl rfl ?d1 ?d2 ?d3 ?d4 ?d5 ?_)
                case d1 => exact two_cellP rfl
                case d2 => exact two_one _ _
                case d3 => unfold maxLen; omega
                case d4 => omega
                case d5 => exact HC2.out.size
                intro v' w6 hown6 hg6 _ _
                have O6 : Hid (OwnP wo.heap.size w6 v' (keepL nm (s.take (j + 1)))) := Lib.hid (by rw [HM.out]; exact own_snocP hown6)
                have B6 := HC2.out.grown hg6 HC2.out.size (fun q hq => (World.ownsRow.lt hown.out q hq).1)
                clear hown6 hg6 HA2 HC2 hown hbx hnx c0 d0 d1
                go_wp2_with fail
                go_roundw
                case rel => exact ⟨j + 1, _, by omega, by go_num, rfl, O6, B6⟩
                case measure => simp [intOf]; omega
              · have HM : Hid (keepL nm (s.take (j + 1)) = kr) := Lib.hid (by rw [HN.out, if_neg hin])
                have hd : hasB vs y = false := by rw [HHB.out]; exact decide_eq_false hin
                have O6 : Hid (OwnP wo.heap.size wr v (keepL nm (s.take (j + 1)))) := Lib.hid (by rw [HM.out]; exact hown.out)
                clear HN hin HHB hown
                rw [hd]
                clear hd
                go_wp2_with fail
                go_roundw
                case rel => exact ⟨j + 1, _, by omega, by go_num, rfl, O6, hbx⟩
                case measure => simp [intOf]; omega
            · have hown' := hown.out
              rw [List.take_of_length_le (by rw [HN1.out]; omega)] at hown'
              obtain ⟨va, vc, hve, hv⟩ := hown'.is (fun t ht => by have := HSM.out t (List.mem_filter.1 ht).1; unfold maxLen; omega)
              subst hve
              have hkl := keepL_len nm s
              have hsl := HN1.out
              have HAD : Hid (addAllR [] (ks.take (k + 1)) = addR (addAllR [] (ks.take k)) (keepL nm s)) := Lib.hid (by rw [HKT.out, addAllR_snoc])
              have HLG : Hid (LongR (addAllR [] (ks.take k))) := Lib.hid (fun r hr => by
                rcases addAllR_mem hr with h | h
                · simp at h
                · exact HKM.out r (List.mem_of_mem_take h))
              generalize addAllR [] (ks.take k) = AL at HO HAD HLG
              generalize keepL nm s = kr at hv hkl HAD HTX
              generalize hkn : kr.length = kn at hv hkl ⊢
              have hAL := HO.out.2
              have E := Lib.hid (fun W (h : Below wr.heap.size wr W) => specAdd w.heap.size g n c AL us va kn vc kr W ((HO.out.1.next hbx).next h) HO.out.2 (by omega) (by have := hnx.size; have := h.size; omega) (hv.next h) (by omega) HLG.out HTX.out)
              clear hown hown' hv HO HTX HLG
              go_wp2_with fail
              refine (E.out _ (by first | exact Below.refl _ _ | exact Below.drew (Below.refl _ _))).mono ?_
              rintro e w5 ⟨g', n', c', us', rfl, ho5, hl5, hb5⟩
              have B5 := hnx.trans (hb5.mono hnx.size)
              have hn5 : n' ≤ n + 1 := by have := addR_len AL kr; omega
              have HO5 := Lib.hid (And.intro ho5 hl5)
              rw [← HAD.out] at HO5
              clear ho5 hl5 hb5 E hnx hbx c0
              go_wp2_with fail
              go_roundw
              case rel => exact ⟨k + 1, g', n', c', by omega, by go_num, rfl, by omega, ⟨us', HO5⟩, B5⟩
              case measure => simp [intOf]; omega
        · have HF : Hid (OutI w.heap.size wr (.slice (some ⟨g, 0, none⟩) n c) (addAllR [] ks) us) := Lib.hid (by
            have h1 := HO.out.1
            rw [List.take_of_length_le (by rw [HKL.out]; omega)] at h1
            exact h1)
          clear HO
          go_wp2_with fail
          go_ret2
          have i9 : IsRows wr (some ⟨g, 0, none⟩) n c (addAllR [] ks) := by
            obtain ⟨a9, c9, e9, i9⟩ := HF.out.is
            simp only [Value.slice.injEq] at e9
            obtain ⟨e1, e2, e3⟩ := e9
            rw [e1, e2, e3]
            exact i9
          exact ⟨some ⟨g, 0, none⟩, n, c, by rw [HVO.out]; rfl, by rw [projR_yes HVO.out, HPL.out]; exact i9, hnx⟩
end Go.Proofs.YtiajdnhmjdfeeaaGreat
