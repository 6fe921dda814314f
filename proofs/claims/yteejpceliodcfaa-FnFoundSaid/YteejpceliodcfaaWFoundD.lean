/- The walk of FnFound. -/
import Derived.Test.YteejpceliodcfaaFrame
import Derived.Test.YteejpceliodcfaaDrawFo
namespace Go.Proofs.Yteejpceliodcfaa
open Go.RowKit Go.WideShapes
namespace fnFound
theorem got_slice {w : World} {v : Value} {ts : List Tri3} (h : GotG w v ts) : ∃ a c, v = .slice a ts.length c := by
  obtain ⟨x, c, rfl, _⟩ := h; exact ⟨x, c, rfl⟩
theorem got_is {w : World} {a : Option Addr} {n c : Nat} {ts : List Tri3} (h : GotG w (.slice a n c) ts) : ts.length = n ∧ IsTris w a n c ts ∧ SmG ts := by
  obtain ⟨x, c', hv, hi, hp, hs⟩ := h
  simp only [Value.slice.injEq] at hv
  obtain ⟨rfl, rfl, rfl⟩ := hv
  exact ⟨rfl, hi, hs⟩
theorem same_true {v u : Value} {ts : List Tri3} {w : World} (h : GotG w v ts) (k : GotG w u ts) : Calls Try.prog 29 #[v, u] w fun e w' => e = .returned (.bool true) ∧ Below w.heap.size w w' := by
  have := sameG h k; rwa [decide_eq_true rfl] at this
theorem found_mem {t1 t2 t3 : List Tri3} (h : storeOk t1 t2 t3 = true) (p : Tri3) : ∀ t ∈ t1, decide (t ∈ foundT t1 t2 t3 p) = fitT p t := by
  intro t ht
  unfold foundT
  rw [if_pos h]
  cases hf : fitT p t
  · exact decide_eq_false fun g => by have := (List.mem_filter.1 g).2; rw [hf] at this; cases this
  · exact decide_eq_true (List.mem_filter.2 ⟨ht, hf⟩)
theorem found_all {t1 t2 t3 : List Tri3} (h : storeOk t1 t2 t3 = true) : foundT t1 t2 t3 (⟨#[]⟩, ⟨#[]⟩, ⟨#[]⟩) = t1 := by
  unfold foundT
  rw [if_pos h]
  refine List.filter_eq_self.2 fun t _ => ?_
  have e : (⟨#[]⟩ : ByteArray).toList.isEmpty = true := by rw [ByteArray.toList_eq]; rfl
  unfold fitT fitB
  simp only [e, Bool.true_or, Bool.and_self]
theorem found_sub (t1 t2 t3 : List Tri3) (p : Tri3) : ∀ t ∈ foundT t1 t2 t3 p, t ∈ t1 := by
  intro t ht
  unfold foundT at ht
  split at ht
  · exact (List.mem_filter.1 ht).1
  · simp at ht
set_option maxRecDepth 100000 in
set_option maxHeartbeats 6400000 in
theorem walk (a : Option Addr) (len cap : Nat) (zs : List Int) (w : World) (hrow : Frame.IsRow .u8 w a len cap zs) :
    Calls Try.prog 6 #[.slice a len cap] w fun e w' => e = .returned (.bool true) ∧ Below w.heap.size w w' := by
  have hlen : len ≤ 9223372036854775807 := by
    rcases hrow with ⟨_, rfl, _⟩ | ⟨y, _, h1, h2, _⟩
    · omega
    · unfold maxLen at h2; omega
  by_cases hbig : (1048576 : Int) < len
  · go_enter Try.func6, Try.ntmps6
    go_wp2_with go_in
    go_ret
    exact ⟨rfl, Below.refl _ _⟩
  go_enter Try.func6, Try.ntmps6
  go_wp2_with (go_at_call 20; go_in)
  refine (drawFound _ _ _ _ _ hrow).mono ?_
  rintro e w1 ⟨v1, v2, v3, t1, t2, t3, s, p, o, rfl, ha, hs, hp, ho, g1⟩
  have B1 := below_of_grown g1
  clear g1 hrow hbig hlen
  obtain ⟨x1, c1, rfl⟩ := got_slice ha.1
  obtain ⟨x2, c2, rfl⟩ := got_slice ha.2.1
  obtain ⟨x3, c3, rfl⟩ := got_slice ha.2.2
  obtain ⟨N1, hN1⟩ : ∃ N, t1.length = N := ⟨_, rfl⟩
  obtain ⟨N2, hN2⟩ : ∃ N, t2.length = N := ⟨_, rfl⟩
  obtain ⟨N3, hN3⟩ : ∃ N, t3.length = N := ⟨_, rfl⟩
  rw [hN1, hN2, hN3] at ha
  rw [hN1, hN2, hN3]
  clear hN1 hN2 hN3
  have hN81 : N1 ≤ 81 := by obtain ⟨h1, _, h2⟩ := got_is ha.1; have := h2.1; omega
  obtain ⟨W2, hW2⟩ : ∃ W, (w1.alloc (.cells #[.slice x1 N1 c1, .slice x2 N2 c2, .slice x3 N3 c3] 39)).alloc (.cells #[.string s, .string p, .string o] 46) = W := ⟨_, rfl⟩
  have b2 : Below w1.heap.size w1 W2 := by rw [← hW2]; exact ((Below.refl w1.heap.size w1).alloc (Nat.le_refl _) _).alloc (by simp) _
  have X2 : Box W2 w1.heap.size (.slice x1 N1 c1) (.slice x2 N2 c2) (.slice x3 N3 c3) 39 := by rw [← hW2]; exact (Box.new w1 _ _ _ _).alloc _
  have P2 : Box W2 (w1.heap.size + 1) (.string s) (.string p) (.string o) 46 := by
    rw [← hW2]; have := Box.new (w1.alloc (.cells #[.slice x1 N1 c1, .slice x2 N2 c2, .slice x3 N3 c3] 39)) (.string s) (.string p) (.string o) 46
    rwa [World.size_alloc] at this
  have HA2 := Lib.hid (ha.next b2)
  have B2 := B1.trans (b2.mono B1.size)
  have HX2 := Lib.hid X2
  have HP2 := Lib.hid P2
  obtain ⟨q0, q1, q2⟩ := X2.cells
  obtain ⟨y0, y1, y2⟩ := P2.cells
  clear ha b2 X2 P2 B1
  go_wp2_with fail
  clear q0 q1 q2 y0 y1 y2 hW2
  refine (implFoundG HA2.out s p o).mono ?_
  rintro e w3 ⟨f, rfl, gf, hb⟩
  have HA3 := Lib.hid (HA2.out.next hb)
  have HX3 := Lib.hid (HX2.out.next hb)
  have HP3 := Lib.hid (HP2.out.next hb)
  have B3 := B2.trans (hb.mono B2.size)
  obtain ⟨xf, cf, rfl⟩ := got_slice gf
  have HF3 := Lib.hid gf
  obtain ⟨q0, q1, q2⟩ := HX3.out.cells
  obtain ⟨y0, y1, y2⟩ := HP3.out.cells
  clear hb HA2 HX2 HP2 B2 gf
  obtain ⟨NF, hNF⟩ : ∃ N, (foundT t1 t2 t3 (s, p, o)).length = N := ⟨_, rfl⟩
  rw [hNF] at HF3 ⊢
  clear hNF
  go_wp2_with fail
  clear q0 q1 q2 y0 y1 y2
  refine (specFoundG HA3.out s p o).mono ?_
  rintro e w4 ⟨f4, rfl, g4, hb⟩
  have E4 := Lib.hid hb
  clear hb
  go_wp2_with fail
  refine (same_true (HF3.out.next E4.out) g4).mono ?_
  rintro e w5 ⟨rfl, hb⟩
  have E5 := Lib.hid (E4.out.trans (hb.mono E4.out.size))
  clear hb E4 g4
  obtain ⟨q0, q1, q2⟩ := (HX3.out.next E5.out).cells
  go_wp2_with fail
  clear q0 q1 q2
  have C := specStoreOkG (HA3.out.next E5.out)
  cases hq : storeOk t1 t2 t3
  · rw [hq] at C
    refine C.mono ?_
    rintro e w6 ⟨rfl, hb⟩
    have E6 := Lib.hid (E5.out.trans (hb.mono E5.out.size))
    clear hb E5 C
    obtain ⟨q0, q1, q2⟩ := (HX3.out.next E6.out).cells
    obtain ⟨y0, y1, y2⟩ := (HP3.out.next E6.out).cells
    go_wp2_with fail
    clear q0 q1 q2 y0 y1 y2
    refine (specFoundG (HA3.out.next E6.out) s p o).mono ?_
    rintro e w7 ⟨f7, rfl, g7, hb⟩
    have E7 := Lib.hid (E6.out.trans (hb.mono E6.out.size))
    clear hb E6
    go_wp2_with fail
    refine (same_true (HF3.out.next E7.out) g7).mono ?_
    rintro e w8 ⟨rfl, hb⟩
    have B8 := B3.trans ((E7.out.trans (hb.mono E7.out.size)).mono B3.size)
    clear hb E7 g7
    go_wp2_with fail
    go_ret
    exact ⟨rfl, B8⟩
  · rw [hq] at C
    have HM := Lib.hid (found_mem hq (s, p, o))
    have HALL := Lib.hid (found_all hq)
    have HSUB := Lib.hid (found_sub t1 t2 t3 (s, p, o))
    refine C.mono ?_
    rintro e w6 ⟨rfl, hb⟩
    have E6 := E5.out.trans (hb.mono E5.out.size)
    have HI := Lib.hid (got_is HA3.out.1)
    clear hb E5 C hq
    generalize hFF : foundT t1 t2 t3 (s, p, o) = F at HF3 HM HSUB
    clear hFF
    go_wp2_with fail
    go_loopw [6] (fun i wr => ∃ j : Nat, j ≤ N1 ∧ i = .int .i64 j ∧ Hid (Below w3.heap.size w3 wr)) (fun i _ => N1 - (intOf i).toNat)
    case atStart => exact ⟨0, Nat.zero_le _, rfl, Lib.hid E6⟩
    case round =>
      obtain ⟨j, hj, rfl, hfr⟩ := hrel
      clear E6
      have hj6 : (0 : Int) ≤ (j : Int) := by omega
      obtain ⟨q0, q1, q2⟩ := (HX3.out.next hfr.out).cells
      by_cases hlt : j < N1
      · have hj7 : (j : Int) < (N1 : Int) := by omega
        obtain ⟨b1, off, rfl, hb1, hl', hm, hts, hcs⟩ := (HI.out.2.1.next hfr.out).cells (by omega)
        have ht : t1[j]? = some (t1[j]'(by omega)) := List.getElem?_eq_getElem (by omega)
        obtain ⟨u0, u1, u2, m0, m1, m2⟩ := hcs j _ ht
        have hmem := HM.out _ (List.mem_of_getElem? ht)
        generalize t1[j]'(by omega) = t at ht u0 u1 u2 m0 m1 m2 hmem
        obtain ⟨k0, k1, k2⟩ := t
        simp only at u0 u1 u2
        obtain ⟨Wt, hWt⟩ : ∃ W, wr.alloc (.cells #[.string k0, .string k1, .string k2] 46) = W := ⟨_, rfl⟩
        have ET := hfr.out.alloc hfr.out.size (.cells #[.string k0, .string k1, .string k2] 46)
        have T := Box.new wr (.string k0) (.string k1) (.string k2) 46
        rw [hWt] at ET T
        obtain ⟨d0, d1, d2⟩ := T.cells
        obtain ⟨y0, y1, y2⟩ := (HP3.out.next ET).cells
        have HET := Lib.hid ET
        have HC : Hid (∀ W, GotG W (.slice xf NF cf) F → Calls Try.prog 33 #[.slice xf NF cf, .agg #[.string k0, .string k1, .string k2]] W fun e w' => e = .returned (.bool (fitB s k0 && (fitB p k1 && fitB o k2))) ∧ Below W.heap.size W w') := Lib.hid (fun W h => by have := hasG h k0 k1 k2; rw [hmem] at this; exact this)
        clear ht hcs hm m0 m1 m2 hts hl' hmem T ET
        have K2 := Lib.hid (fit_cases p k1)
        have K3 := Lib.hid (fit_cases o k2)
        rcases fit_cases s k0 with ⟨h1, h⟩ | ⟨h1, h2, h⟩ | ⟨h1, h2, h⟩
        rotate_right
        · rw [h] at HC
          clear h K2 K3
          go_wp2_with fail
          clear d0 d1 d2 y0 y1 y2 u0 u1 u2 q0 q1 q2
          refine (HC.out _ (HF3.out.next HET.out)).mono ?_
          rintro e w7 ⟨rfl, hb⟩
          have E7 := Lib.hid (HET.out.trans (hb.mono HET.out.size))
          clear hb HET HC hfr
          go_wp2_with fail
          go_roundw
          case rel => exact ⟨j + 1, by omega, by go_num, E7⟩
          case measure => simp [intOf]; omega
        all_goals
          rw [h] at HC
          clear h
          rcases K2.out with ⟨g1, h⟩ | ⟨g1, g2, h⟩ | ⟨g1, g2, h⟩
          rotate_right
          · rw [h] at HC
            clear h K3 K2
            go_wp2_with fail
            clear d0 d1 d2 y0 y1 y2 u0 u1 u2 q0 q1 q2
            refine (HC.out _ (HF3.out.next HET.out)).mono ?_
            rintro e w7 ⟨rfl, hb⟩
            have E7 := Lib.hid (HET.out.trans (hb.mono HET.out.size))
            clear hb HET HC hfr
            go_wp2_with fail
            go_roundw
            case rel => exact ⟨j + 1, by omega, by go_num, E7⟩
            case measure => simp [intOf]; omega
          all_goals
            rw [h] at HC
            clear h K2
            rcases K3.out with ⟨j1, h⟩ | ⟨j1, j2, h⟩ | ⟨j1, j2, h⟩
            all_goals
              rw [h] at HC
              clear h K3
              go_wp2_with fail
              clear d0 d1 d2 y0 y1 y2 u0 u1 u2 q0 q1 q2
              refine (HC.out _ (HF3.out.next HET.out)).mono ?_
              rintro e w7 ⟨rfl, hb⟩
              have E7 := Lib.hid (HET.out.trans (hb.mono HET.out.size))
              clear hb HET HC hfr
              go_wp2_with fail
              go_roundw
              case rel => exact ⟨j + 1, by omega, by go_num, E7⟩
              case measure => simp [intOf]; omega
      · obtain rfl : j = N1 := by omega
        have HFr := Lib.hid (implFoundG (HA3.out.next hfr.out) ⟨#[]⟩ ⟨#[]⟩ ⟨#[]⟩)
        go_wp2_with fail
        clear q0 q1 q2
        refine HFr.out.mono ?_
        rintro e w7 ⟨f7, rfl, g7, hb⟩
        have E7 := Lib.hid (hfr.out.trans (hb.mono hfr.out.size))
        rw [HALL.out] at g7
        obtain ⟨x7, c7, rfl⟩ := got_slice g7
        obtain ⟨N7, hN7⟩ : ∃ N, t1.length = N := ⟨_, rfl⟩
        have G7 := Lib.hid g7
        rw [hN7] at G7 ⊢
        clear hb HFr hfr hN7 g7
        obtain ⟨q0, q1, q2⟩ := (HX3.out.next E7.out).cells
        go_wp2_with fail
        clear q0 q1 q2
        refine (same_true G7.out (HA3.out.next E7.out).1).mono ?_
        rintro e w8 ⟨rfl, hb⟩
        have E8 := Lib.hid (E7.out.trans (hb.mono E7.out.size))
        have G8 := Lib.hid (G7.out.next hb)
        clear hb E7 G7
        have CW := withinG (HF3.out.next E8.out) G8.out
        rw [inAll_of HSUB.out] at CW
        go_wp2_with fail
        refine CW.mono ?_
        rintro e w9 ⟨rfl, hb⟩
        have B9 := B3.trans ((E8.out.trans (hb.mono E8.out.size)).mono B3.size)
        clear hb E8 G8 CW
        go_wp2_with fail
        go_ret
        exact ⟨rfl, B9⟩
end fnFound
end Go.Proofs.Yteejpceliodcfaa
