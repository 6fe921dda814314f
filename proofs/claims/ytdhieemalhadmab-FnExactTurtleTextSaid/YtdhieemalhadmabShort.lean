/- The contract of Shortened of the program. -/
import Derived.Test.YtdhieemalhadmabShortM
import Derived.Test.YtdhieemalhadmabPref
import Derived.Test.YtdhieemalhadmabExactP2
import Derived.BigQuiet
namespace Go.Proofs.Ytdhieemalhadmab
open Go.RowKit Go.WideShapes
theorem short_text (n r : ByteArray) : n ++ { data := #[58] } ++ r = bs (n.data.toList ++ 58 :: r.data.toList) := by
  apply bs_eq
  simp
set_option maxRecDepth 100000 in
set_option maxHeartbeats 1600000 in
theorem implShortened (a : Option Addr) (len cap : Nat) (ts : List Pre2) (w : World) (h : IsPres w a len cap ts) (hsm : SmP ts) (s : ByteArray) (hs : s.size ≤ 1048576) :
    Calls Try.prog 14 #[.slice a len cap, .string s] w fun e w' => e = .returned (.string (bs (shortL ts s.data.toList))) ∧ Below w.heap.size w w' := by
  have hts := h.len
  have hlen : len ≤ 9223372036854775807 := by
    rcases h with ⟨_, rfl, _, _⟩ | ⟨_, _, h1, h2, _⟩
    · omega
    · unfold maxLen at h2; omega
  have B1 := implBetween s 60 62 (by omega)
  have K1 := implKindOf s (by omega)
  obtain ⟨q, hq⟩ : ∃ q, shortL ts s.data.toList = q := ⟨_, rfl⟩
  rw [hq]
  unfold shortL at hq
  cases hin : inner s.data.toList 60 62 with
  | none =>
    rw [hin] at B1
    have D1 := Lib.hid B1
    have HS : Hid (bs q = s) := Lib.hid (by rw [← hq, hin]; exact bs_of s)
    clear B1 K1 h hsm hts hin hq
    go_enter Try.func14, Try.ntmps14
    go_wp2_with fail
    refine (D1.out _).mono ?_
    rintro e w' ⟨rfl, rfl⟩
    go_wp2_with fail
    go_ret
    exact ⟨by rw [HS.out]; rfl, Below.refl _ _⟩
  | some x =>
    rw [hin] at B1
    by_cases hk : kindL s.data.toList = 1
    · rw [hk] at K1
      cases hp : presOk ts
      · have D1 := Lib.hid B1
        have D2 : Hid (∀ w, Calls Try.prog 54 #[.string s] w fun e w' => e = .returned (.int .i64 1) ∧ Below w.heap.size w w') := Lib.hid K1
        have HS : Hid (bs q = s) := Lib.hid (by rw [← hq, hin]; simp only [hp, Bool.and_false, Bool.false_eq_true, if_false]; exact bs_of s)
        have HP := Lib.hid hp
        have HI := Lib.hid h
        have HM := Lib.hid hsm
        clear B1 K1 h hsm hts hin hk hp hq
        go_enter Try.func14, Try.ntmps14
        go_wp2_with fail
        refine (D1.out _).mono ?_
        rintro e w' ⟨rfl, rfl⟩
        go_wp2_with fail
        refine (D2.out _).mono ?_
        rintro e w1 ⟨rfl, hb1⟩
        have P := implPrefixesOk a len cap ts _ (HI.out.next hb1) HM.out
        rw [HP.out] at P
        go_wp2_with fail
        refine P.mono ?_
        rintro e w2 ⟨rfl, hb2⟩
        have B := hb1.trans (hb2.mono hb1.size)
        clear P hb1 hb2
        go_wp2_with fail
        go_ret
        exact ⟨by rw [HS.out]; rfl, B⟩
      · obtain ⟨r, hr, hr2⟩ := kind_one hk
        obtain rfl : x = r := by rw [hin] at hr2; exact Option.some.inj hr2
        have hxl : x.length ≤ 1048576 := by
          have := congrArg List.length hr
          rw [size_len] at this
          simp at this
          omega
        have HE : Hid (q = shortOf x s.data.toList (bestP x ts)) := Lib.hid (by rw [← hq, hin]; simp only [hp, hk, decide_true, Bool.and_true, if_true])
        have D1 := Lib.hid B1
        have D2 : Hid (∀ w, Calls Try.prog 54 #[.string s] w fun e w' => e = .returned (.int .i64 1) ∧ Below w.heap.size w w') := Lib.hid K1
        have HS := Lib.hid (bs_of s)
        have HP := Lib.hid hp
        have HI := Lib.hid h
        have HM := Lib.hid hsm
        have HT := Lib.hid hts
        clear B1 K1 h hsm hts hin hk hp hr hr2 hq
        go_enter Try.func14, Try.ntmps14
        go_wp2_with fail
        refine (D1.out _).mono ?_
        rintro e w' ⟨rfl, rfl⟩
        clear D1
        go_wp2_with fail
        refine (D2.out _).mono ?_
        rintro e w1 ⟨rfl, hb1⟩
        have P := implPrefixesOk a len cap ts _ (HI.out.next hb1) HM.out
        rw [HP.out] at P
        go_wp2_with fail
        refine P.mono ?_
        rintro e w2 ⟨rfl, hb2⟩
        have B := hb1.trans (hb2.mono hb1.size)
        clear P hb1 hb2 D2
        go_wp2_with fail
        go_loopw [7, 8, 34] (fun v n i wr => ∃ k : Nat, k ≤ len ∧ i = .int .i64 k ∧ v = .string (bs (shortOf x s.data.toList (bestP x (ts.take k)))) ∧ n = .int .i64 (longOf (bestP x (ts.take k))) ∧ Below w.heap.size w wr) (fun _ _ i _ => len - (intOf i).toNat)
        case atStart => exact ⟨0, Nat.zero_le _, rfl, by simp [bestP, shortOf, bs_of], by simp [bestP, longOf], B⟩
        case round =>
          obtain ⟨k, hk, rfl, rfl, rfl, hnx⟩ := hrel
          by_cases hlt : k < len
          · obtain ⟨b, off, rfl, hb, hl, hm, hts, hc⟩ := HI.out.cells (by omega)
            have ht : ts[k]? = some ts[k] := List.getElem?_eq_getElem (by omega)
            have HK : Hid (ts.take (k + 1) = ts.take k ++ [ts[k]]) := Lib.hid (List.take_succ_eq_append_getElem (by omega))
            obtain ⟨s1, s2⟩ := HM.out ts[k] (List.getElem_mem _)
            obtain ⟨c0, c1, m0, m1⟩ := hc k _ ht
            clear m0 m1
            rw [← hnx.cell (p := ⟨b, _, none⟩) hb] at c0 c1
            generalize ts[k] = t at c0 c1 HK s1 s2
            obtain ⟨acc, hacc⟩ : ∃ acc, bestP x (ts.take k) = acc := ⟨_, rfl⟩
            have HN : Hid (bestP x (ts.take (k + 1)) = stepP x acc t) := Lib.hid (by rw [HK.out, bestP_snoc, hacc])
            rw [hacc]
            clear hacc HK ht hts hc hm
            have C := fun w => Try.strings_CutPrefix (bs x) t.2 w
            simp only [bs_toList] at C
            have T0 := Box2.new wr (.string t.1) (.string t.2) 30
            have B0 := hnx.alloc hnx.size (.cells #[.string t.1, .string t.2] 30)
            obtain ⟨e0, e1⟩ := T0.cells
            obtain ⟨y, hy⟩ : ∃ y, bs (shortOf x s.data.toList acc) = y := ⟨_, rfl⟩
            rw [hy]
            have HY := Lib.hid hy
            clear hy
            obtain ⟨na, hna⟩ : ∃ na, longOf acc = na := ⟨_, rfl⟩
            rw [hna]
            have HA := Lib.hid hna
            cases h1 : Lib.hasPrefix x t.2.data.toList
            · rw [h1] at C
              obtain ⟨r, hr⟩ : ∃ r, (⟨(Lib.trimPrefix x t.2.data.toList).toArray⟩ : ByteArray) = r := ⟨_, rfl⟩
              rw [hr] at C
              have D := Lib.hid C
              have HX : Hid (bestP x (ts.take (k + 1)) = acc) := Lib.hid (by rw [HN.out]; exact stepP_no (by unfold fitsP; rw [h1]; rfl))
              clear C hr h1 hnx hna
              go_wp2_with fail
              refine (D.out _).mono ?_
              rintro e wn ⟨rfl, rfl⟩
              go_wp2_with fail
              go_roundw
              case rel => exact ⟨k + 1, by omega, by go_num, by rw [HX.out, HY.out], by rw [HX.out, HA.out], B0⟩
              case measure => simp [intOf]; omega
            · rw [h1] at C
              obtain ⟨r, hr⟩ : ∃ r, (⟨(Lib.trimPrefix x t.2.data.toList).toArray⟩ : ByteArray) = r := ⟨_, rfl⟩
              have hrl : r.data.toList = x.drop t.2.size := by rw [← hr]; unfold Lib.trimPrefix; rw [h1, size_len]; rfl
              have hrs : r.size ≤ 1048576 := by rw [← size_len, hrl, List.length_drop]; omega
              rw [hr] at C
              have D := Lib.hid C
              have M := implMade 57 labB (Lib.hid implLabel) (enters_of Try.func57 (by kernel_rfl) rfl) r 12 (by omega)
              cases h2 : made (x.drop t.2.size) 12 labB
              · rw [hrl, h2] at M
                have E := Lib.hid M
                have HX : Hid (bestP x (ts.take (k + 1)) = acc) := Lib.hid (by rw [HN.out]; exact stepP_no (by unfold fitsP; rw [h2, Bool.and_false]))
                clear C M hr hrl h1 h2 hnx hna
                go_wp2_with fail
                refine (D.out _).mono ?_
                rintro e wn ⟨rfl, rfl⟩
                go_wp2_with fail
                refine (E.out _).mono ?_
                rintro e wn ⟨rfl, rfl⟩
                go_wp2_with fail
                go_roundw
                case rel => exact ⟨k + 1, by omega, by go_num, by rw [HX.out, HY.out], by rw [HX.out, HA.out], B0⟩
                case measure => simp [intOf]; omega
              · rw [hrl, h2] at M
                have E := Lib.hid M
                have hfit : fitsP x t = true := by unfold fitsP; rw [h1, h2]; rfl
                by_cases h3 : (na : Int) < (t.2.size : Int)
                · have HX : Hid (bestP x (ts.take (k + 1)) = some t) := Lib.hid (by rw [HN.out]; exact stepP_yes hfit (by omega))
                  have HR : Hid (t.1 ++ { data := #[58] } ++ r = bs (shortOf x s.data.toList (some t))) := Lib.hid (by rw [short_text, hrl]; rfl)
                  clear C M hr hrl h1 h2 hnx hna hfit
                  go_wp2_with fail
                  refine (D.out _).mono ?_
                  rintro e wn ⟨rfl, rfl⟩
                  go_wp2_with fail
                  refine (E.out _).mono ?_
                  rintro e wn ⟨rfl, rfl⟩
                  go_wp2_with fail
                  go_quiet (fail)
                  go_wp2_with fail
                  go_roundw
                  case rel => exact ⟨k + 1, by omega, by go_num, by rw [HX.out, ← HR.out], by rw [HX.out]; rfl, ⟨B0.os, B0.tape, B0.output, B0.size, B0.block⟩⟩
                  case measure => simp [intOf]; omega
                · have HX : Hid (bestP x (ts.take (k + 1)) = acc) := Lib.hid (by rw [HN.out]; exact stepP_less (by omega))
                  clear C M hr hrl h1 h2 hnx hna hfit
                  go_wp2_with fail
                  refine (D.out _).mono ?_
                  rintro e wn ⟨rfl, rfl⟩
                  go_wp2_with fail
                  refine (E.out _).mono ?_
                  rintro e wn ⟨rfl, rfl⟩
                  go_wp2_with fail
                  go_roundw
                  case rel => exact ⟨k + 1, by omega, by go_num, by rw [HX.out, HY.out], by rw [HX.out, HA.out], B0⟩
                  case measure => simp [intOf]; omega
          · have HF : Hid (bestP x ts = bestP x (ts.take k)) := Lib.hid (by rw [List.take_of_length_le (by rw [HT.out]; omega)])
            go_wp2_with fail
            go_ret
            exact ⟨by rw [HE.out, HF.out]; rfl, hnx⟩
    · have D1 := Lib.hid B1
      have D2 := Lib.hid K1
      have HS : Hid (bs q = s) := Lib.hid (by rw [← hq, hin]; simp only [hk, decide_false, Bool.false_and, Bool.false_eq_true, if_false]; exact bs_of s)
      have HK : Hid ((kindL s.data.toList : Int) ≠ 1) := Lib.hid (by omega)
      clear B1 K1 h hsm hts hin hq
      have hkb : ((kindL s.data.toList : Int) != 1) = true := by simpa using HK.out
      generalize kindL s.data.toList = kk at *
      go_enter Try.func14, Try.ntmps14
      go_wp2_with fail
      refine (D1.out _).mono ?_
      rintro e w' ⟨rfl, rfl⟩
      go_wp2_with fail
      refine (D2.out _).mono ?_
      rintro e w1 ⟨rfl, hb1⟩
      go_wp2_with fail
      go_ret
      exact ⟨by rw [HS.out]; rfl, hb1⟩
end Go.Proofs.Ytdhieemalhadmab
