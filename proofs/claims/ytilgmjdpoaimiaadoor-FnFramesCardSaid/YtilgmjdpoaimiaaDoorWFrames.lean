/- The walk of FnFrames. -/
import Derived.Test.YtilgmjdpoaimiaaDoorFrame
import Derived.Test.YtilgmjdpoaimiaaDoorDrawFr
import Derived.Test.YtilgmjdpoaimiaaDoorFrmK
import Derived.Test.YtilgmjdpoaimiaaDoorFrmP
import Derived.Test.YtilgmjdpoaimiaaDoorLawTs
namespace Go.Proofs.YtilgmjdpoaimiaaDoor
open Go.RowKit Go.WideShapes
namespace fnFrames
theorem fnFramesIs {B : Nat} {w : World} {v : Value} {ts : List ByteArray} {n : Nat} (h : OwnS B w v ts) (l : ts.length = n) : ∃ a c, v = .slice a n c ∧ IsStrs w a n c ts := by
  subst l; exact h.is
theorem isStrs_take {w : World} {a : Option Addr} {n c m : Nat} {ts : List ByteArray} (h : IsStrs w a n c ts) (hm : m ≤ n) : IsStrs w a m c (ts.take m) := by
  rcases h with ⟨rfl, rfl, rfl, rfl⟩ | ⟨x, rfl, h1, h2, h3, h4⟩
  · exact .inl ⟨rfl, by omega, rfl, by simp⟩
  · refine .inr ⟨x, rfl, by omega, h2, by rw [List.length_take]; omega, fun i t hi => h4 i t ?_⟩
    rw [List.getElem?_take] at hi
    split at hi
    · exact hi
    · cases hi
set_option maxRecDepth 100000 in
set_option maxHeartbeats 6400000 in
theorem walk (a : Option Addr) (len cap : Nat) (zs : List Int) (w : World) (hrow : Frame.IsRow .u8 w a len cap zs) (ht : CrcT w) :
    Calls Tryd.prog 3 #[.slice a len cap] w fun e w' => e = .returned (.bool true) ∧ Below w.heap.size w w' := by
  have hlen : len ≤ 9223372036854775807 := by
    rcases hrow with ⟨_, rfl, _⟩ | ⟨y, _, h1, h2, _⟩
    · omega
    · unfold maxLen at h2; omega
  by_cases hbig : (1048576 : Int) < len
  · go_enter Tryd.func3, Tryd.ntmps3
    go_wp2_with go_in
    go_ret
    exact ⟨rfl, Below.refl _ _⟩
  have h0 := ht.1
  have HROW := Lib.hid hrow
  have HT := Lib.hid ht
  clear hrow ht
  go_enter Tryd.func3, Tryd.ntmps3
  go_wp2_with (go_at_call 6; go_in)
  refine (drawTakeFrames _ _ _ _ _ HROW.out).mono ?_
  rintro e w1 ⟨s, hs, rfl, hg1⟩
  have B1 := below_of_grown hg1
  have C1 := fun w ht => implTake s w (by omega) ht
  have C2 := fun w => specTake s w (by omega)
  obtain ⟨F1, F2, F3⟩ := frames_all s.data.toList
  rw [size_len] at F1
  have F4 := framesL_len _ F3
  have HL : Hid ((takeL s.data.toList).map bs = (takeL s.data.toList).map bs) := Lib.hid rfl
  generalize hl : takeL s.data.toList = l at C1 C2 F1 F2 F3 F4
  obtain ⟨n, hn⟩ : ∃ n, (framesL l).length = n := ⟨_, rfl⟩
  rw [hn] at C1 C2 F1 F2 F4
  obtain ⟨N, hN⟩ : ∃ N, (l.map bs).length = N := ⟨_, rfl⟩
  have hN2 : l.length = N := by rw [← hN, List.length_map]
  have HN := Lib.hid hN
  have HN2 := Lib.hid hN2
  have Hn := Lib.hid hn
  have H2 := Lib.hid F2
  have H3 := Lib.hid F3
  have hN60 : N ≤ 60 := by omega
  have HC1 := Lib.hid C1
  have HC2 := Lib.hid C2
  clear hg1 C1 C2 F2 F3 F4 hl hn hN hN2 HL
  go_wp2_with fail
  refine (HC1.out _ (HT.out.next B1 h0 (Nat.le_refl _))).mono ?_
  rintro e w2 ⟨v, rfl, o2, hb⟩
  have B2 := B1.trans (hb.mono B1.size)
  obtain ⟨ga, gc, rfl, i2⟩ := fnFramesIs o2 HN.out
  clear hb o2
  go_wp2_with fail
  refine (HC2.out _).mono ?_
  rintro e w3 ⟨v, rfl, o3, hb⟩
  have B3 := B2.trans (hb.mono B2.size)
  obtain ⟨sa, sc, rfl, i3⟩ := fnFramesIs o3 HN.out
  have j3 := i2.next hb
  clear hb o3 i2
  have hn63 : (n : Int) ≤ s.size := by omega
  have hdn : decide (s.size < n) = false := decide_eq_false (by omega)
  go_wp2_with fail
  refine (lawTextsEq ga sa N gc N sc (l.map bs) _ j3 i3 (by omega)).mono ?_
  rintro e w4 ⟨rfl, hb⟩
  have B4 := B3.trans (hb.mono B3.size)
  have i4 := Lib.hid (j3.next hb)
  clear hb j3 i3
  go_wp2_with fail
  go_loopw [8, 9] (fun v i wr => ∃ k : Nat, k ≤ N ∧ i = .int .i64 k ∧ v = .string (bs (framesL (l.take k))) ∧ Below w.heap.size w wr ∧ Hid (IsStrs wr ga N gc (l.map bs))) (fun _ i _ => N - (intOf i).toNat)
  case atStart => exact ⟨0, Nat.zero_le _, rfl, rfl, B4, i4⟩
  case round =>
    obtain ⟨k, hk, rfl, rfl, hnx, HI⟩ := hrel
    have hsz := hnx.size
    clear i4
    have hX60 : (framesL (l.take k)).length ≤ n := by rw [← Hn.out]; exact framesL_take_le l k
    by_cases hlt : k < N
    · have hk7 : (k : Int) < (N : Int) := by omega
      have hk6 : (0 : Int) ≤ (k : Int) := by omega
      obtain ⟨b1, off, rfl, hb, hl1, hm1, hts, hcs⟩ := HI.out.cells (by omega)
      have hd : l[k]? = some (l[k]'(by have := HN2.out; omega)) := List.getElem?_eq_getElem _
      have hd3 := H3.out _ (List.mem_of_getElem? hd)
      have c0 := hcs k (bs (l[k]'(by have := HN2.out; omega))) (by rw [List.getElem?_map, hd]; rfl)
      generalize l[k]'(by have := HN2.out; omega) = d at hd hd3 c0
      have HX := Lib.hid (framesL_take hd)
      have hF : (framesL (l.take (k + 1))).length ≤ n := by rw [← Hn.out]; exact framesL_take_le l (k + 1)
      rw [HX.out, List.length_append, frameL_len hd3] at hF
      have hfs : (bs (frameL d)).size = 8 + d.length := by rw [bs_size, frameL_len hd3]
      have hxs : (bs (framesL (l.take k))).size = (framesL (l.take k)).length := bs_size _
      have CF := fun W ht => implFrameOf (bs d) W (by rw [bs_size]; omega) ht
      have HCF := Lib.hid CF
      clear hd hts hcs hm1 hl1 CF
      obtain ⟨X, hX⟩ : ∃ X, bs (framesL (l.take k)) = X := ⟨_, rfl⟩
      rw [hX] at hxs
      have HXX := Lib.hid hX
      rw [hX]
      clear hX
      go_wp2_with fail
      refine (HCF.out _ (HT.out.next hnx h0 (Nat.le_refl _))).mono ?_
      rintro e w5 ⟨rfl, hb5⟩
      have B5 := hnx.trans (hb5.mono hsz)
      have i5 := Lib.hid (HI.out.next hb5)
      rw [bs_toList]
      generalize hFF : bs (frameL d) = FF at hfs ⊢
      have HFF := Lib.hid hFF
      have hxf : (X ++ FF).size ≤ 60 := by rw [ByteArray.size_append]; omega
      clear hFF hb5 HI c0
      go_wp2_with fail
      go_roundw
      case rel => exact ⟨k + 1, by omega, by go_num, by rw [← HXX.out, ← HFF.out, HX.out]; rfl, B5, i5⟩
      case measure => simp [intOf]; omega
    · obtain rfl : k = N := by omega
      have hA : Hid (framesL (l.take k) = framesL l) := Lib.hid (by rw [List.take_of_length_le (by rw [HN2.out]; exact Nat.le_refl _)])
      rw [hA.out]
      have hAs : (bs (framesL l)).size = n := by rw [bs_size]; exact Hn.out
      obtain ⟨A, hAA⟩ : ∃ A, bs (framesL l) = A := ⟨_, rfl⟩
      have HAA := Lib.hid hAA
      rw [hAA] at hAs ⊢
      have HAE : Hid ((A.toList == (s.extract 0 n).toList) = true) := Lib.hid (by
        have : A = s.extract 0 n := by
          rw [← hAA, ← H2.out]
          refine (bs_eq ?_).symm
          rw [ext_toList, List.drop_zero]
        rw [this]
        exact beq_self_eq_true _)
      clear hAA hA
      go_wp2_with fail
      refine (drawFrameOf _ _ _ _ _ (isRow_grown HROW.out (grown_of_below hnx))).mono ?_
      rintro e w5 ⟨t, ht, rfl, hg5⟩
      have B5 := hnx.trans ((below_of_grown hg5).mono hsz)
      have i5 := Lib.hid (HI.out.next (below_of_grown hg5))
      clear hg5 HI
      have hfs : (bs (frameL t.data.toList)).size = 8 + t.size := by rw [bs_size, frameL_len (by rw [size_len]; omega), size_len]
      obtain ⟨FF, hFF⟩ : ∃ FF, bs (frameL t.data.toList) = FF := ⟨_, rfl⟩
      have CF := fun W ht => implFrameOf t W (by omega) ht
      rw [hFF] at hfs CF
      have hAF : (A ++ FF).size ≤ 79 := by rw [ByteArray.size_append]; omega
      obtain ⟨M1, M2⟩ := one_more (t := t.data.toList) H3.out (by rw [size_len]; omega)
      have C3 := fun W ht => implTake (A ++ FF) W (by omega) ht
      have e3 : (A ++ FF).data.toList = framesL l ++ frameL t.data.toList := by rw [← HAA.out, ← hFF]; rfl
      rw [e3, M1, M2, Hn.out, List.map_append, List.map_singleton, bs_of] at C3
      have hfl : (frameL t.data.toList).length = FF.size := by rw [← hFF, bs_size]
      rw [hfl] at C3
      have hq0 : len % (n + 1) < n + 1 := Nat.mod_lt _ (Nat.succ_pos _)
      have hq1 : (len : Int) % ((n : Int) + 1) = ((len % (n + 1) : Nat) : Int) := by rw [Int.natCast_emod, Int.natCast_add]; rfl
      generalize len % (n + 1) = q at hq0 hq1
      obtain ⟨K1, K2⟩ := few_first H3.out q
      have C4 := fun W ht => implTake (A.extract 0 q) W (by rw [ByteArray.size_extract]; omega) ht
      have e4 : (A.extract 0 q).data.toList = (framesL l).take q := by rw [ext_toList, List.drop_zero, ← HAA.out]; rfl
      rw [e4] at C4
      generalize takeL ((framesL l).take q) = fw at C4 K1 K2
      generalize (framesL fw).length = pf at C4
      obtain ⟨M, hM⟩ : ∃ M, fw.length = M := ⟨_, rfl⟩
      rw [hM] at K1 K2
      have HK2 : Hid ((l.map bs).take M = fw.map bs) := Lib.hid (by rw [← List.map_take, K2])
      have hM2 : Hid ((fw.map bs).length = M) := Lib.hid (by rw [List.length_map, hM])
      have hMN : M ≤ k := by rw [← HN2.out]; exact K1
      have hMN2 : (M : Int) ≤ (k : Int) := by omega
      have HCF := Lib.hid CF
      have HC3 := Lib.hid C3
      have HC4 := Lib.hid C4
      have hlen1 : Hid ((l.map bs ++ [t]).length = k + 1) := Lib.hid (by rw [List.length_append, HN.out]; rfl)
      have HT1 : (t.toList == t.toList) = true := beq_self_eq_true _
      have HE := HAE.out
      clear hFF e3 M1 M2 C3 CF K1 K2 e4 hM C4 hfl
      go_wp2_with fail
      refine (HCF.out _ (HT.out.next B5 h0 (Nat.le_refl _))).mono ?_
      rintro e w6 ⟨rfl, hb⟩
      have B6 := B5.trans (hb.mono B5.size)
      have i6 := Lib.hid (i5.out.next hb)
      clear hb i5
      go_wp2_with fail
      refine (HC3.out _ (HT.out.next B6 h0 (Nat.le_refl _))).mono ?_
      rintro e w7 ⟨v, rfl, o7, hb⟩
      have B7 := B6.trans (hb.mono B6.size)
      have i7 := Lib.hid (i6.out.next hb)
      obtain ⟨oa, oc, rfl, j7⟩ := fnFramesIs o7 hlen1.out
      clear hb i6 o7
      go_wp2_with fail
      refine (HC4.out _ (HT.out.next B7 h0 (Nat.le_refl _))).mono ?_
      rintro e w8 ⟨v, rfl, o8, hb⟩
      have B8 := B7.trans (hb.mono B7.size)
      have i8 := i7.out.next hb
      have j8 := j7.next hb
      obtain ⟨fa, fc, rfl, f8⟩ := fnFramesIs o8 hM2.out
      obtain ⟨b1, off, rfl, _, hoc, hoc2, _, hcs⟩ := j8.cells (by omega)
      have cN := hcs k t (by rw [List.getElem?_append_right (by rw [HN.out]; exact Nat.le_refl _), HN.out, Nat.sub_self]; rfl)
      have t8 := isStrs_take i8 hMN
      rw [HK2.out] at t8
      have HS8 := Lib.hid (And.intro f8 t8)
      have hgc : k ≤ gc := by
        rcases i8 with ⟨_, h, _, _⟩ | ⟨_, _, h, _⟩
        · omega
        · exact h
      have hgc2 : (k : Int) ≤ (gc : Int) := by omega
      have hgc3 : (M : Int) ≤ (gc : Int) := by omega
      clear hb i7 j7 o8 i8 j8 hcs f8 t8
      go_wp2_with fail
      refine (HCF.out _ (HT.out.next B8 h0 (Nat.le_refl _))).mono ?_
      rintro e w9 ⟨rfl, hb⟩
      have B9 := B8.trans (hb.mono B8.size)
      have S9 := Lib.hid (And.intro (HS8.out.1.next hb) (HS8.out.2.next hb))
      clear hb HS8
      go_wp2_with fail
      refine (lawTextsEq fa ga M fc M gc (fw.map bs) _ S9.out.1 S9.out.2 (by omega)).mono ?_
      rintro e w10 ⟨rfl, hb⟩
      have B10 := B9.trans (hb.mono B9.size)
      clear hb S9
      go_wp2_with fail
      go_ret
      exact ⟨rfl, B10⟩
end fnFrames
end Go.Proofs.YtilgmjdpoaimiaaDoor
