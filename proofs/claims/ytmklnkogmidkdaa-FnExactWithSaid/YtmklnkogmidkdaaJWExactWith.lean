/- The walk of FnExactWith. -/
import Derived.Test.YtmklnkogmidkdaaG00
import Derived.Test.YtmklnkogmidkdaaG11
import Derived.Test.YtmklnkogmidkdaaG16
import Derived.Test.YtmklnkogmidkdaaG17
import Derived.Test.YtmklnkogmidkdaaG14
import Derived.Test.YtmklnkogmidkdaaG02
import Derived.Test.YtmklnkogmidkdaaG01
namespace Go.Proofs.Ytmklnkogmidkdaa
open Go.RowKit Go.WideShapes
namespace fnExactWith
theorem res_ok (ts : List Tri3) (t : Tri3) : ((withT ts t).getD []).length ≤ 80 ∧ ∀ u ∈ (withT ts t).getD [], u = t ∨ u ∈ ts := by
  cases h : withT ts t with
  | none => simp
  | some g =>
    obtain ⟨_, _, rfl, hg⟩ := withT_some h
    refine ⟨graphOk_len hg, fun u hu => ?_⟩
    exact putT_mem.1 hu
set_option maxRecDepth 100000 in
set_option maxHeartbeats 3200000 in
theorem walk (a : Option Addr) (len cap : Nat) (ts : List Tri3) (s p o : ByteArray) (w : World) (h : IsTris w a len cap ts) (hs : s.size ≤ maxLen) (hp : p.size ≤ maxLen) (ho : o.size ≤ maxLen) :
    Calls Try.prog 8 #[.slice a len cap, .agg #[.string s, .string p, .string o]] w fun e w' => e = .returned (.bool true) ∧ Below w.heap.size w w' := by
  unfold maxLen at hs hp ho
  have hlen : len ≤ 9223372036854775807 := by
    rcases h with ⟨_, rfl, _, _⟩ | ⟨_, _, h1, h2, _⟩
    · omega
    · unfold maxLen at h2; omega
  have HM := Lib.hid h.small
  have HL := Lib.hid h.len
  have BW := (Below.refl w.heap.size w).alloc (Nat.le_refl _) (.cells #[.string s, .string p, .string o] 38)
  have h0 := h.next BW
  have X0 := Box.new w (.string s) (.string p) (.string o) 38
  clear h
  go_enter Try.func8, Try.ntmps8
  go_wp2_with fail
  generalize w.alloc (.cells #[.string s, .string p, .string o] 38) = W at h0 X0 BW ⊢
  refine (szTriS a len cap ts _ h0 1048576 (by omega) (by omega) hlen).mono ?_
  rintro e w1 ⟨n, rfl, hn, B1⟩
  rcases hn with rfl | ⟨hn0, hn1, hsm⟩
  · go_wp2_with fail
    go_ret
    exact ⟨rfl, BW.trans (B1.mono BW.size)⟩
  have hS : Sm ts := fun t ht => by have := hsm.2 t ht; omega
  have hl1 : len ≤ 1048576 := hsm.1
  have hn2 : ¬ n < 0 := by omega
  have SZ := szTri s p o n (by omega) (by omega) hs hp ho
  obtain ⟨c0, c1, c2⟩ := (X0.next B1).cells
  clear hsm
  by_cases hbt : (s.size : Int) + p.size + o.size ≤ n
  rotate_left
  · rw [szT_no hbt] at SZ
    have D := Lib.hid SZ
    clear SZ
    go_wp2_with fail
    refine (D.out _).mono ?_
    rintro e w2 ⟨rfl, hb2⟩
    go_wp2_with fail
    go_ret
    exact ⟨rfl, BW.trans ((B1.trans (hb2.mono B1.size)).mono BW.size)⟩
  rw [szT_yes hbt] at SZ
  have D := Lib.hid SZ
  have hbt2 : ¬ n - s.size - p.size - o.size < 0 := by omega
  have hs2 : s.size ≤ 2097152 := by omega
  have hp2 : p.size ≤ 2097152 := by omega
  have ho2 : o.size ≤ 2097152 := by omega
  have C1 := fun x y w hi hq => specWith x len y ts s p o w hi hq hS hs2 hp2 ho2
  have C2 := fun x y w hi => implWith x len y ts s p o w hi hS hs2 hp2 ho2
  change ∀ x y w, IsTris w x len y ts → Plain x → Calls _ _ _ w (fun e w' => ∃ v, e = .returned (.tuple #[v, .bool (withT ts (s, p, o)).isSome]) ∧ OwnT w.heap.size w' v ((withT ts (s, p, o)).getD []) ∧ Below w.heap.size w w') at C1
  change ∀ x y w, IsTris w x len y ts → Calls _ _ _ w (fun e w' => ∃ v, e = .returned (.tuple #[v, .bool (withT ts (s, p, o)).isSome]) ∧ OwnT w.heap.size w' v ((withT ts (s, p, o)).getD []) ∧ Below w.heap.size w w') at C2
  have hR80 := (res_ok ts (s, p, o)).1
  have hRM : ∀ t ∈ (withT ts (s, p, o)).getD [], t.1.size ≤ maxLen ∧ t.2.1.size ≤ maxLen ∧ t.2.2.size ≤ maxLen := fun t ht => by
    rcases (res_ok ts (s, p, o)).2 t ht with rfl | g
    · unfold maxLen; simp only; omega
    · exact HM.out t g
  generalize (withT ts (s, p, o)).getD [] = R at C1 C2 hR80 hRM
  generalize (withT ts (s, p, o)).isSome = bb at C1 C2
  obtain ⟨N, hN⟩ : ∃ N, R.length = N := ⟨_, rfl⟩
  rw [hN] at hR80
  have HN := Lib.hid hN
  have HRM := Lib.hid hRM
  have HC1 := Lib.hid C1
  have HC2 := Lib.hid C2
  clear SZ C1 C2 hRM hN hbt hS hn0 hn1
  go_wp2_with fail
  refine (D.out _).mono ?_
  rintro e w2 ⟨rfl, hb2⟩
  have B2 := B1.trans (hb2.mono B1.size)
  clear hb2 B1 c0 c1 c2 D
  have B2d := B2.drew
  have h2d := h0.next B2d
  obtain ⟨c0, c1, c2⟩ := (X0.next B2).cells
  clear B2
  go_wp2_with fail
  go_region_held3 (fun w' => w'.cell? ⟨w.heap.size, 0, none⟩ = some (.string s) ∧ w'.cell? ⟨w.heap.size, 1, none⟩ = some (.string p) ∧ w'.cell? ⟨w.heap.size, 2, none⟩ = some (.string o))
    (first | go_keep | (go_split_ands; refine ⟨?_, ?_, ?_⟩ <;> (rw [hb3.cell (by first | (simp; done) | exact World.block_lt_of_cell? _ _ (by assumption))]; assumption)) | (go_split_ands; refine ⟨?_, ?_, ?_⟩ <;> (rw [hb4.cell (by first | (simp; done) | exact World.block_lt_of_cell? _ _ (by assumption))]; assumption)) | (go_split_ands; refine ⟨?_, ?_, ?_⟩ <;> (rw [hb5.cell (by first | (simp; done) | exact World.block_lt_of_cell? _ _ (by assumption))]; assumption)))
    (first
      | (go_at_call 29; refine (toTriS a len cap ts _ h2d hl1).mono ?_; rintro e w3 ⟨v, rfl, o3, hb3⟩; obtain ⟨x3, y3, rfl, i3, p3⟩ := OwnT.plain o3 HM.out; rw [HL.out] at i3 ⊢)
      | (go_at_call 30; refine (toTri s p o _).mono ?_; rintro e w4 ⟨rfl, hb4⟩)
      | (go_at_call 16; refine (HC1.out x3 y3 _ (i3.next hb4) p3).mono ?_; rintro e w5 ⟨v, rfl, o5, hb5⟩; obtain ⟨x5, y5, rfl, i5⟩ := o5.is HRM.out; rw [HN.out] at i5 ⊢))
  have B4 := (B2d.trans (hb3.mono B2d.size)).trans (hb4.mono (B2d.trans (hb3.mono B2d.size)).size)
  have B5 := B4.trans (hb5.mono B4.size)
  clear hb3 hb4 hb5 B2d B4 h2d c0 c1 c2 i3 p3 o3 o5
  go_wp2_with fail
  refine (toTriS a len cap ts _ (h0.next B5) hl1).mono ?_
  rintro e w6 ⟨v, rfl, o6, hb6⟩
  have hlt6 := fun j hj => (World.ownsRow.lt o6 j hj)
  obtain ⟨x6, y6, rfl, i6, p6⟩ := OwnT.plain o6 HM.out
  rw [HL.out] at i6 hlt6 ⊢
  have O6 := Lib.hid o6
  have B6 := B5.trans (hb6.mono B5.size)
  have E6 : Below w5.heap.size w5 w6 := hb6
  obtain ⟨c0, c1, c2⟩ := (X0.next B6).cells
  clear hb6 o6
  go_wp2_with fail
  refine (toTri s p o _).mono ?_
  rintro e w7 ⟨rfl, hb7⟩
  have B7 := B6.trans (hb7.mono B6.size)
  have E7 := E6.trans (hb7.mono E6.size)
  have F7 : Below w6.heap.size w6 w7 := hb7
  clear hb7 B6 E6 c0 c1 c2
  go_wp2_with fail
  refine (HC2.out x6 y6 _ (i6.next F7)).mono ?_
  rintro e w8 ⟨v, rfl, o8, hb8⟩
  have hlt8 := fun j hj => (World.ownsRow.lt o8 j hj).1
  obtain ⟨x8, y8, rfl, i8⟩ := o8.is HRM.out
  rw [HN.out] at i8 hlt8 ⊢
  have O8 := Lib.hid o8
  have B8 := B7.trans (hb8.mono B7.size)
  have E8 := E7.trans (hb8.mono E7.size)
  have F8 := F7.trans (hb8.mono F7.size)
  have hz7 := F7.size
  have hz57 := E7.size
  have hz5 := B5.size
  clear hb8 B7 E7 F7 o8 p6
  go_wp2_with fail
  refine (eqTriS x8 x5 N y8 N y5 R _ i8 (i5.next E8) (by omega)).mono ?_
  rintro e w9 ⟨rfl, hb9⟩
  have B9 := B8.trans (hb9.mono B8.size)
  have E9 := E8.trans (hb9.mono E8.size)
  have F9 := F8.trans (hb9.mono F8.size)
  have O9 := Lib.hid (own_next O8.out (grown_of_below hb9))
  clear hb9 B8 E8 F8 O8 i8
  cases bb
  all_goals
    go_wp2_with fail
    refine (toTriS a len cap ts _ (h0.next B9) hl1).mono ?_
    rintro e wa ⟨v, rfl, oa, hba⟩
    obtain ⟨xa, ya, rfl, ia⟩ := oa.is HM.out
    rw [HL.out] at ia ⊢
    have Ba := B9.trans (hba.mono B9.size)
    have Ea := E9.trans (hba.mono E9.size)
    have Fa := F9.trans (hba.mono F9.size)
    have Oa := Lib.hid (own_next O9.out (grown_of_below hba))
    clear hba B9 E9 F9 O9 oa
    go_wp2_with fail
    refine (eqTriS x6 xa len y6 len ya ts _ (i6.next Fa) ia hl1).mono ?_
    rintro e wb ⟨rfl, hbb⟩
    have Bb := Ba.trans (hbb.mono Ba.size)
    have Eb := Ea.trans (hbb.mono Ea.size)
    have Fb := Fa.trans (hbb.mono Fa.size)
    have Ob := Lib.hid (own_next Oa.out (grown_of_below hbb))
    have MK := markAny w5.heap.size _ ts wb (own_next O6.out (grown_of_below Fb)) (by rw [HL.out]; exact hl1) 1 (by omega) (by omega)
    rw [HL.out] at MK
    obtain ⟨M, hM⟩ : ∃ M : Nat, 1 + 3 * len = M := ⟨_, rfl⟩
    rw [hM] at MK
    have HMK := Lib.hid MK
    have hM0 : ¬ (M : Int) < 0 := by omega
    clear hbb Ba Ea Fa Oa ia i6 MK Fb hM O6
    go_wp2_with fail
    refine HMK.out.mono ?_
    rintro e wc ⟨rfl, hgc⟩
    have Bc := Bb.grown hgc Bb.size (fun j hj => by have := (hlt6 j hj).1; have := B5.size; omega)
    have Ec := Eb.grown hgc Eb.size (fun j hj => (hlt6 j hj).1)
    have oc := World.ownsRow.kept Ob.out hgc (by
      rw [HN.out]
      rcases hv : (Value.slice x8 N y8).ownBlock with _ | j
      · exact .inl rfl
      · refine .inr fun e => ?_
        have := (hlt6 j e.symm).2
        have := hlt8 j hv
        omega)
    have Oc : Hid (OwnT w7.heap.size wc (.slice x8 N y8) R) := Lib.hid (by rw [HN.out] at oc; unfold OwnT; rw [HN.out]; exact oc)
    obtain ⟨x9, y9, hv9, ic⟩ := Oc.out.is HRM.out
    rw [HN.out] at hv9 ic
    simp only [Value.slice.injEq, true_and] at hv9
    obtain ⟨rfl, rfl⟩ := hv9
    clear oc HMK hgc Bb Eb Ob
    go_wp2_with fail
    refine (eqTriS x8 x5 N y8 N y5 R _ ic (i5.next Ec) (by omega)).mono ?_
    rintro e wd ⟨rfl, hbd⟩
    have Bd := Bc.trans (hbd.mono Bc.size)
    have Ed := Ec.trans (hbd.mono Ec.size)
    have Od := own_next Oc.out (grown_of_below hbd)
    have MK := markTriS w7.heap.size _ R wd Od (by rw [HN.out]; exact hR80)
    rw [HN.out] at MK
    obtain ⟨K, hK⟩ : ∃ K : Int, 1 + 3 * (N : Int) = K := ⟨_, rfl⟩
    have hK0 : ¬ K < 0 := by omega
    rw [hK] at MK
    have HMK := Lib.hid MK
    clear hbd Bc Ec Oc ic Od MK
    go_wp2_with fail
    refine HMK.out.mono ?_
    rintro e wf ⟨rfl, of, hgf⟩
    have Bf := Bd.grown hgf Bd.size (fun j hj => by have := hlt8 j hj; have := hz57; omega)
    have Ef := Ed.grown hgf Ed.size (fun j hj => by have := hlt8 j hj; have := hz57; omega)
    obtain ⟨x9, y9, hv9, if_⟩ := of.is (marks_small N hR80)
    rw [marksT_len] at hv9 if_
    simp only [Value.slice.injEq, true_and] at hv9
    obtain ⟨rfl, rfl⟩ := hv9
    have HD := heldTriS x8 N y8
    rw [hK] at HD
    have HLD := Lib.hid HD
    clear HD HMK hgf of Bd Ed hK
    go_wp2_with fail
    refine (HLD.out _ if_ hR80).mono ?_
    rintro e wg ⟨rfl, hbg⟩
    have Bg := Bf.trans (hbg.mono Bf.size)
    have Eg := Ef.trans (hbg.mono Ef.size)
    have ig := if_.next hbg
    clear hbg Bf Ef if_
    have Bgd := Bg.drew
    have hgd := h0.next Bgd
    obtain ⟨c0, c1, c2⟩ := (X0.next Bg).cells
    have Egd := Eg.drew
    have igd : IsTris wg.drew x8 N y8 (marksT N) := ig.next ((Below.refl _ _).drew)
    clear Bg Eg ig
    go_wp2_with fail
    go_region_held3 (fun w' => w'.cell? ⟨w.heap.size, 0, none⟩ = some (.string s) ∧ w'.cell? ⟨w.heap.size, 1, none⟩ = some (.string p) ∧ w'.cell? ⟨w.heap.size, 2, none⟩ = some (.string o))
      (first | go_keep | (go_split_ands; refine ⟨?_, ?_, ?_⟩ <;> (rw [hbh.cell (by first | (simp; done) | exact World.block_lt_of_cell? _ _ (by assumption))]; assumption)) | (go_split_ands; refine ⟨?_, ?_, ?_⟩ <;> (rw [hbi.cell (by first | (simp; done) | exact World.block_lt_of_cell? _ _ (by assumption))]; assumption)) | (go_split_ands; refine ⟨?_, ?_, ?_⟩ <;> (rw [hbj.cell (by first | (simp; done) | exact World.block_lt_of_cell? _ _ (by assumption))]; assumption)))
      (first
        | (go_at_call 29; refine (toTriS a len cap ts _ hgd hl1).mono ?_; rintro e wh ⟨v, rfl, oh, hbh⟩; obtain ⟨xh, yh, rfl, ih⟩ := oh.is HM.out; rw [HL.out] at ih ⊢)
        | (go_at_call 30; refine (toTri s p o _).mono ?_; rintro e wi ⟨rfl, hbi⟩)
        | (go_at_call 15; refine (HC2.out xh yh _ (ih.next hbi)).mono ?_; rintro e wj ⟨v, rfl, oj, hbj⟩; obtain ⟨xj, yj, rfl, ij⟩ := oj.is HRM.out; rw [HN.out] at ij ⊢))
    have Bi := (Bgd.trans (hbh.mono Bgd.size)).trans (hbi.mono (Bgd.trans (hbh.mono Bgd.size)).size)
    have Bj := Bi.trans (hbj.mono Bi.size)
    have Ei := (Egd.trans (hbh.mono Egd.size)).trans (hbi.mono (Egd.trans (hbh.mono Egd.size)).size)
    have Ej := Ei.trans (hbj.mono Ei.size)
    have igj := ((igd.next hbh).next hbi).next hbj
    clear hbh hbi hbj Bgd Egd Bi Ei igd hgd c0 c1 c2 ih oh oj
    go_wp2_with fail
    refine (eqTriS xj x5 N yj N y5 R _ ij (i5.next Ej) (by omega)).mono ?_
    rintro e wk ⟨rfl, hbk⟩
    have Bk := Bj.trans (hbk.mono Bj.size)
    have igk := igj.next hbk
    clear hbk Bj Ej igj ij
    go_wp2_with fail
    refine (HLD.out _ igk hR80).mono ?_
    rintro e wl ⟨rfl, hbl⟩
    have Bl := Bk.trans (hbl.mono Bk.size)
    clear hbl igk
    go_wp2_with fail
    go_ret
    exact ⟨rfl, BW.trans (Bl.mono BW.size)⟩
end fnExactWith
end Go.Proofs.Ytmklnkogmidkdaa
