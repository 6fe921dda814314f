/- The text of a rule: the program's and the specification's. -/
import Derived.Test.YtapcbhpkbdlinabRulT
import Derived.Test.YtapcbhpkbdlinabTri2P
import Derived.Test.YtapcbhpkbdlinabBuild
namespace Go.Proofs.Ytapcbhpkbdlinab
open Go.RowKit Go.WideShapes
def patL (t : Tri3) : List UInt8 := t.1.data.toList ++ 32 :: (t.2.1.data.toList ++ 32 :: (t.2.2.data.toList ++ [32, 46]))
def pats (ts : List Tri3) : List UInt8 := ts.flatMap fun t => patL t ++ [32]
def ruleL (ts : List Tri3) (h : Tri3) : List UInt8 := if ruleOk ts h then pats ts ++ (61 :: 62 :: 32 :: patL h) else []
theorem pats_snoc (ts : List Tri3) (t : Tri3) : pats (ts ++ [t]) = pats ts ++ (patL t ++ [32]) := by unfold pats; rw [List.flatMap_append]; simp
theorem patL_len (t : Tri3) : (patL t).length = t.1.size + t.2.1.size + t.2.2.size + 4 := by
  unfold patL; simp; omega
theorem pats_len {ts : List Tri3} (h : Sm ts) : (pats ts).length ≤ ts.length * 7000000 := by
  induction ts with
  | nil => simp [pats]
  | cons t r ih =>
    have ih := ih fun u hu => h u (List.mem_cons_of_mem _ hu)
    have ht := h t (List.mem_cons_self ..)
    have hl := patL_len t
    have e : pats (t :: r) = (patL t ++ [32]) ++ pats r := by simp [pats]
    rw [e, List.length_append, List.length_append, List.length_cons]
    simp only [List.length_cons, List.length_nil]
    omega
theorem rule_most {ts : List Tri3} {h : Tri3} (hr : ruleOk ts h = true) : ts.length ≤ 4 := by
  unfold ruleOk at hr
  simp only [Bool.and_eq_true] at hr
  have hb := hr.2.1
  unfold bgpOk at hb
  simp only [Bool.and_eq_true, decide_eq_true_eq] at hb
  exact hb.1
theorem pats_take {ts : List Tri3} {t : Tri3} (h : Sm ts) (hg : ruleOk ts t = true) (k : Nat) : (pats (ts.take k)).length ≤ 28000000 := by
  have a := pats_len (ts := ts.take k) fun t ht => h t (List.mem_of_mem_take ht)
  have b := rule_most hg
  have c : (ts.take k).length ≤ ts.length := by rw [List.length_take]; omega
  omega
theorem Box4.keeps {w w' : World} {g : Nat} {x y z u : Value} {T : TypeId} (h : Box4 w g x y z u T) (hk : Keeps w w') (h1 : T ≠ 64) (h2 : T ≠ 5) : Box4 w' g x y z u T := hk _ _ _ _ h h1 h2
theorem rt_one (x : ByteArray) : (x ++ { data := #[32] }).data.toList = x.data.toList ++ [32] := by simp
theorem rt_head (x : ByteArray) : ({ data := #[61, 62, 32] } ++ x : ByteArray).data.toList = 61 :: 62 :: 32 :: x.data.toList := by simp
theorem rt_line (y x : ByteArray) : y ++ x ++ { data := #[32] } = bs (y.data.toList ++ (x.data.toList ++ [32])) := by
  apply bs_eq
  simp
theorem rt_end (y x : ByteArray) : y ++ { data := #[61, 62, 32] } ++ x = bs (y.data.toList ++ (61 :: 62 :: 32 :: x.data.toList)) := by
  apply bs_eq
  simp
set_option maxRecDepth 100000 in
theorem specRulePat (s p o : ByteArray) (hs : s.size ≤ 2097152) (hp : p.size ≤ 2097152) (ho : o.size ≤ 2097152) (w : World) :
    Calls Try.prog 34 #[.agg #[.string s, .string p, .string o]] w fun e w' => e = .returned (.string (bs (patL (s, p, o)))) ∧ Below w.heap.size w w' := by
  have HJ := Lib.hid (join_text s p o)
  unfold patL
  go_enter Try.func34, Try.ntmps34
  go_wp2_with fail
  go_ret
  exact ⟨by rw [← HJ.out]; rfl, (Below.refl _ _).alloc (Nat.le_refl _) _⟩
set_option maxRecDepth 100000 in
set_option maxHeartbeats 1600000 in
theorem implRuleText (a : Option Addr) (n c : Nat) (ts : List Tri3) (s p o : ByteArray) (w : World) (h : IsTris w a n c ts) (hsm : Sm ts) (hn : n ≤ 1048576) (hs : s.size ≤ 2097152) (hp : p.size ≤ 2097152) (ho : o.size ≤ 2097152) :
    Calls Try.prog 10 #[.agg #[.slice a n c, .string s, .string p, .string o]] w fun e w' => e = .returned (.string (bs (ruleL ts (s, p, o)))) ∧ Below w.heap.size w w' := by
  have B0 := (Below.refl w.heap.size w).alloc (Nat.le_refl _) (.cells #[.slice a n c, .string s, .string p, .string o] 32)
  have X0 := Box4.new w (.slice a n c) (.string s) (.string p) (.string o) 32
  have C' := implRuleOk a n c ts s p o _ (h.next B0) hsm hn hs hp ho
  obtain ⟨x0, x1, x2, x3⟩ := X0.cells
  obtain ⟨q, hq⟩ : ∃ q, ruleL ts (s, p, o) = q := ⟨_, rfl⟩
  rw [hq]
  unfold ruleL at hq
  cases hg : ruleOk ts (s, p, o)
  · rw [hg] at C' hq
    have C := Lib.hid C'
    have HQ := Lib.hid hq
    clear C' h hsm hg hq
    go_enter Try.func10, Try.ntmps10
    go_wp2_with fail
    refine C.out.mono ?_
    rintro e w1 ⟨rfl, hb1⟩
    go_wp2_with fail
    go_ret
    exact ⟨by rw [← HQ.out]; rfl, B0.trans (hb1.mono B0.size)⟩
  · rw [hg] at C' hq
    have C := Lib.hid C'
    have HQ : Hid (pats ts ++ (61 :: 62 :: 32 :: patL (s, p, o)) = q) := Lib.hid hq
    have HL := Lib.hid (pats_take hsm hg)
    have HI := Lib.hid h
    have HM := Lib.hid hsm
    have HT := Lib.hid h.len
    have P1 := implPointed s p o hs hp ho
    obtain ⟨z, hz⟩ : ∃ z, bs (s.data.toList ++ 32 :: (p.data.toList ++ 32 :: (o.data.toList ++ [32, 46]))) = z := ⟨_, rfl⟩
    have hzs : z.size ≤ 6291460 := by rw [← hz, bs_size]; simp; omega
    have HZ : Hid (patL (s, p, o) = z.data.toList) := Lib.hid (by rw [← hz, bs_toList]; rfl)
    rw [hz] at P1
    have PE := Lib.hid P1
    clear C' h hsm hg hq hz P1
    go_enter Try.func10, Try.ntmps10
    go_wp2_with fail
    refine C.out.mono ?_
    rintro e w1 ⟨rfl, hb1⟩
    have B1 := B0.trans (hb1.mono B0.size)
    have X1 := X0.next hb1
    have hz1 := B1.size
    have N0 := bldNew w1
    have B2 : Below w.heap.size w _ := B1.alloc hz1 (.cells #[.pointer none, .slice none 0 0] 64)
    have X2 := X1.alloc (.cells #[.pointer none, .slice none 0 0] 64)
    clear C B0 X0 x0 x1 x2 x3 hb1 B1 X1
    obtain ⟨x0, x1, x2, x3⟩ := X2.cells
    go_wp2_with fail
    go_loopw [12] (fun i wr => ∃ k : Nat, k ≤ n ∧ i = .int .i64 k ∧ Hid (Bld w1.heap.size w1.heap.size (pats (ts.take k)) wr) ∧ Hid (Box4 wr w.heap.size (.slice a n c) (.string s) (.string p) (.string o) 32) ∧ Below w.heap.size w wr) (fun i _ => n - (intOf i).toNat)
    case atStart => exact ⟨0, Nat.zero_le _, rfl, Lib.hid N0, Lib.hid X2, B2⟩
    case round =>
      obtain ⟨k, hk, rfl, hbd, hbx, hnx⟩ := hrel
      have hbl := hbd.out.lt
      by_cases hlt : k < n
      · obtain ⟨b, off, rfl, hb, hl, hm, hts, hc⟩ := HI.out.cells (by omega)
        have ht : ts[k]? = some ts[k] := List.getElem?_eq_getElem (by omega)
        have HK : Hid (ts.take (k + 1) = ts.take k ++ [ts[k]]) := Lib.hid (List.take_succ_eq_append_getElem (by omega))
        obtain ⟨s1, s2, s3⟩ := HM.out ts[k] (List.getElem_mem _)
        obtain ⟨c0, c1, c2, m0, m1, m2⟩ := hc k _ ht
        clear m0 m1 m2
        rw [← hnx.cell (p := ⟨b, _, none⟩) hb] at c0 c1 c2
        generalize ts[k] = t at c0 c1 c2 HK s1 s2 s3
        have HN : Hid (pats (ts.take (k + 1)) = pats (ts.take k) ++ (patL t ++ [32])) := Lib.hid (by rw [HK.out, pats_snoc])
        obtain ⟨l, hll⟩ : ∃ l, pats (ts.take k) = l := ⟨_, rfl⟩
        have hln := HL.out k
        rw [hll] at hbd HN hln
        have T1 := implPointed t.1 t.2.1 t.2.2 s1 s2 s3
        obtain ⟨x, hx⟩ : ∃ x, bs (t.1.data.toList ++ 32 :: (t.2.1.data.toList ++ 32 :: (t.2.2.data.toList ++ [32, 46]))) = x := ⟨_, rfl⟩
        have hxs : x.size ≤ 6291460 := by rw [← hx, bs_size]; simp; omega
        have HX : Hid (patL t = x.data.toList) := Lib.hid (by rw [← hx, bs_toList]; rfl)
        rw [hx] at T1
        have E := Lib.hid T1
        obtain ⟨xb, hx2⟩ : ∃ xb, x ++ ({ data := #[32] } : ByteArray) = xb := ⟨_, rfl⟩
        have hx2s : l.length + xb.size ≤ 140737488355328 := by rw [← hx2, ByteArray.size_append]; have : ({ data := #[32] } : ByteArray).size = 1 := rfl; omega
        have HX2 : Hid (xb.data.toList = patL t ++ [32]) := Lib.hid (by rw [← hx2, rt_one, HX.out])
        have HE2 := Lib.hid hx2
        clear hx2
        have T0 := Box.new wr (.string t.1) (.string t.2.1) (.string t.2.2) 30
        have P0 := bldKeep hbd.out (World.grownBy_alloc wr (.cells #[.string t.1, .string t.2.1, .string t.2.2] 30) none)
        have Y0 := hbx.out.alloc (.cells #[.string t.1, .string t.2.1, .string t.2.2] 30)
        have B1 := hnx.alloc hnx.size (.cells #[.string t.1, .string t.2.1, .string t.2.2] 30)
        obtain ⟨e0, e1, e2⟩ := T0.cells
        clear HK ht hts hc hm hll hx T1 hbd hbx B2 X2 N0 x0 x1 x2 x3
        go_wp2_with fail
        refine (E.out _).mono ?_
        rintro e w2 ⟨rfl, hb2⟩
        have P1 := bldKeep P0 (grown_of_below hb2)
        have Y1 := Y0.next hb2
        have B2 := B1.trans (hb2.mono B1.size)
        clear P0 Y0 B1 hb2 e0 e1 e2 T0 hnx c0 c1 c2
        have z2 := P1.lt
        go_wp2_with fail
        rw [HE2.out]
        refine (bldText w1.heap.size w1.heap.size l xb _ P1 hx2s (by omega)).mono ?_
        rintro e w3 ⟨⟨nn, rfl⟩, P2, hb3, hk3⟩
        have Y2 := Y1.keeps hk3 (by decide) (by decide)
        have B3 := B2.trans (hb3.mono hz1)
        clear P1 B2 hb3 z2 hk3 Y1
        go_wp2_with fail
        go_roundw
        case rel => exact ⟨k + 1, by omega, by go_num, Lib.hid (by rw [HN.out, ← HX2.out]; exact P2), Lib.hid Y2, B3⟩
        case measure => simp [intOf]; omega
      · have HF : Hid (pats (ts.take k) = pats ts) := Lib.hid (by rw [List.take_of_length_le (by rw [HT.out]; omega)])
        have hln := HL.out k
        have P0 := hbd.out
        rw [HF.out] at P0 hln
        obtain ⟨l, hll⟩ : ∃ l, pats ts = l := ⟨_, rfl⟩
        rw [hll] at P0 hln HQ
        have Y0 := hbx.out
        clear hbd hbx B2 X2 N0 x0 x1 x2 x3 hll HF
        obtain ⟨x0, x1, x2, x3⟩ := Y0.cells
        obtain ⟨z9, hz9⟩ : ∃ z9, ({ data := #[61, 62, 32] } : ByteArray) ++ z = z9 := ⟨_, rfl⟩
        have hz9s : l.length + z9.size ≤ 140737488355328 := by rw [← hz9, ByteArray.size_append]; have : ({ data := #[61, 62, 32] } : ByteArray).size = 3 := rfl; omega
        have HE : Hid (l ++ z9.data.toList = q) := Lib.hid (by rw [← hz9, rt_head, ← HZ.out]; exact HQ.out)
        have HE2 := Lib.hid hz9
        clear hz9
        go_wp2_with fail
        refine (PE.out _).mono ?_
        rintro e w2 ⟨rfl, hb2⟩
        have P1 := bldKeep P0 (grown_of_below hb2)
        have B2 := hnx.trans (hb2.mono hnx.size)
        clear P0 hb2 hnx x0 x1 x2 x3 Y0
        have z2 := P1.lt
        go_wp2_with fail
        rw [HE2.out]
        refine (bldText w1.heap.size w1.heap.size l z9 _ P1 hz9s (by omega)).mono ?_
        rintro e w3 ⟨⟨nn, rfl⟩, P2, hb3, _⟩
        have B3 := B2.trans (hb3.mono hz1)
        have z3 := P2.lt
        rw [HE.out] at P2
        clear P1 B2 hb3 z2 HE
        go_wp2_with fail
        refine (bldString _ _ q _ P2 (by omega)).mono ?_
        rintro e w4 ⟨rfl, hb4⟩
        have B4 := B3.trans (hb4.mono hz1)
        go_wp2_with fail
        go_ret
        exact ⟨rfl, B4⟩
set_option maxRecDepth 100000 in
set_option maxHeartbeats 1600000 in
theorem specRuleText (a : Option Addr) (n c : Nat) (ts : List Tri3) (s p o : ByteArray) (w : World) (h : IsTris w a n c ts) (hsm : Sm ts) (hn : n ≤ 1048576) (hs : s.size ≤ 2097152) (hp : p.size ≤ 2097152) (ho : o.size ≤ 2097152) :
    Calls Try.prog 8 #[.agg #[.slice a n c, .string s, .string p, .string o]] w fun e w' => e = .returned (.string (bs (ruleL ts (s, p, o)))) ∧ Below w.heap.size w w' := by
  have B0 := (Below.refl w.heap.size w).alloc (Nat.le_refl _) (.cells #[.slice a n c, .string s, .string p, .string o] 32)
  have X0 := Box4.new w (.slice a n c) (.string s) (.string p) (.string o) 32
  have C' := specRuleOk a n c ts s p o _ (h.next B0) hsm hn hs hp ho
  obtain ⟨x0, x1, x2, x3⟩ := X0.cells
  obtain ⟨q, hq⟩ : ∃ q, ruleL ts (s, p, o) = q := ⟨_, rfl⟩
  rw [hq]
  unfold ruleL at hq
  cases hg : ruleOk ts (s, p, o)
  · rw [hg] at C' hq
    have C := Lib.hid C'
    have HQ := Lib.hid hq
    clear C' h hsm hg hq
    go_enter Try.func8, Try.ntmps8
    go_wp2_with fail
    refine C.out.mono ?_
    rintro e w1 ⟨rfl, hb1⟩
    go_wp2_with fail
    go_ret
    exact ⟨by rw [← HQ.out]; rfl, B0.trans (hb1.mono B0.size)⟩
  · rw [hg] at C' hq
    have C := Lib.hid C'
    have HQ : Hid (pats ts ++ (61 :: 62 :: 32 :: patL (s, p, o)) = q) := Lib.hid hq
    have HL := Lib.hid (pats_take hsm hg)
    have HI := Lib.hid h
    have HM := Lib.hid hsm
    have HT := Lib.hid h.len
    have P1 := specRulePat s p o hs hp ho
    obtain ⟨z, hz⟩ : ∃ z, bs (patL (s, p, o)) = z := ⟨_, rfl⟩
    have hzs : z.size ≤ 6291460 := by rw [← hz, bs_size, patL_len]; simp only; omega
    have HZ : Hid (patL (s, p, o) = z.data.toList) := Lib.hid (by rw [← hz, bs_toList])
    rw [hz] at P1
    have PE := Lib.hid P1
    clear C' h hsm hg hq hz P1
    go_enter Try.func8, Try.ntmps8
    go_wp2_with fail
    refine C.out.mono ?_
    rintro e w1 ⟨rfl, hb1⟩
    have B1 := B0.trans (hb1.mono B0.size)
    have X1 := X0.next hb1
    clear C B0 X0 x0 x1 x2 x3 hb1
    go_wp2_with fail
    go_loopw [3, 4] (fun v i wr => ∃ k : Nat, k ≤ n ∧ i = .int .i64 k ∧ v = .string (bs (pats (ts.take k))) ∧ Hid (Box4 wr w.heap.size (.slice a n c) (.string s) (.string p) (.string o) 32) ∧ Below w.heap.size w wr) (fun _ i _ => n - (intOf i).toNat)
    case atStart => exact ⟨0, Nat.zero_le _, rfl, rfl, Lib.hid X1, B1⟩
    case round =>
      obtain ⟨k, hk, rfl, rfl, hbx, hnx⟩ := hrel
      have Y0 := hbx.out
      obtain ⟨x0, x1, x2, x3⟩ := Y0.cells
      obtain ⟨y, hy⟩ : ∃ y, bs (pats (ts.take k)) = y := ⟨_, rfl⟩
      have hys : y.size ≤ 28000000 := by rw [← hy, bs_size]; exact HL.out k
      have hyl : y.data.toList = pats (ts.take k) := by rw [← hy, bs_toList]
      rw [hy]
      clear B1 X1 hbx
      by_cases hlt : k < n
      · obtain ⟨b, off, rfl, hb, hl, hm, hts, hc⟩ := HI.out.cells (by omega)
        have ht : ts[k]? = some ts[k] := List.getElem?_eq_getElem (by omega)
        have HK : Hid (ts.take (k + 1) = ts.take k ++ [ts[k]]) := Lib.hid (List.take_succ_eq_append_getElem (by omega))
        obtain ⟨s1, s2, s3⟩ := HM.out ts[k] (List.getElem_mem _)
        obtain ⟨c0, c1, c2, m0, m1, m2⟩ := hc k _ ht
        clear m0 m1 m2
        rw [← hnx.cell (p := ⟨b, _, none⟩) hb] at c0 c1 c2
        generalize ts[k] = t at c0 c1 c2 HK s1 s2 s3
        have HN : Hid (pats (ts.take (k + 1)) = pats (ts.take k) ++ (patL t ++ [32])) := Lib.hid (by rw [HK.out, pats_snoc])
        have T1 := specRulePat t.1 t.2.1 t.2.2 s1 s2 s3
        obtain ⟨x, hx⟩ : ∃ x, bs (patL (t.1, t.2.1, t.2.2)) = x := ⟨_, rfl⟩
        have hxs : x.size ≤ 6291460 := by rw [← hx, bs_size, patL_len]; simp only; omega
        have HR : Hid (y ++ x ++ { data := #[32] } = bs (pats (ts.take (k + 1)))) := Lib.hid (by rw [rt_line, HN.out, hyl, ← hx, bs_toList])
        rw [hx] at T1
        have E := Lib.hid T1
        have hk6 : (0 : Int) ≤ (k : Int) := by omega
        have hk7 : (k : Int) < (n : Int) := by omega
        clear HK HN ht hts hc hm hyl hy hx T1
        go_wp2_with fail
        refine (E.out _).mono ?_
        rintro e w2 ⟨rfl, hb2⟩
        have B2 := hnx.trans (hb2.mono hnx.size)
        have Y2 := Y0.next hb2
        clear hb2 hnx c0 c1 c2 Y0 x0 x1 x2 x3
        go_wp2_with fail
        go_roundw
        case rel => exact ⟨k + 1, by omega, by go_num, by rw [← HR.out], Lib.hid Y2, B2⟩
        case measure => simp [intOf]; omega
      · have HR : Hid (y ++ { data := #[61, 62, 32] } ++ z = bs q) := Lib.hid (by rw [rt_end, hyl, List.take_of_length_le (by rw [HT.out]; omega), ← HZ.out, HQ.out])
        clear hyl hy
        go_wp2_with fail
        refine (PE.out _).mono ?_
        rintro e w2 ⟨rfl, hb2⟩
        have B2 := hnx.trans (hb2.mono hnx.size)
        clear hb2 hnx Y0 x0 x1 x2 x3
        go_wp2_with fail
        go_ret
        exact ⟨by rw [← HR.out]; rfl, B2⟩
end Go.Proofs.Ytapcbhpkbdlinab
