/- Drawn graphs are small; what lies far stays while one draws. -/
import Derived.Test.YtmklnkogmidkdaaG08
import Derived.Test.YtmklnkogmidkdaaG17
import Derived.Test.YtmklnkogmidkdaaG16
import Derived.Deep.RegionWith
import Derived.RegionTactic
namespace Go.Proofs.Ytmklnkogmidkdaa
open Go.RowKit Go.WideShapes
def SmG (ts : List Tri3) : Prop := ts.length ≤ 81 ∧ ∀ t ∈ ts, t.1.size ≤ 20 ∧ t.2.1.size ≤ 20 ∧ t.2.2.size ≤ 20
theorem SmG.sm {ts : List Tri3} (h : SmG ts) : Sm ts := fun t ht => by have := h.2 t ht; omega
theorem SmG.maxLen {ts : List Tri3} (h : SmG ts) : ∀ t ∈ ts, t.1.size ≤ maxLen ∧ t.2.1.size ≤ maxLen ∧ t.2.2.size ≤ maxLen := fun t ht => by have := h.2 t ht; unfold Go.maxLen; omega
theorem own_rd {B C g : Nat} {w w' : World} {v : Value} {ts : List Tri3} (h : OwnT B w v ts) (hg : w.grownBy w' (some g)) (hBg : g < C) (hC : C ≤ B) : OwnT B w' v ts := by
  refine World.ownsRow.kept h hg ?_
  rcases hv : v.ownBlock with _ | q
  · exact .inl rfl
  · refine .inr fun e => ?_
    have := (World.ownsRow.lt h q hv).1
    cases e
    omega
theorem grown_off {a b c : World} {row r : Option Nat} (h : a.grownBy b row) (k : b.grownBy c r) (hr : ∀ j, r = some j → a.heap.size ≤ j) : a.grownBy c row :=
  ⟨k.os.trans h.os, k.tape.trans h.tape, k.output.trans h.output, Nat.le_trans h.size k.size, fun i hi hne => (k.block i (Nat.lt_of_lt_of_le hi h.size) fun e => by have := hr i e.symm; omega).trans (h.block i hi hne)⟩
end Go.Proofs.Ytmklnkogmidkdaa
/- What a drawn graph is: a slice of the call's own, of a bounded length, of texts of a bounded length. -/
namespace Go.Proofs.Ytmklnkogmidkdaa
open Go.RowKit Go.WideShapes
theorem SmG.with_ {ts : List Tri3} {t : Tri3} (h : SmG ts) (ht : t.1.size ≤ 20 ∧ t.2.1.size ≤ 20 ∧ t.2.2.size ≤ 20) : SmG ((withT ts t).getD []) ∧ ((withT ts t).getD []).length ≤ 80 := by
  cases e : withT ts t with
  | none => exact ⟨⟨by simp, by simp⟩, by simp⟩
  | some g =>
    obtain ⟨_, _, rfl, hg⟩ := withT_some e
    have hl := graphOk_len hg
    refine ⟨⟨by simp only [Option.getD_some]; omega, fun u hu => ?_⟩, hl⟩
    rcases putT_mem.1 hu with rfl | hu
    · exact ht
    · exact h.2 u hu
theorem rd_far {B g : Nat} {w w' : World} (h : Rd B w g) (hb : Below w.heap.size w w') : Rd B w' g := h.grown (grown_of_below hb) (by simp)
set_option maxRecDepth 100000 in
set_option maxHeartbeats 1600000 in
theorem rdGraph (B g : Nat) (w : World) (h : Rd B w g) (n : Nat) (hn : n ≤ 1000) :
    Calls Try.prog 42 #[.pointer (some ⟨g, 0, none⟩), .int .i64 n] w fun e w' => ∃ (v : Value) (ts : List Tri3), e = .returned v ∧ SmG ts ∧ OwnT w.heap.size w' v ts ∧ Rd B w' g ∧ w.grownBy w' (some g) := by
  obtain ⟨i0, hi, hz0, hz1, hzB⟩ := info_parts infoTri
  have hgw := h.2.1
  have hBg := h.1
  have R0 := h.alloc (.cells #[] 26)
  have G0 := World.grownBy_alloc w (.cells #[] 26) (some g)
  have O0 : OwnT w.heap.size (w.alloc (.cells #[] 26)) (.slice (some ⟨w.heap.size, 0, none⟩) 0 0) [] := World.ownsRow_lit (size := 3) (e := 26) w #[] 0 (Nat.le_refl _) (by decide) rfl
  have RB := rdBelow B g _ R0 ((n : Int) + 1) (by omega) (by omega)
  have HRB := Lib.hid RB
  have HO := Lib.hid O0
  clear O0 RB R0
  go_enter Try.func42, Try.ntmps42
  go_wp2_with fail
  refine HRB.out.mono ?_
  rintro e w1 ⟨m, hm0, hm1, rfl, r1, g1⟩
  have G1 := G0.trans g1
  have O1 := World.ownsRow.kept HO.out g1 (.inr (by simp [Value.ownBlock]; omega))
  obtain ⟨m, rfl⟩ := Int.eq_ofNat_of_zero_le hm0
  have hm2 : m ≤ n := by omega
  have HR1 := Lib.hid r1
  have HO1 := Lib.hid O1
  clear g1 G0 HO O1 r1 HRB hm0 hm1
  go_wp2_with fail
  go_loopw [5, 6] (fun v' i wr => ∃ (j : Nat) (v : Value) (ts : List Tri3), j ≤ n ∧ i = .int .i64 j ∧ v = v' ∧ Hid (SmG ts ∧ ts.length ≤ 80) ∧ Hid (OwnT w.heap.size wr v ts) ∧ Hid (Rd B wr g) ∧ w.grownBy wr (some g)) (fun _ i _ => (intOf i).toNat)
  case atStart => exact ⟨m, _, [], hm2, rfl, rfl, Lib.hid ⟨⟨by simp, by simp⟩, by simp⟩, HO1, HR1, G1⟩
  case round =>
    obtain ⟨j, v, ts, hj, rfl, rfl, hsm, hown, hrd, hg⟩ := hrel
    clear HO1 HR1 G1 hm2
    obtain ⟨x, y, rfl, ii, pl⟩ := OwnT.plain hown.out hsm.out.1.maxLen
    have hlt := fun j hj => (World.ownsRow.lt hown.out j hj).1
    by_cases hj0 : 0 < j
    · have hj1 : (0 : Int) < (j : Int) := by omega
      have HT := Lib.hid (rdTriple B g wr hrd.out)
      have HI := Lib.hid ii
      have HP := Lib.hid pl
      clear ii pl
      obtain ⟨L, hL⟩ : ∃ L, ts.length = L := ⟨_, rfl⟩
      rw [hL] at HI hlt ⊢
      have HL := Lib.hid hL
      have hL80 : L ≤ 80 := by have := hsm.out.2; omega
      clear hL
      go_wp2_with fail
      refine HT.out.mono ?_
      rintro e w2 ⟨s, p, o, hs, hp, ho, rfl, r2, g2⟩
      have G2 := hg.trans g2
      have O2 : OwnT w.heap.size w2 (.slice x L y) ts := by
        have := World.ownsRow.kept hown.out g2 (by
          rw [HL.out]
          rcases hv : (Value.slice x L y).ownBlock with _ | q
          · exact .inl rfl
          · refine .inr fun e => ?_
            have := hlt q hv
            cases e
            omega)
        unfold OwnT at this ⊢
        rw [HL.out] at this ⊢
        exact this
      obtain ⟨x2, y2, hv2, i2, p2⟩ := OwnT.plain O2 hsm.out.1.maxLen
      rw [HL.out] at hv2 i2
      simp only [Value.slice.injEq, true_and] at hv2
      obtain ⟨rfl, rfl⟩ := hv2
      have C := specWith x L y ts s p o w2 i2 p2 hsm.out.1.sm (by omega) (by omega) (by omega)
      have HW := hsm.out.1.with_ (t := (s, p, o)) ⟨hs.2, hp, ho⟩
      obtain ⟨r, hr⟩ : ∃ r, withT ts (s, p, o) = r := ⟨_, rfl⟩
      rw [hr] at C HW
      have HC := Lib.hid C
      have HWW := Lib.hid HW
      have HR2 := Lib.hid r2
      have HO2 := Lib.hid O2
      clear hrd hown g2 r2 i2 p2 C hr hs hp ho O2 HT HI HP HW hg
      cases r with
      | none =>
        go_wp2_with fail
        refine HC.out.mono ?_
        rintro e w3 ⟨v3, rfl, o3, hb3⟩
        have G3 := G2.trans (grown_any (grown_of_below hb3) (some g))
        have R3 := Lib.hid (rd_far HR2.out hb3)
        have O3 := Lib.hid (own_next HO2.out (grown_of_below hb3))
        clear o3 hb3 HC HWW HR2 HO2 G2
        go_wp2_with fail
        go_roundw
        case rel => exact ⟨j - 1, .slice x L y, ts, by omega, by rw [show ((j - 1 : Nat) : Int) = (j : Int) - 1 from by omega], rfl, hsm, O3, R3, G3⟩
        case measure => simp [intOf]; omega
      | some us =>
        go_wp2_with fail
        refine HC.out.mono ?_
        rintro e w3 ⟨v3, rfl, o3, hb3⟩
        have G3 := G2.trans (grown_any (grown_of_below hb3) (some g))
        have R3 := Lib.hid (rd_far HR2.out hb3)
        have O3 := Lib.hid (own_base o3 G2.size)
        clear o3 hb3 HC HR2 HO2 G2
        go_wp2_with fail
        go_roundw
        case rel => exact ⟨j - 1, v3, us, by omega, by rw [show ((j - 1 : Nat) : Int) = (j : Int) - 1 from by omega], rfl, HWW, O3, R3, G3⟩
        case measure => simp [intOf]; omega
    · obtain rfl : j = 0 := by omega
      have HO := Lib.hid (rdOnce B g wr hrd.out 40 (by omega) (by omega))
      obtain ⟨L, hL⟩ : ∃ L, ts.length = L := ⟨_, rfl⟩
      rw [hL] at ii hlt ⊢
      have HL := Lib.hid hL
      have hL80 : L ≤ 80 := by have := hsm.out.2; omega
      clear hL ii pl
      go_wp2_with fail
      refine HO.out.mono ?_
      rintro e w2 ⟨bb, rfl, r2, g2⟩
      have G2 := hg.trans g2
      have O2 : OwnT w.heap.size w2 (.slice x L y) ts := by
        have := World.ownsRow.kept hown.out g2 (by
          rw [HL.out]
          rcases hv : (Value.slice x L y).ownBlock with _ | q
          · exact .inl rfl
          · refine .inr fun e => ?_
            have := hlt q hv
            cases e
            omega)
        unfold OwnT at this ⊢
        rw [HL.out] at this ⊢
        exact this
      have HR2 := Lib.hid r2
      have HO2 := Lib.hid O2
      clear hrd hown g2 r2 HO hg
      cases bb
      · go_wp2_with fail
        go_ret
        exact ⟨_, ts, rfl, hsm.out.1, HO2.out, HR2.out, G2⟩
      · by_cases hL0 : 0 < L
        · have hL1 : (0 : Int) < (L : Int) := by omega
          obtain ⟨x2, y2, hv2, i2⟩ := HO2.out.is hsm.out.1.maxLen
          rw [HL.out] at hv2 i2
          simp only [Value.slice.injEq, true_and] at hv2
          obtain ⟨rfl, rfl⟩ := hv2
          obtain ⟨b1, off, rfl, hb1, hl', hm, hts, hcs⟩ := i2.cells hL0
          have ht : ts[0]? = some (ts[0]'(by omega)) := List.getElem?_eq_getElem (by omega)
          obtain ⟨c0, c1, c2, m0, m1, m2⟩ := hcs 0 _ ht
          have hu := hsm.out.1.2 _ (List.mem_of_getElem? ht)
          generalize ts[0]'(by omega) = u at ht c0 c1 c2 m0 m1 m2 hu
          simp only [Nat.zero_mul, Nat.add_zero] at c0 c1 c2
          have HS : Hid (SmG (ts ++ [u])) := Lib.hid ⟨by rw [List.length_append, HL.out]; simp; omega, fun t ht => by
            rcases List.mem_append.1 ht with h | h
            · exact hsm.out.1.2 t h
            · obtain rfl := List.mem_singleton.1 h
              exact hu⟩
          have HC : ∀ (j : Nat) (z : Value), [Value.string u.1, .string u.2.1, .string u.2.2][j]? = some z → (w2.alloc (.cells #[.string u.1, .string u.2.1, .string u.2.2] 26)).cell? ((⟨w2.heap.size, 0, none⟩ : Addr).add j) = some z := three_cell
          have HH := Lib.hid HC
          have OA := Lib.hid (World.ownsRow.alloc HO2.out (.cells #[.string u.1, .string u.2.1, .string u.2.2] 26))
          have RA := Lib.hid (HR2.out.alloc (.cells #[.string u.1, .string u.2.1, .string u.2.2] 26))
          have GA := G2.trans (World.grownBy_alloc w2 (.cells #[.string u.1, .string u.2.1, .string u.2.2] 26) (some g))
          have hz2 := G2.size
          clear ht hcs hts hm m0 m1 m2 hu HC HO2 HR2 G2 hsm i2
          go_wp2_with (at_builtin; refine wpList_append_own _ rfl _ _ 24 rfl w.heap.size 26 i0 (.agg #[.string ⟨#[]⟩, .string ⟨#[]⟩, .string ⟨#[]⟩]) 3 48 Try.underlying24 hi hz0 hz1 hzB rfl (by decide) _ _ _ rfl OA.out ⟨w2.heap.size, 0, none⟩ 1 _ [.string u.1, .string u.2.1, .string u.2.2] rfl rfl HH.out (by intro z hz; simp at hz; rcases hz with rfl | rfl | rfl <;> rfl) ?h63 ?h48 ?hbs ?_)
          case h63 => rw [HL.out]; unfold maxLen; omega
          case h48 => rw [HL.out]; omega
          case hbs => simp only [World.size_alloc]; omega
          intro v3 w3 hown3 hg3 _
          have O3 : OwnT w.heap.size w3 v3 (ts ++ [u]) := own3_snoc (t := u) hown3
          have R3 := RA.out.grown hg3 (fun q e => by have := hlt q (by simpa [HL.out] using e); omega)
          have G3 := grown_off GA hg3 (fun q e => by have := hlt q (by simpa [HL.out] using e); omega)
          clear hown3 hg3 OA RA HH GA c0 c1 c2
          go_wp2_with fail
          go_ret
          exact ⟨v3, _, rfl, HS.out, O3, R3, G3⟩
        · obtain rfl : L = 0 := by omega
          go_wp2_with fail
          go_ret
          exact ⟨_, ts, rfl, hsm.out.1, HO2.out, HR2.out, G2⟩
open Go.RowKit Go.WideShapes
set_option maxRecDepth 100000 in
set_option maxHeartbeats 1600000 in
theorem lawHas (a : Option Addr) (len cap : Nat) (ts : List Tri3) (s p o : ByteArray) (w : World) (h : IsTris w a len cap ts) (hl : len ≤ 1048576) :
    Calls Try.prog 20 #[.slice a len cap, .agg #[.string s, .string p, .string o]] w fun e w' => e = .returned (.bool (decide ((s, p, o) ∈ ts))) ∧ Below w.heap.size w w' := by
  have H := Lib.hid h
  have HT := Lib.hid h.len
  have B0 := (Below.refl w.heap.size w).alloc (Nat.le_refl _) (.cells #[.string s, .string p, .string o] 26)
  have X0 := Box.new w (.string s) (.string p) (.string o) 26
  clear h
  go_enter Try.func20, Try.ntmps20
  go_wp2_with fail
  go_loopw [5] (fun i wr => ∃ k : Nat, k ≤ len ∧ i = .int .i64 k ∧ Hid ((s, p, o) ∉ ts.take k) ∧ Hid (Box wr w.heap.size (.string s) (.string p) (.string o) 26) ∧ Below w.heap.size w wr) (fun i _ => len - (intOf i).toNat)
  case atStart => exact ⟨0, Nat.zero_le _, rfl, Lib.hid (by simp), Lib.hid X0, B0⟩
  case round =>
    obtain ⟨k, hk, rfl, hnot, hbox, hnx⟩ := hrel
    clear X0 B0
    have hk6 : (0 : Int) ≤ (k : Int) := by omega
    have hk8 : k ≤ 1048576 := by omega
    by_cases hlt : k < len
    · have hk7 : (k : Int) < (len : Int) := by omega
      obtain ⟨b, off, rfl, hb, hl', hm, hts, hcs⟩ := H.out.cells (by omega)
      have ht : ts[k]? = some (ts[k]'(by omega)) := List.getElem?_eq_getElem (by omega)
      have HS : Hid (ts.take (k + 1) = ts.take k ++ [ts[k]'(by omega)]) := Lib.hid (List.take_succ_eq_append_getElem (by omega))
      obtain ⟨d0, d1, d2, m0, m1, m2⟩ := hcs k _ ht
      rw [← hnx.cell (p := ⟨b, _, none⟩) hb] at d0 d1 d2
      generalize ts[k]'(by omega) = u at ht d0 d1 d2 m0 m1 m2 HS
      obtain ⟨c0, c1, c2⟩ := hbox.out.cells
      by_cases he : u = (s, p, o)
      · subst he
        have HR : Hid (decide ((s, p, o) ∈ ts) = true) := Lib.hid (decide_eq_true (List.mem_of_getElem? ht))
        have EQ := tri_is s p o
        simp only at d0 d1 d2
        clear ht hts hcs hm m0 m1 m2 hl' hnot HS
        go_wp2_with fail
        go_quiet (fail)
        clear EQ
        go_wp2_with fail
        go_ret
        exact ⟨by rw [HR.out]; rfl, below_drewN hnx nq⟩
      · have EQ := tri_isnt he
        simp only at EQ
        have HN : Hid ((s, p, o) ∉ ts.take (k + 1)) := Lib.hid (by
          rw [HS.out, List.mem_append]
          rintro (h | h)
          · exact hnot.out h
          · exact he (List.mem_singleton.1 h).symm)
        have X1 : Hid (∀ n, Box (wr.drewN n) w.heap.size (.string s) (.string p) (.string o) 26) := Lib.hid (fun n => hbox.out)
        have HB : Hid (∀ n, Below w.heap.size w (wr.drewN n)) := Lib.hid (fun n => below_drewN hnx n)
        clear ht hts hcs hm m0 m1 m2 hl' hnot HS he
        go_wp2_with fail
        go_quiet (fail)
        clear EQ
        go_wp2_with fail
        go_roundw
        case rel => exact ⟨k + 1, by omega, by go_num, HN, Lib.hid (X1.out _), HB.out _⟩
        case measure => simp [intOf]; omega
    · obtain rfl : k = len := by omega
      have HR : Hid (decide ((s, p, o) ∈ ts) = false) := Lib.hid (decide_eq_false (by
        have := hnot.out
        rwa [List.take_of_length_le (by rw [HT.out]; exact Nat.le_refl _)] at this))
      go_wp2_with fail
      go_ret
      exact ⟨by rw [HR.out]; rfl, hnx⟩
instance triList (ts us : List Tri3) : Decidable (ts = us) := decidable_of_iff (ts.length = us.length ∧ ∀ i, i < ts.length → ts[i]? = us[i]?) ⟨fun ⟨h, g⟩ => List.ext_getElem? fun i => by
  rcases Nat.lt_or_ge i ts.length with c | c
  · exact g i c
  · rw [List.getElem?_eq_none c, List.getElem?_eq_none (by omega)], fun h => by subst h; exact ⟨rfl, fun _ _ => rfl⟩⟩
set_option maxRecDepth 100000 in
set_option maxHeartbeats 1600000 in
theorem lawSame (a b : Option Addr) (la ca lb cb : Nat) (ts us : List Tri3) (w : World) (h : IsTris w a la ca ts) (k : IsTris w b lb cb us) (hl : la ≤ 1048576) (kl : lb ≤ 1048576) :
    Calls Try.prog 17 #[.slice a la ca, .slice b lb cb] w fun e w' => e = .returned (.bool (decide (ts = us))) ∧ Below w.heap.size w w' := by
  have H := Lib.hid h
  have K := Lib.hid k
  have HT := Lib.hid h.len
  have KT := Lib.hid k.len
  clear h k
  by_cases hne : la = lb
  rotate_left
  · have hb : ((la : Int) != (lb : Int)) = true := by rw [bne_iff_ne]; omega
    have HR : Hid (decide (ts = us) = false) := Lib.hid (decide_eq_false (fun e => hne (by rw [← HT.out, ← KT.out, e])))
    clear hne
    go_enter Try.func17, Try.ntmps17
    go_wp2_with fail
    go_ret
    exact ⟨by rw [HR.out]; rfl, Below.refl _ _⟩
  subst hne
  go_enter Try.func17, Try.ntmps17
  go_wp2_with fail
  go_loopw [5] (fun i wr => ∃ j : Nat, j ≤ la ∧ i = .int .i64 j ∧ Hid (ts.take j = us.take j) ∧ Below w.heap.size w wr) (fun i _ => la - (intOf i).toNat)
  case atStart => exact ⟨0, Nat.zero_le _, rfl, Lib.hid rfl, Below.refl _ _⟩
  case round =>
    obtain ⟨j, hj, rfl, hyes, hnx⟩ := hrel
    have hj6 : (0 : Int) ≤ (j : Int) := by omega
    by_cases hlt : j < la
    · have hj7 : (j : Int) < (la : Int) := by omega
      obtain ⟨b1, off, rfl, hb, hl', hm, hts, hcs⟩ := H.out.cells (by omega)
      obtain ⟨b2, off2, rfl, hb2, hl2', hm2, hts2, hcs2⟩ := K.out.cells (by omega)
      have ht : ts[j]? = some (ts[j]'(by omega)) := List.getElem?_eq_getElem (by omega)
      have hu : us[j]? = some (us[j]'(by omega)) := List.getElem?_eq_getElem (by omega)
      have HS : Hid (ts.take (j + 1) = ts.take j ++ [ts[j]'(by omega)]) := Lib.hid (List.take_succ_eq_append_getElem (by omega))
      have KS : Hid (us.take (j + 1) = us.take j ++ [us[j]'(by omega)]) := Lib.hid (List.take_succ_eq_append_getElem (by omega))
      obtain ⟨c0, c1, c2, m0, m1, m2⟩ := hcs j _ ht
      obtain ⟨d0, d1, d2, n0, n1, n2⟩ := hcs2 j _ hu
      rw [← hnx.cell (p := ⟨b1, _, none⟩) hb] at c0 c1 c2
      rw [← hnx.cell (p := ⟨b2, _, none⟩) hb2] at d0 d1 d2
      generalize ts[j]'(by omega) = t at ht c0 c1 c2 m0 m1 m2 HS
      generalize us[j]'(by omega) = u at hu d0 d1 d2 n0 n1 n2 KS
      have HB : Hid (∀ n, Below w.heap.size w (wr.drewN n)) := Lib.hid (fun n => below_drewN hnx n)
      by_cases he : t = u
      · subst he
        have EQ := tri_same t.1 t.2.1 t.2.2
        have HY : Hid (ts.take (j + 1) = us.take (j + 1)) := Lib.hid (by rw [HS.out, KS.out, hyes.out])
        clear ht hu hts hts2 hcs hcs2 hm hm2 m0 m1 m2 n0 n1 n2 hl' hl2' HS KS hyes hnx
        go_wp2_with fail
        go_quiet (fail)
        clear EQ
        go_wp2_with fail
        go_roundw
        case rel => exact ⟨j + 1, by omega, by go_num, HY, HB.out _⟩
        case measure => simp [intOf]; omega
      · have EQ : ∀ w, (binOp .neq 26 (.agg #[.string t.1, .string t.2.1, .string t.2.2]) (.agg #[.string u.1, .string u.2.1, .string u.2.2])).run Try.prog w = .ok (.bool true) w := fun w => by rw [tri_ne, tri_not he]; rfl
        have HR : Hid (decide (ts = us) = false) := Lib.hid (decide_eq_false (fun e => by
          rw [e, hu] at ht
          exact he (Option.some.inj ht).symm))
        clear ht hu hts hts2 hcs hcs2 hm hm2 m0 m1 m2 n0 n1 n2 hl' hl2' HS KS hyes hnx he
        go_wp2_with fail
        go_quiet (fail)
        clear EQ
        go_wp2_with fail
        go_ret
        exact ⟨by rw [HR.out]; rfl, HB.out _⟩
    · obtain rfl : j = la := by omega
      have HR : Hid (decide (ts = us) = true) := Lib.hid (decide_eq_true (by
        have := hyes.out
        rwa [List.take_of_length_le (by rw [HT.out]; exact Nat.le_refl _), List.take_of_length_le (by rw [KT.out]; exact Nat.le_refl _)] at this))
      go_wp2_with fail
      go_ret
      exact ⟨by rw [HR.out]; rfl, hnx⟩
def inAll (ts us : List Tri3) : Bool := ts.all (fun t => decide (t ∈ us))
set_option maxRecDepth 100000 in
set_option maxHeartbeats 1600000 in
theorem lawWithin (a b : Option Addr) (la ca lb cb : Nat) (ts us : List Tri3) (w : World) (h : IsTris w a la ca ts) (k : IsTris w b lb cb us) (hl : la ≤ 1048576) (kl : lb ≤ 1048576) :
    Calls Try.prog 21 #[.slice a la ca, .slice b lb cb] w fun e w' => e = .returned (.bool (inAll ts us)) ∧ Below w.heap.size w w' := by
  have H := Lib.hid h
  have K := Lib.hid k
  have HT := Lib.hid h.len
  clear h k
  go_enter Try.func21, Try.ntmps21
  go_wp2_with fail
  go_loopw [5] (fun i wr => ∃ j : Nat, j ≤ la ∧ i = .int .i64 j ∧ Hid (inAll (ts.take j) us = true) ∧ Below w.heap.size w wr) (fun i _ => la - (intOf i).toNat)
  case atStart => exact ⟨0, Nat.zero_le _, rfl, Lib.hid rfl, Below.refl _ _⟩
  case round =>
    obtain ⟨j, hj, rfl, hyes, hnx⟩ := hrel
    have hj6 : (0 : Int) ≤ (j : Int) := by omega
    by_cases hlt : j < la
    · have hj7 : (j : Int) < (la : Int) := by omega
      obtain ⟨b1, off, rfl, hb, hl', hm, hts, hcs⟩ := H.out.cells (by omega)
      have ht : ts[j]? = some (ts[j]'(by omega)) := List.getElem?_eq_getElem (by omega)
      have HS : Hid (ts.take (j + 1) = ts.take j ++ [ts[j]'(by omega)]) := Lib.hid (List.take_succ_eq_append_getElem (by omega))
      obtain ⟨c0, c1, c2, m0, m1, m2⟩ := hcs j _ ht
      rw [← hnx.cell (p := ⟨b1, _, none⟩) hb] at c0 c1 c2
      generalize ts[j]'(by omega) = t at ht c0 c1 c2 m0 m1 m2 HS
      obtain ⟨t0, t1, t2⟩ := t
      simp only at c0 c1 c2
      have C := lawHas b lb cb us t0 t1 t2 wr (K.out.next hnx) kl
      by_cases he : (t0, t1, t2) ∈ us
      · rw [decide_eq_true he] at C
        have HC := Lib.hid C
        have HY : Hid (inAll (ts.take (j + 1)) us = true) := Lib.hid (by
          have := hyes.out
          unfold inAll at this ⊢
          rw [HS.out, List.all_append, this]; simp [he])
        clear C ht hts hcs hm m0 m1 m2 hl' HS hyes he
        go_wp2_with fail
        refine HC.out.mono ?_
        rintro e w1 ⟨rfl, hb1⟩
        have B1 := hnx.trans (hb1.mono hnx.size)
        clear hb1 hnx c0 c1 c2 HC
        go_wp2_with fail
        go_roundw
        case rel => exact ⟨j + 1, by omega, by go_num, HY, B1⟩
        case measure => simp [intOf]; omega
      · rw [decide_eq_false he] at C
        have HC := Lib.hid C
        have HR : Hid (inAll ts us = false) := Lib.hid (by
          unfold inAll
          rw [List.all_eq_false]
          exact ⟨_, List.mem_of_getElem? ht, by simp [he]⟩)
        clear C ht hts hcs hm m0 m1 m2 hl' HS hyes he
        go_wp2_with fail
        refine HC.out.mono ?_
        rintro e w1 ⟨rfl, hb1⟩
        go_wp2_with fail
        go_ret
        exact ⟨by rw [HR.out]; rfl, hnx.trans (hb1.mono hnx.size)⟩
    · obtain rfl : j = la := by omega
      have HR : Hid (inAll ts us = true) := Lib.hid (by
        have := hyes.out
        rwa [List.take_of_length_le (by rw [HT.out]; exact Nat.le_refl _)] at this)
      go_wp2_with fail
      go_ret
      exact ⟨by rw [HR.out]; rfl, hnx⟩
open Go.RowKit Go.WideShapes
/-- A slice of triples of a bounded length, short texts each, at a block's own place. -/
def GotG (w : World) (v : Value) (ts : List Tri3) : Prop := ∃ x cap, v = .slice x ts.length cap ∧ IsTris w x ts.length cap ts ∧ Plain x ∧ SmG ts
theorem GotG.next {w w' : World} {v : Value} {ts : List Tri3} (h : GotG w v ts) (hb : Below w.heap.size w w') : GotG w' v ts := by
  obtain ⟨x, cap, hv, hi, hp, hs⟩ := h
  exact ⟨x, cap, hv, hi.next hb, hp, hs⟩
theorem got_of {B : Nat} {w : World} {v : Value} {ts : List Tri3} (h : OwnT B w v ts) (hs : SmG ts) : GotG w v ts := by
  obtain ⟨x, cap, hv, hi, hp⟩ := OwnT.plain h hs.maxLen
  exact ⟨x, cap, hv, hi, hp, hs⟩
theorem SmG.less {ts : List Tri3} {t : Tri3} (h : SmG ts) : SmG ((withoutT ts t).getD []) := by
  cases e : withoutT ts t with
  | none => exact ⟨by simp, by simp⟩
  | some g =>
    obtain ⟨_, _, rfl, hg⟩ := withoutT_some e
    have hl := graphOk_len hg
    exact ⟨by simp only [Option.getD_some]; omega, fun u hu => h.2 u (lessT_mem.1 hu).2⟩
def GotRes (r : Option (List Tri3)) (w : World) (e : Ending) (w' : World) : Prop := ∃ z, e = .returned (.tuple #[z, .bool r.isSome]) ∧ GotG w' z (r.getD []) ∧ Below w.heap.size w w'
theorem gotRes {r : Option (List Tri3)} {w w' : World} {e : Ending} (hs : SmG (r.getD [])) (h : ResPost r w e w') : GotRes r w e w' := by
  obtain ⟨v, he, ho, hb⟩ := h
  exact ⟨v, he, got_of ho hs, hb⟩
theorem sameG {v u : Value} {ts us : List Tri3} {w : World} (h : GotG w v ts) (k : GotG w u us) : Calls Try.prog 17 #[v, u] w fun e w' => e = .returned (.bool (decide (ts = us))) ∧ Below w.heap.size w w' := by
  obtain ⟨x, c, rfl, hi, hp, hs⟩ := h
  obtain ⟨y, d, rfl, ki, kp, ks⟩ := k
  have := hs.1
  have := ks.1
  exact lawSame x y _ c _ d ts us w hi ki (by omega) (by omega)
theorem withinG {v u : Value} {ts us : List Tri3} {w : World} (h : GotG w v ts) (k : GotG w u us) : Calls Try.prog 21 #[v, u] w fun e w' => e = .returned (.bool (inAll ts us)) ∧ Below w.heap.size w w' := by
  obtain ⟨x, c, rfl, hi, hp, hs⟩ := h
  obtain ⟨y, d, rfl, ki, kp, ks⟩ := k
  have := hs.1
  have := ks.1
  exact lawWithin x y _ c _ d ts us w hi ki (by omega) (by omega)
theorem hasG {v : Value} {ts : List Tri3} {w : World} (h : GotG w v ts) (s p o : ByteArray) : Calls Try.prog 20 #[v, .agg #[.string s, .string p, .string o]] w fun e w' => e = .returned (.bool (decide ((s, p, o) ∈ ts))) ∧ Below w.heap.size w w' := by
  obtain ⟨x, c, rfl, hi, hp, hs⟩ := h
  have := hs.1
  exact lawHas x _ c ts s p o w hi (by omega)
theorem graphOkG {v : Value} {ts : List Tri3} {w : World} (h : GotG w v ts) : Calls Try.prog 19 #[v] w fun e w' => e = .returned (.bool (graphOk ts)) ∧ Below w.heap.size w w' := by
  obtain ⟨x, c, rfl, hi, hp, hs⟩ := h
  exact implGraphOk x _ c ts w hi hs.sm
theorem inAll_of {ts us : List Tri3} (h : ∀ t ∈ ts, t ∈ us) : inAll ts us = true := by
  unfold inAll
  rw [List.all_eq_true]
  exact fun t ht => decide_eq_true (h t ht)
open Go.RowKit Go.WideShapes
end Go.Proofs.Ytmklnkogmidkdaa
/- What is drawn for With and Without. -/
namespace Go.Proofs.Ytmklnkogmidkdaa
open Go.RowKit Go.WideShapes
theorem own_off {B g : Nat} {w : World} {v : Value} {ts : List Tri3} (h : OwnT B w v ts) (hg : g < B) (i : Nat) (u : Value) : OwnT B (w.setCell ⟨g, i, none⟩ u) v ts := by
  refine World.ownsRow.kept h (row := some g) ⟨rfl, rfl, rfl, by simp [World.setCell], fun k _ hne => Below.heap_setCell _ _ _ _ (fun e => hne (by rw [e]))⟩ ?_
  rcases hv : v.ownBlock with _ | q
  · exact .inl rfl
  · refine .inr fun e => ?_
    have := (World.ownsRow.lt h q hv).1
    cases e
    omega
/-- One of the triples, and its cells. -/
theorem pick_of {B L : Nat} {w : World} {x : Option Addr} {y : Nat} {ts : List Tri3} (h : OwnT B w (.slice x L y) ts) (hs : SmG ts) (hL : ts.length = L) {m : Nat} (hm : m < L) :
    ∃ (b off : Nat) (u : Tri3), x = some ⟨b, off, none⟩ ∧ w.cell? ⟨b, off + m * 3, none⟩ = some (.string u.1) ∧ w.cell? ⟨b, off + m * 3 + 1, none⟩ = some (.string u.2.1) ∧ w.cell? ⟨b, off + m * 3 + 2, none⟩ = some (.string u.2.2) ∧ u.1.size ≤ 20 ∧ u.2.1.size ≤ 20 ∧ u.2.2.size ≤ 20 := by
  obtain ⟨x2, y2, hv, i2⟩ := h.is hs.maxLen
  rw [hL] at hv i2
  simp only [Value.slice.injEq, true_and] at hv
  obtain ⟨rfl, rfl⟩ := hv
  obtain ⟨b1, off, rfl, _, _, _, hts, hcs⟩ := i2.cells (by omega)
  have ht : ts[m]? = some (ts[m]'(by omega)) := List.getElem?_eq_getElem (by omega)
  obtain ⟨c0, c1, c2, _⟩ := hcs m _ ht
  exact ⟨b1, off, _, rfl, c0, c1, c2, hs.2 _ (List.mem_of_getElem? ht)⟩
set_option maxRecDepth 100000 in
set_option maxHeartbeats 1600000 in
theorem drawWith (w : World) (a : Option Addr) (len cap : Nat) (zs : List Int) (hrow : Frame.IsRow .u8 w a len cap zs) :
    Calls Try.prog 14 #[.slice a len cap] w fun e w' => ∃ (v : Value) (ts : List Tri3) (s p o : ByteArray), e = .returned (.tuple #[v, .agg #[.string s, .string p, .string o]]) ∧ GotG w' v ts ∧ s.size ≤ 20 ∧ p.size ≤ 20 ∧ o.size ≤ 20 ∧ w.grownBy w' none := by
  have R0 := Box.new w (.string ⟨#[]⟩) (.string ⟨#[]⟩) (.string ⟨#[]⟩) 26
  have G0 := World.grownBy_alloc w (.cells #[.string ⟨#[]⟩, .string ⟨#[]⟩, .string ⟨#[]⟩] 26) none
  go_enter Try.func14, Try.ntmps14
  go_wp2_with fail
  refine (rdOpen _ _ _ _ _ (isRow_grown hrow G0)).mono ?_
  rintro e w1 ⟨rfl, r1, g1⟩
  have R1 := R0.grown g1 (by simp)
  have hlt := r1.2.1
  have G1 := G0.trans g1
  have hb1 : w.heap.size < (w.alloc (.cells #[.string ⟨#[]⟩, .string ⟨#[]⟩, .string ⟨#[]⟩] 26)).heap.size := by simp
  obtain ⟨gr, hgr⟩ : ∃ gr, (w.alloc (.cells #[.string ⟨#[]⟩, .string ⟨#[]⟩, .string ⟨#[]⟩] 26)).heap.size = gr := ⟨_, rfl⟩
  rw [hgr] at hb1 r1 hlt ⊢
  clear g1 R0 G0 hgr
  go_wp2_with fail
  refine (rdGraph _ _ _ r1 8 (by omega)).mono ?_
  rintro e w2 ⟨v, ts, rfl, s2, o2, r2, g2⟩
  have R2 := R1.grown g2 (by simp; omega)
  have G2 : w.grownBy w2 none := grown_off G1 g2 (fun q e => by cases e; omega)
  have O2 : OwnT w1.heap.size w2 v ts := o2
  obtain ⟨x, y, rfl, i2, p2⟩ := OwnT.plain o2 s2.maxLen
  obtain ⟨L, hL⟩ : ∃ L, ts.length = L := ⟨_, rfl⟩
  rw [hL] at i2 O2 ⊢
  have HL := Lib.hid hL
  have hL81 : L ≤ 81 := by have := s2.1; omega
  have HS := Lib.hid s2
  have HI := Lib.hid i2
  have HP := Lib.hid p2
  have HO := Lib.hid O2
  have HR2 := Lib.hid r2
  clear g2 o2 s2 i2 p2 hL O2 r2 R1 G1 r1
  have hbw : w.heap.size < w1.heap.size := by omega
  by_cases hL0 : 0 < L
  · have hL1 : (0 : Int) < (L : Int) := by omega
    have HN := Lib.hid (rdOnce _ _ _ HR2.out 4 (by omega) (by omega))
    clear HI HR2
    go_wp2_with fail
    refine HN.out.mono ?_
    rintro e w3 ⟨bb, rfl, r3, g3⟩
    have R3 := R2.grown g3 (by simp; omega)
    have G3 : w.grownBy w3 none := grown_off G2 g3 (fun q e => by cases e; omega)
    have HO3 := Lib.hid (own_rd HO.out g3 hlt (Nat.le_refl _))
    have HR3 := Lib.hid r3
    clear g3 r3 HN HO R2 G2
    cases bb
    · have HT := Lib.hid (rdTriple _ _ _ HR3.out)
      clear HR3
      go_wp2_with fail
      refine HT.out.mono ?_
      rintro e wt ⟨s, p, o, hs, hp, ho, rfl, rt, gt⟩
      have Rt := R3.grown gt (by simp; omega)
      have Gt : w.grownBy wt none := grown_off G3 gt (fun q e => by cases e; omega)
      have Ot := own_rd HO3.out gt hlt (Nat.le_refl _)
      obtain ⟨d0, d1, d2⟩ := Rt.cells
      obtain ⟨k0, k1, k2⟩ := Rt.free
      obtain ⟨B, hB⟩ : ∃ B, w.heap.size = B := ⟨_, rfl⟩
      have HB := Lib.hid hB
      clear rt gt HT hB
      go_wp2_with fail
      refine bodyPost_ret (v := .tuple #[.slice x L y, .agg #[.string s, .string p, .string o]]) (by simp [results, Try.results14, go_sem, *]) rfl ⟨_, ts, s, p, o, rfl, ?_, hs.2, hp, ho, ?_⟩
      · have Q : OwnT w1.heap.size (((wt.setCell ⟨w.heap.size, 0, none⟩ (.string s)).setCell ⟨w.heap.size, 1, none⟩ (.string p)).setCell ⟨w.heap.size, 2, none⟩ (.string o)) (.slice x L y) ts := own_off (own_off (own_off Ot hbw _ _) hbw _ _) hbw _ _
        exact got_of Q HS.out
      · exact grown_setNew (grown_setNew (grown_setNew Gt (by simp) _) (by simp) _) (by simp) _
    · have HBW := Lib.hid (rdBelow _ _ _ HR3.out.drew (L : Int) (by omega) (by omega))
      have HOd : Hid (OwnT w1.heap.size w3.drew (.slice x L y) ts) := Lib.hid HO3.out
      have Rd3 : Box w3.drew w.heap.size (.string ⟨#[]⟩) (.string ⟨#[]⟩) (.string ⟨#[]⟩) 26 := R3
      have Gd3 : w.grownBy w3.drew none := grown_drew G3
      clear HR3 R3 G3 HO3
      go_wp2_with fail
      go_region_with ((go_at_call 44; refine HBW.out.mono ?_; rintro e w5 ⟨mm, h0, h1, rfl, r5, g5⟩; obtain ⟨m, rfl⟩ := Int.eq_ofNat_of_zero_le h0; have O5 := own_rd HOd.out g5 hlt (Nat.le_refl _); obtain ⟨b1, off, u, rfl, e0, e1, e2, hu⟩ := pick_of O5 HS.out HL.out (show m < L by omega); have R5 := Rd3.grown g5 (by simp; omega); obtain ⟨d0, d1, d2⟩ := R5.cells; obtain ⟨k0, k1, k2⟩ := R5.free; have hm1 : (m : Int) < (L : Int) := h1; have hb5 := R5.lt))
      have G5 : w.grownBy w5 none := grown_off Gd3 g5 (fun q e => by cases e; omega)
      clear e0 e1 e2 g5 r5 HBW HOd HP
      obtain ⟨B, hB⟩ : ∃ B, w.heap.size = B := ⟨_, rfl⟩
      have HB := Lib.hid hB
      clear hB
      go_wp2_with fail
      refine bodyPost_ret (v := .tuple #[.slice (some ⟨b1, off, none⟩) L y, .agg #[.string u.1, .string u.2.1, .string u.2.2]]) (by simp [results, Try.results14, go_sem, *]) rfl ⟨_, ts, u.1, u.2.1, u.2.2, rfl, ?_, hu.1, hu.2.1, hu.2.2, ?_⟩
      · have Q : OwnT w1.heap.size (((w5.setCell ⟨w.heap.size, 0, none⟩ (.string u.1)).setCell ⟨w.heap.size, 1, none⟩ (.string u.2.1)).setCell ⟨w.heap.size, 2, none⟩ (.string u.2.2)) (.slice (some ⟨b1, off, none⟩) L y) ts := own_off (own_off (own_off O5 hbw _ _) hbw _ _) hbw _ _
        exact got_of Q HS.out
      · exact grown_setNew (grown_setNew (grown_setNew G5 (by simp) _) (by simp) _) (by simp) _
  · have hLn : ¬ (0 : Int) < (L : Int) := by omega
    have HT := Lib.hid (rdTriple _ _ _ HR2.out)
    clear HR2 HI
    go_wp2_with fail
    refine HT.out.mono ?_
    rintro e wt ⟨s, p, o, hs, hp, ho, rfl, rt, gt⟩
    have Rt := R2.grown gt (by simp; omega)
    have Gt : w.grownBy wt none := grown_off G2 gt (fun q e => by cases e; omega)
    have Ot := own_rd HO.out gt hlt (Nat.le_refl _)
    obtain ⟨d0, d1, d2⟩ := Rt.cells
    obtain ⟨k0, k1, k2⟩ := Rt.free
    obtain ⟨B, hB⟩ : ∃ B, w.heap.size = B := ⟨_, rfl⟩
    have HB := Lib.hid hB
    clear rt gt HT hB
    go_wp2_with fail
    refine bodyPost_ret (v := .tuple #[.slice x L y, .agg #[.string s, .string p, .string o]]) (by simp [results, Try.results14, go_sem, *]) rfl ⟨_, ts, s, p, o, rfl, ?_, hs.2, hp, ho, ?_⟩
    · have Q : OwnT w1.heap.size (((wt.setCell ⟨w.heap.size, 0, none⟩ (.string s)).setCell ⟨w.heap.size, 1, none⟩ (.string p)).setCell ⟨w.heap.size, 2, none⟩ (.string o)) (.slice x L y) ts := own_off (own_off (own_off Ot hbw _ _) hbw _ _) hbw _ _
      exact got_of Q HS.out
    · exact grown_setNew (grown_setNew (grown_setNew Gt (by simp) _) (by simp) _) (by simp) _
set_option maxRecDepth 100000 in
set_option maxHeartbeats 1600000 in
theorem drawWithout (w : World) (a : Option Addr) (len cap : Nat) (zs : List Int) (hrow : Frame.IsRow .u8 w a len cap zs) :
    Calls Try.prog 22 #[.slice a len cap] w fun e w' => ∃ (v : Value) (ts : List Tri3) (s p o : ByteArray), e = .returned (.tuple #[v, .agg #[.string s, .string p, .string o]]) ∧ GotG w' v ts ∧ s.size ≤ 20 ∧ p.size ≤ 20 ∧ o.size ≤ 20 ∧ w.grownBy w' none := by
  have R0 := Box.new w (.string ⟨#[]⟩) (.string ⟨#[]⟩) (.string ⟨#[]⟩) 26
  have G0 := World.grownBy_alloc w (.cells #[.string ⟨#[]⟩, .string ⟨#[]⟩, .string ⟨#[]⟩] 26) none
  go_enter Try.func22, Try.ntmps22
  go_wp2_with fail
  refine (rdOpen _ _ _ _ _ (isRow_grown hrow G0)).mono ?_
  rintro e w1 ⟨rfl, r1, g1⟩
  have R1 := R0.grown g1 (by simp)
  have hlt := r1.2.1
  have G1 := G0.trans g1
  have hb1 : w.heap.size < (w.alloc (.cells #[.string ⟨#[]⟩, .string ⟨#[]⟩, .string ⟨#[]⟩] 26)).heap.size := by simp
  obtain ⟨gr, hgr⟩ : ∃ gr, (w.alloc (.cells #[.string ⟨#[]⟩, .string ⟨#[]⟩, .string ⟨#[]⟩] 26)).heap.size = gr := ⟨_, rfl⟩
  rw [hgr] at hb1 r1 hlt ⊢
  clear g1 R0 G0 hgr
  go_wp2_with fail
  refine (rdGraph _ _ _ r1 8 (by omega)).mono ?_
  rintro e w2 ⟨v, ts, rfl, s2, o2, r2, g2⟩
  have R2 := R1.grown g2 (by simp; omega)
  have G2 : w.grownBy w2 none := grown_off G1 g2 (fun q e => by cases e; omega)
  have O2 : OwnT w1.heap.size w2 v ts := o2
  obtain ⟨x, y, rfl, i2, p2⟩ := OwnT.plain o2 s2.maxLen
  obtain ⟨L, hL⟩ : ∃ L, ts.length = L := ⟨_, rfl⟩
  rw [hL] at i2 O2 ⊢
  have HL := Lib.hid hL
  have hL81 : L ≤ 81 := by have := s2.1; omega
  have HS := Lib.hid s2
  have HI := Lib.hid i2
  have HP := Lib.hid p2
  have HO := Lib.hid O2
  have HR2 := Lib.hid r2
  clear g2 o2 s2 i2 p2 hL O2 r2 R1 G1 r1
  have hbw : w.heap.size < w1.heap.size := by omega
  by_cases hL0 : 0 < L
  · have hL1 : (0 : Int) < (L : Int) := by omega
    have HN := Lib.hid (rdOnce _ _ _ HR2.out 4 (by omega) (by omega))
    clear HI HR2
    go_wp2_with fail
    refine HN.out.mono ?_
    rintro e w3 ⟨bb, rfl, r3, g3⟩
    have R3 := R2.grown g3 (by simp; omega)
    have G3 : w.grownBy w3 none := grown_off G2 g3 (fun q e => by cases e; omega)
    have HO3 := Lib.hid (own_rd HO.out g3 hlt (Nat.le_refl _))
    have HR3 := Lib.hid r3
    clear g3 r3 HN HO R2 G2
    cases bb
    · have HBW := Lib.hid (rdBelow _ _ _ HR3.out.drew (L : Int) (by omega) (by omega))
      have HOd : Hid (OwnT w1.heap.size w3.drew (.slice x L y) ts) := Lib.hid HO3.out
      have Rd3 : Box w3.drew w.heap.size (.string ⟨#[]⟩) (.string ⟨#[]⟩) (.string ⟨#[]⟩) 26 := R3
      have Gd3 : w.grownBy w3.drew none := grown_drew G3
      clear HR3 R3 G3 HO3
      go_wp2_with fail
      go_region_with ((go_at_call 44; refine HBW.out.mono ?_; rintro e w5 ⟨mm, h0, h1, rfl, r5, g5⟩; obtain ⟨m, rfl⟩ := Int.eq_ofNat_of_zero_le h0; have O5 := own_rd HOd.out g5 hlt (Nat.le_refl _); obtain ⟨b1, off, u, rfl, e0, e1, e2, hu⟩ := pick_of O5 HS.out HL.out (show m < L by omega); have R5 := Rd3.grown g5 (by simp; omega); obtain ⟨d0, d1, d2⟩ := R5.cells; obtain ⟨k0, k1, k2⟩ := R5.free; have hm1 : (m : Int) < (L : Int) := h1; have hb5 := R5.lt))
      have G5 : w.grownBy w5 none := grown_off Gd3 g5 (fun q e => by cases e; omega)
      clear e0 e1 e2 g5 r5 HBW HOd HP
      obtain ⟨B, hB⟩ : ∃ B, w.heap.size = B := ⟨_, rfl⟩
      have HB := Lib.hid hB
      clear hB
      go_wp2_with fail
      refine bodyPost_ret (v := .tuple #[.slice (some ⟨b1, off, none⟩) L y, .agg #[.string u.1, .string u.2.1, .string u.2.2]]) (by simp [results, Try.results22, go_sem, *]) rfl ⟨_, ts, u.1, u.2.1, u.2.2, rfl, ?_, hu.1, hu.2.1, hu.2.2, ?_⟩
      · have Q : OwnT w1.heap.size (((w5.setCell ⟨w.heap.size, 0, none⟩ (.string u.1)).setCell ⟨w.heap.size, 1, none⟩ (.string u.2.1)).setCell ⟨w.heap.size, 2, none⟩ (.string u.2.2)) (.slice (some ⟨b1, off, none⟩) L y) ts := own_off (own_off (own_off O5 hbw _ _) hbw _ _) hbw _ _
        exact got_of Q HS.out
      · exact grown_setNew (grown_setNew (grown_setNew G5 (by simp) _) (by simp) _) (by simp) _
    · have HT := Lib.hid (rdTriple _ _ _ HR3.out)
      clear HR3
      go_wp2_with fail
      refine HT.out.mono ?_
      rintro e wt ⟨s, p, o, hs, hp, ho, rfl, rt, gt⟩
      have Rt := R3.grown gt (by simp; omega)
      have Gt : w.grownBy wt none := grown_off G3 gt (fun q e => by cases e; omega)
      have Ot := own_rd HO3.out gt hlt (Nat.le_refl _)
      obtain ⟨d0, d1, d2⟩ := Rt.cells
      obtain ⟨k0, k1, k2⟩ := Rt.free
      obtain ⟨B, hB⟩ : ∃ B, w.heap.size = B := ⟨_, rfl⟩
      have HB := Lib.hid hB
      clear rt gt HT hB
      go_wp2_with fail
      refine bodyPost_ret (v := .tuple #[.slice x L y, .agg #[.string s, .string p, .string o]]) (by simp [results, Try.results22, go_sem, *]) rfl ⟨_, ts, s, p, o, rfl, ?_, hs.2, hp, ho, ?_⟩
      · have Q : OwnT w1.heap.size (((wt.setCell ⟨w.heap.size, 0, none⟩ (.string s)).setCell ⟨w.heap.size, 1, none⟩ (.string p)).setCell ⟨w.heap.size, 2, none⟩ (.string o)) (.slice x L y) ts := own_off (own_off (own_off Ot hbw _ _) hbw _ _) hbw _ _
        exact got_of Q HS.out
      · exact grown_setNew (grown_setNew (grown_setNew Gt (by simp) _) (by simp) _) (by simp) _
  · have hLn : ¬ (0 : Int) < (L : Int) := by omega
    have HT := Lib.hid (rdTriple _ _ _ HR2.out)
    clear HR2 HI
    go_wp2_with fail
    refine HT.out.mono ?_
    rintro e wt ⟨s, p, o, hs, hp, ho, rfl, rt, gt⟩
    have Rt := R2.grown gt (by simp; omega)
    have Gt : w.grownBy wt none := grown_off G2 gt (fun q e => by cases e; omega)
    have Ot := own_rd HO.out gt hlt (Nat.le_refl _)
    obtain ⟨d0, d1, d2⟩ := Rt.cells
    obtain ⟨k0, k1, k2⟩ := Rt.free
    obtain ⟨B, hB⟩ : ∃ B, w.heap.size = B := ⟨_, rfl⟩
    have HB := Lib.hid hB
    clear rt gt HT hB
    go_wp2_with fail
    refine bodyPost_ret (v := .tuple #[.slice x L y, .agg #[.string s, .string p, .string o]]) (by simp [results, Try.results22, go_sem, *]) rfl ⟨_, ts, s, p, o, rfl, ?_, hs.2, hp, ho, ?_⟩
    · have Q : OwnT w1.heap.size (((wt.setCell ⟨w.heap.size, 0, none⟩ (.string s)).setCell ⟨w.heap.size, 1, none⟩ (.string p)).setCell ⟨w.heap.size, 2, none⟩ (.string o)) (.slice x L y) ts := own_off (own_off (own_off Ot hbw _ _) hbw _ _) hbw _ _
      exact got_of Q HS.out
    · exact grown_setNew (grown_setNew (grown_setNew Gt (by simp) _) (by simp) _) (by simp) _
end Go.Proofs.Ytmklnkogmidkdaa
