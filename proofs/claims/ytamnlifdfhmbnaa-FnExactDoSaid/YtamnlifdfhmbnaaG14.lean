/- An op done on files: the specification. -/
import Derived.Test.YtamnlifdfhmbnaaG13
import Derived.Test.YtamnlifdfhmbnaaG12
import Derived.Test.YtamnlifdfhmbnaaG00
import Derived.Sort.KeysCollected
namespace Go.Proofs.Ytamnlifdfhmbnaa
open Go.RowKit Go.WideShapes
theorem cutF_cons {s : ByteArray} {ts : List Pre2} {k : Nat} {r : Pre2} (h : ts[k]? = some r) : cutF (ts.drop k) s = (if r.1 = s then [] else [r]) ++ cutF (ts.drop (k + 1)) s := by
  have hk := (List.getElem?_eq_some_iff.1 h).1
  have e : ts.drop k = r :: ts.drop (k + 1) := by rw [List.drop_eq_getElem_cons hk, (List.getElem?_eq_some_iff.1 h).2]
  rw [e]
  unfold cutF
  rw [List.filter_cons]
  by_cases g : r.1 = s
  · rw [if_pos g, if_neg (by simp [g])]; rfl
  · rw [if_neg g, if_pos (by simp [g])]; rfl
set_option maxRecDepth 100000 in
set_option maxHeartbeats 3200000 in
theorem specCut (a : Option Addr) (len cap : Nat) (ts : List Pre2) (s : ByteArray) (w : World) (h : IsPres w a len cap ts) (hl : len ≤ 1000000) :
    Calls Try.prog 83 #[.slice a len cap, .string s] w fun e w' => ∃ v, e = .returned v ∧ OwnPFi w.heap.size w' v (cutF ts s) ∧ Below w.heap.size w w' := by
  have HT := Lib.hid h.len
  have H := Lib.hid h
  have E0 := cells_new w #[] 74
  have O0 : Hid (OwnPFi w.heap.size (w.alloc (.cells #[] 74)) (.slice (some ⟨w.heap.size, 0, none⟩) 0 0) []) := Lib.hid (ownFi_empty E0.now)
  have B0 : Below w.heap.size w (w.alloc (.cells #[] 74)) := (Below.refl _ _).alloc (Nat.le_refl _) _
  clear h E0
  go_enter Try.func83, Try.ntmps83
  go_wp2_with fail
  go_loopw [5, 6] (fun v' i wr => ∃ (k : Nat) (v : Value) (L : List Pre2), k ≤ len ∧ i = .int .i64 k ∧ v = v' ∧ Hid (OwnPFi w.heap.size wr v L) ∧ Hid (cutF ts s = L ++ cutF (ts.drop k) s) ∧ L.length ≤ k ∧ Below w.heap.size w wr) (fun _ i _ => len - (intOf i).toNat)
  case atStart => exact ⟨0, _, [], Nat.zero_le _, rfl, rfl, O0, Lib.hid rfl, by simp, B0⟩
  case round =>
    clear O0 B0
    obtain ⟨k, v, L, hk, rfl, rfl, HO, HE, hLk, hnx⟩ := hrel
    have hk6 : (0 : Int) ≤ (k : Int) := by omega
    by_cases hlt : k < len
    · have hk7 : (k : Int) < (len : Int) := by omega
      obtain ⟨b, off, rfl, hb, hll, hm, hts, hc⟩ := H.out.cells (by omega)
      have ht : ts[k]? = some ts[k] := List.getElem?_eq_getElem (by omega)
      obtain ⟨z0, z1, m0, m1⟩ := hc k _ ht
      have HP := Lib.hid (cutF_cons (s := s) ht)
      generalize ts[k] = t at ht z0 z1 HP
      obtain ⟨rs, rd⟩ := t
      simp only at z0 z1
      have Z := Lib.hid (And.intro z0 z1)
      have CC : Hid (∀ W, Below w.heap.size w W → W.cell? ⟨b, off + k * 2, none⟩ = some (.string rs) ∧ W.cell? ⟨b, off + k * 2 + 1, none⟩ = some (.string rd)) := Lib.hid (fun W hW => ⟨(hW.cell (p := ⟨b, _, none⟩) hb).trans Z.out.1, (hW.cell (p := ⟨b, _, none⟩) hb).trans Z.out.2⟩)
      obtain ⟨c0, c1⟩ := CC.out wr hnx
      have hL1 : L.length ≤ 1048576 := by omega
      clear hts hc m0 m1 ht z0 z1
      by_cases es : rs = s
      · subst es
        have hnb : (rs.toList == rs.toList) = true := by simp
        have HEN : Hid (cutF ts rs = L ++ cutF (ts.drop (k + 1)) rs) := Lib.hid (by rw [HE.out, HP.out, if_pos rfl]; simp)
        go_wp2_with fail
        go_roundw
        case rel => exact ⟨k + 1, v, L, by omega, by go_num, rfl, HO, HEN, by omega, hnx⟩
        case measure => simp [intOf]; omega
      · have hnb : (rs.toList == s.toList) = false := by
          rw [beq_eq_false_iff_ne, ByteArray.toList_eq, ByteArray.toList_eq]; exact fun q => es (nmP_inj q)
        have HEN : Hid (cutF ts s = (L ++ [(rs, rd)]) ++ cutF (ts.drop (k + 1)) s) := Lib.hid (by rw [HE.out, HP.out, if_neg es]; simp)
        have HB1 : w.heap.size ≤ (wr.alloc (.cells #[.string rs, .string rd] 74)).heap.size := by have := hnx.size; rw [World.size_alloc]; omega
        go_wp2_with (at_builtin; refine wpList_moreFi (B := w.heap.size) (t := (rs, rd)) rfl _ _ rfl rfl (HO.out.keep ((Below.refl _ _).alloc (Nat.le_refl _) (.cells #[.string rs, .string rd] 74))) HB1 wr.heap.size rfl (And.intro ((cells_new wr #[.string rs, .string rd] 74).now.at 0) ((cells_new wr #[.string rs, .string rd] 74).now.at 1)) hL1 ?_; intro v1 w1 o1 g1 hat1; have N1 := (HO.out.keep ((Below.refl _ _).alloc (Nat.le_refl _) (.cells #[.string rs, .string rd] 74))).moved (hnx.alloc hnx.size (.cells #[.string rs, .string rd] 74)) g1; have O1 := Lib.hid o1; obtain ⟨c0, c1⟩ := CC.out w1 N1; clear o1 g1 hat1)
        go_roundw
        case rel => exact ⟨k + 1, v1, L ++ [(rs, rd)], by omega, by go_num, rfl, O1, HEN, by simp only [List.length_append, List.length_singleton]; omega, N1⟩
        case measure => simp [intOf]; omega
    · obtain rfl : k = len := by omega
      have HF : Hid (cutF ts s = L) := Lib.hid (by rw [HE.out, List.drop_of_length_le (by rw [HT.out]; exact Nat.le_refl _)]; simp [cutF])
      clear HE
      go_wp2_with fail
      go_ret
      exact ⟨_, rfl, by rw [HF.out]; exact HO.out, hnx⟩
/-- What the specification gives of an op. -/
def SDoPost (ts : List Pre2) (op : OpV) (w : World) (e : Ending) (w' : World) : Prop := ∃ v, e = .returned (.tuple #[v, .bool (doF ts op).2]) ∧ OwnPFi w.heap.size w' v (doF ts op).1 ∧ Below w.heap.size w w'
theorem ownFi_down {B C : Nat} {w : World} {v : Value} {ts : List Pre2} (h : OwnPFi B w v ts) (hc : C ≤ B) : OwnPFi C w v ts := ownP_baseFi h hc
set_option maxRecDepth 100000 in
set_option maxHeartbeats 3200000 in
theorem specDo1 (a : Option Addr) (len cap : Nat) (ts : List Pre2) (s t d : ByteArray) (w : World) (h : IsPres w a len cap ts) (hl : len ≤ 1000000) (hr : RisP ts) (hz : (dataAt ts s).size + d.size ≤ 1000000000000) :
    Calls Try.prog 46 #[.slice a len cap, .agg #[.int .i64 1, .string s, .string t, .string d]] w (SDoPost ts (1, s, t, d) w) := by
  have B0 := (Below.refl w.heap.size w).alloc (Nat.le_refl _) (.cells #[.int .i64 1, .string s, .string t, .string d] 36)
  have X := cells_new w #[.int .i64 1, .string s, .string t, .string d] 36
  have AT := fun W (hW : IsPres W a len cap ts) => specAt a len cap ts s W hW (pres_mostFi h)
  have H := Lib.hid h
  have HB := Lib.hid B0
  have HX := Lib.hid X
  have HD : Hid (doF ts (1, s, t, d) = (putF ts (s, dataAt ts s ++ d), true)) := Lib.hid (by unfold doF; rw [if_pos rfl])
  have x0 := X.now.at 0
  have x1 := X.now.at 1
  have x2 := X.now.at 2
  have x3 := X.now.at 3
  have ATH := Lib.hid (AT _ (h.nextFi B0))
  have HP := Lib.hid (fun dd => specPut a len cap ts s dd _ (h.nextFi B0) hl hr)
  have hbz := HB.out.size
  rcases placeF_at ts s 0 with ⟨e1, e2⟩ | ⟨i, dd, e1, e2, e3⟩
  · rw [e2] at ATH
    have HE : Hid (dataAt ts s ++ d = d) := Lib.hid (by unfold dataAt; rw [e1]; simp)
    clear X B0 AT h e1 e2 hr hz
    go_enter Try.func46, Try.ntmps46
    go_wp2_with fail
    refine ATH.out.mono ?_
    rintro e w1 ⟨rfl, rfl⟩
    go_wp2_with fail
    refine (HP.out d).mono ?_
    rintro e w2 ⟨v, rfl, ov, hb⟩
    have B2 := HB.out.trans (hb.mono hbz)
    go_wp2_with fail
    go_ret2
    refine ⟨v, by rw [HD.out]; rfl, ?_, B2⟩
    rw [HD.out]
    show OwnPFi _ _ _ (putF ts (s, dataAt ts s ++ d))
    rw [HE.out]
    exact ownFi_down ov hbz
  · rw [e2, Nat.zero_add] at ATH
    have hde : dataAt ts s = dd := by unfold dataAt; rw [e1]; rfl
    have HE : Hid (dataAt ts s = dd) := Lib.hid hde
    rw [hde] at hz
    have hil := (List.getElem?_eq_some_iff.1 e3).1
    have hln := h.len
    obtain ⟨b, off, rfl, hb0, _, _, _, hc⟩ := H.out.cells (by omega)
    obtain ⟨_, q1, _, _⟩ := hc i _ e3
    have y1 : (w.alloc (.cells #[.int .i64 1, .string s, .string t, .string d] 36)).cell? ⟨b, off + i * 2 + 1, none⟩ = some (.string dd) := (HB.out.cell (p := ⟨b, _, none⟩) hb0).trans q1
    have hi6 : (0 : Int) ≤ (i : Int) := by omega
    have hi7 : (i : Int) < (len : Int) := by omega
    have hsum : dd.size + d.size ≤ 9223372036854775807 := by omega
    have hsz : (dd ++ d).size = dd.size + d.size := ByteArray.size_append
    clear X B0 AT h e1 e2 e3 hr hz hde hc q1 hln hil
    go_enter Try.func46, Try.ntmps46
    go_wp2_with fail
    refine ATH.out.mono ?_
    rintro e w1 ⟨rfl, rfl⟩
    go_wp2_with fail
    refine (HP.out (dd ++ d)).mono ?_
    rintro e w2 ⟨v, rfl, ov, hb⟩
    have B2 := HB.out.trans (hb.mono hbz)
    go_wp2_with fail
    go_ret2
    refine ⟨v, by rw [HD.out]; rfl, ?_, B2⟩
    rw [HD.out]
    show OwnPFi _ _ _ (putF ts (s, dataAt ts s ++ d))
    rw [HE.out]
    exact ownFi_down ov hbz
set_option maxRecDepth 100000 in
set_option maxHeartbeats 3200000 in
theorem specDoN (a : Option Addr) (len cap : Nat) (ts : List Pre2) (r : Int) (s t d : ByteArray) (w : World) (h : IsPres w a len cap ts) (hl : len ≤ 1000000) (hr : RisP ts) (g1 : ¬ r = 1) :
    Calls Try.prog 46 #[.slice a len cap, .agg #[.int .i64 r, .string s, .string t, .string d]] w (SDoPost ts (r, s, t, d) w) := by
  have B0 := (Below.refl w.heap.size w).alloc (Nat.le_refl _) (.cells #[.int .i64 r, .string s, .string t, .string d] 36)
  have X := cells_new w #[.int .i64 r, .string s, .string t, .string d] 36
  have AT := fun W (hW : IsPres W a len cap ts) => specAt a len cap ts s W hW (pres_mostFi h)
  have H := Lib.hid h
  have HB := Lib.hid B0
  have x0 := X.now.at 0
  have x1 := X.now.at 1
  have x2 := X.now.at 2
  have x3 := X.now.at 3
  have ATH := Lib.hid (AT _ (h.nextFi B0))
  have hbz := HB.out.size
  have b1 : (r == 1) = false := by rw [beq_eq_false_iff_ne]; exact g1
  rcases placeF_at ts s 0 with ⟨e1, e2⟩ | ⟨i, dd, e1, e2, e3⟩
  · rw [e2] at ATH
    have HD : Hid (doF ts (r, s, t, d) = (ts, false)) := Lib.hid (by unfold doF; rw [if_neg g1]; simp only [e1])
    have hlm : len ≤ 1048576 := by omega
    have HA := Lib.hid (cells_new (w.alloc (.cells #[.int .i64 r, .string s, .string t, .string d] 36)) #[] 74).now
    have HPA := Lib.hid ((h.nextFi B0).nextFi ((Below.refl _ _).alloc (Nat.le_refl _) (.cells #[] 74)))
    have NB := Lib.hid (B0.alloc B0.size (.cells #[] 74))
    have vz : (w.alloc (.cells #[.int .i64 r, .string s, .string t, .string d] 36)).heap.size = w.heap.size + 1 := by simp
    rw [vz] at HA
    clear X B0 AT h e1 e2 hr
    go_enter Try.func46, Try.ntmps46
    go_wp2_with fail
    refine ATH.out.mono ?_
    rintro e w1 ⟨rfl, rfl⟩
    go_wp2_with (at_builtin; refine wpList_copyFi rfl _ _ rfl (w.heap.size + 1) rfl HA.out a len cap ts rfl HPA.out hlm ?_; intro v w2 j hj ov ho hT)
    have B2 := NB.out.trans (hT.below (B := w.heap.size) NB.out.size (by omega))
    go_ret2
    refine ⟨v, by rw [HD.out]; rfl, ?_, B2⟩
    rw [HD.out]
    refine ownFi_down ho ?_
    rcases hj with rfl | rfl
    · omega
    · exact NB.out.size
  · rw [e2, Nat.zero_add] at ATH
    have hil := (List.getElem?_eq_some_iff.1 e3).1
    have hln := h.len
    obtain ⟨b, off, rfl, hb0, _, _, _, hc⟩ := H.out.cells (by omega)
    obtain ⟨_, q1, _, _⟩ := hc i _ e3
    have hi6 : (0 : Int) ≤ (i : Int) := by omega
    have hi7 : (i : Int) < (len : Int) := by omega
    have CU := Lib.hid (specCut (some ⟨b, off, none⟩) len cap ts s _ (h.nextFi B0) hl)
    have Y1 : Hid (∀ W, Below w.heap.size w W → W.cell? ⟨b, off + i * 2 + 1, none⟩ = some (.string dd)) := Lib.hid (fun W hW => (hW.cell (p := ⟨b, _, none⟩) hb0).trans q1)
    have HX := Lib.hid X
    have HSM := Lib.hid (IsPres.smallFi h)
    have HRC := Lib.hid (cutF_ris s hr)
    have hcl : (cutF ts s).length ≤ 1000000 := Nat.le_trans (List.length_filter_le _ _) (by omega)
    by_cases g2 : r = 2
    · subst g2
      have HD : Hid (doF ts (2, s, t, d) = (putF (cutF ts s) (t, dd), true)) := Lib.hid (by unfold doF; rw [if_neg g1]; simp only [e1]; rfl)
      clear X B0 AT h e1 e2 e3 hr hc q1 hln hil
      go_enter Try.func46, Try.ntmps46
      go_wp2_with fail
      refine ATH.out.mono ?_
      rintro e w1 ⟨rfl, rfl⟩
      go_wp2_with fail
      refine CU.out.mono ?_
      rintro e w2 ⟨v, rfl, ov, hb⟩
      have B2 := HB.out.trans (hb.mono hbz)
      have X2 := HX.out.next hb
      have z0 := X2.now.at 0
      have z2 := X2.now.at 2
      have y1 := Y1.out w2 B2
      obtain ⟨va, vc, rfl, iv⟩ := ov.is (fun q hq => HSM.out q (cutF_mem.1 hq).1)
      have PU := Lib.hid (fun W (hW : Below w2.heap.size w2 W) => specPut va _ vc (cutF ts s) t dd W (iv.nextFi hW) hcl HRC.out)
      clear hb ov CU X2 x0 x1 x2 x3
      go_wp2_with fail
      go_region_held3 (fun w' => w'.cell? ⟨w.heap.size, 2, none⟩ = some (.string t) ∧ w'.cell? ⟨b, off + i * 2 + 1, none⟩ = some (.string dd))
        (first | go_keep | (go_split_ands; refine ⟨?_, ?_⟩ <;> (rw [hb3.cell (by first | (simp; done) | exact World.block_lt_of_cell? _ _ (by assumption))]; assumption)))
        (first | (go_at_call 82; refine (PU.out _ ((Below.refl _ _).drew)).mono ?_; rintro e w3 ⟨v3, rfl, o3, hb3⟩))
      have B3 := B2.drew.trans (hb3.mono B2.size)
      clear hb3
      go_wp2_with fail
      go_ret2
      refine ⟨v3, by rw [HD.out]; rfl, ?_, B3⟩
      rw [HD.out]
      exact ownFi_down o3 B2.size
    · have b2 : (r == 2) = false := by rw [beq_eq_false_iff_ne]; exact g2
      have HD : Hid (doF ts (r, s, t, d) = (cutF ts s, true)) := Lib.hid (by unfold doF; rw [if_neg g1]; simp only [e1, if_neg g2])
      clear X B0 AT h e1 e2 e3 hr hc q1 hln hil
      go_enter Try.func46, Try.ntmps46
      go_wp2_with fail
      refine ATH.out.mono ?_
      rintro e w1 ⟨rfl, rfl⟩
      go_wp2_with fail
      refine CU.out.mono ?_
      rintro e w2 ⟨v, rfl, ov, hb⟩
      have B2 := HB.out.trans (hb.mono hbz)
      have X2 := HX.out.next hb
      have z0 := X2.now.at 0
      clear hb CU X2 x0 x1 x2 x3
      go_wp2_with fail
      go_ret2
      refine ⟨v, by rw [HD.out]; rfl, ?_, B2⟩
      rw [HD.out]
      exact ownFi_down ov hbz
theorem specDo (a : Option Addr) (len cap : Nat) (ts : List Pre2) (op : OpV) (w : World) (h : IsPres w a len cap ts) (hl : len ≤ 1000000) (hr : RisP ts) (hz : (dataAt ts op.2.1).size + op.2.2.2.size ≤ 1000000000000) :
    Calls Try.prog 46 #[.slice a len cap, .agg #[.int .i64 op.1, .string op.2.1, .string op.2.2.1, .string op.2.2.2]] w (SDoPost ts op w) := by
  obtain ⟨r, s, t, d⟩ := op
  by_cases h1 : r = 1
  · subst h1; exact specDo1 a len cap ts s t d w h hl hr hz
  · exact specDoN a len cap ts r s t d w h hl hr h1
end Go.Proofs.Ytamnlifdfhmbnaa
/- The program's folder: of files; is there one; does it fit. -/
namespace Go.Proofs.Ytamnlifdfhmbnaa
open Go.RowKit Go.WideShapes Go.Maps
set_option maxRecDepth 100000 in
theorem implNameOk (s : ByteArray) (hs : s.size ≤ maxLen) (w : World) :
    Calls Try.prog 75 #[.string s] w fun e w' => e = .returned (.bool (nmOk s)) ∧ w' = w := by
  unfold maxLen at hs
  by_cases h1 : 1 ≤ s.size
  · have k1 : (1 : Int) ≤ (s.size : Int) := by omega
    by_cases h2 : s.size ≤ 100
    · have k2 : (s.size : Int) ≤ 100 := by omega
      have HR : Hid (nmOk s = true) := Lib.hid (by unfold nmOk; simp [h1, h2])
      clear h1 h2
      go_enter Try.func75, Try.ntmps75
      go_wp2_with fail
      go_ret
      exact ⟨by rw [HR.out]; rfl, rfl⟩
    · have k2 : ¬ (s.size : Int) ≤ 100 := by omega
      have HR : Hid (nmOk s = false) := Lib.hid (by unfold nmOk; simp [h1, h2])
      clear h1 h2
      go_enter Try.func75, Try.ntmps75
      go_wp2_with fail
      go_ret
      exact ⟨by rw [HR.out]; rfl, rfl⟩
  · have k1 : ¬ (1 : Int) ≤ (s.size : Int) := by omega
    have HR : Hid (nmOk s = false) := Lib.hid (by unfold nmOk; simp [h1])
    clear h1
    go_enter Try.func75, Try.ntmps75
    go_wp2_with fail
    go_ret
    exact ⟨by rw [HR.out]; rfl, rfl⟩
set_option maxRecDepth 100000 in
theorem implHas (b n : Nat) (kvs : List (Txt × Value)) (s : ByteArray) (hs : s.size ≤ maxLen) (w : World) (h : OwnMapD w b n kvs) :
    Calls Try.prog 155 #[.map (some b), .string s] w fun e w' => e = .returned (.bool (decide (s.data.toList ∈ kvs.map Prod.fst))) ∧ w' = w := by
  go_enter Try.func155, Try.ntmps155
  go_wp2_with (at_lookup; refine wpList_hasF _ rfl _ _ rfl b n kvs rfl h s hs rfl ?_; intro vv)
  go_ret
  exact ⟨rfl, rfl⟩
/-- What a folder of these files' pieces is in memory. -/
def FolPost (B m : Nat) (P : List Pre2) (w : World) (e : Ending) (w' : World) : Prop :=
  ∃ b n kvs, e = .returned (.map (some b)) ∧ (OwnMapD w' b n kvs ∧ FolIs B m w' kvs P) ∧ n ≤ P.length ∧ B ≤ b ∧ Below B w w'
theorem risP_new {ts : List Pre2} {k : Nat} {t : Pre2} (h : RisP ts) (ht : ts[k]? = some t) : ∀ r ∈ ts.take k, r.1 ≠ t.1 := by
  intro r hr e
  have hk := (List.getElem?_eq_some_iff.1 ht).1
  have e2 : ts = ts.take k ++ (t :: ts.drop (k + 1)) := by
    conv => lhs; rw [← List.take_append_drop k ts]
    rw [List.drop_eq_getElem_cons hk, (List.getElem?_eq_some_iff.1 ht).2]
  unfold RisP at h
  rw [e2] at h
  have := (List.pairwise_append.1 h).2.2 r hr t (by simp)
  unfold nmP at this
  rw [e, lessS_irrefl] at this
  cases this
set_option maxRecDepth 100000 in
set_option maxHeartbeats 3200000 in
theorem implFolderOf (a : Option Addr) (len cap : Nat) (ts : List Pre2) (w : World) (h : IsPres w a len cap ts) (hr : RisP ts) (hl : len ≤ 1048576) :
    Calls Try.prog 41 #[.slice a len cap] w (FolPost w.heap.size 1 ts w) := by
  have HRI := Lib.hid hr
  have HT := Lib.hid h.len
  have H := Lib.hid h
  have hmm := @run_makeMap Try.prog
  have M0 := Lib.hid (OwnMapD.made w)
  have B0 : Below w.heap.size w (w.alloc (.map #[] 0)) := (Below.refl w.heap.size w).alloc (Nat.le_refl _) (.map #[] 0)
  clear h hr
  go_enter Try.func41, Try.ntmps41
  go_wp2_with fail
  go_loopw [9] (fun i wr => ∃ (k : Nat) (kvs : List (Txt × Value)), k ≤ len ∧ i = .int .i64 k ∧ Hid (OwnMapD wr w.heap.size k kvs ∧ FolIs w.heap.size 1 wr kvs (ts.take k)) ∧ Below w.heap.size w wr) (fun i _ => len - (intOf i).toNat)
  case atStart => exact ⟨0, [], Nat.zero_le _, rfl, Lib.hid ⟨M0.out, FolIs.nil _ _ _⟩, B0⟩
  case round =>
    obtain ⟨k, kvs, hk, rfl, HQ, hnx⟩ := hrel
    clear M0 B0
    have hk6 : (0 : Int) ≤ (k : Int) := by omega
    by_cases hlt : k < len
    · have hk7 : (k : Int) < (len : Int) := by omega
      obtain ⟨b, off, rfl, hb, hll, hm, hts, hc⟩ := (H.out.grown (grown_of_below hnx)).cells (by omega)
      have ht : ts[k]? = some (ts[k]'(by omega)) := List.getElem?_eq_getElem (by omega)
      have HK : Hid (ts.take (k + 1) = ts.take k ++ [ts[k]'(by omega)]) := Lib.hid (List.take_succ_eq_append_getElem (by omega))
      obtain ⟨c0, c1, m0, m1⟩ := hc k _ ht
      have HN := Lib.hid (risP_new HRI.out ht)
      generalize ts[k]'(by omega) = t at ht HK c0 c1 m0 HN
      obtain ⟨s, d⟩ := t
      simp only at c0 c1 m0
      have BW := (Below.refl wr.heap.size wr).alloc (Nat.le_refl _) (.cells #[.string s, .string d] 74)
      have hkm : k < maxLen := by unfold maxLen; omega
      have MA := HQ.out.1.next BW
      have FA := HQ.out.2.next BW
      have NV := hnx.trans (BW.mono hnx.size)
      have vz : (wr.alloc (.cells #[.string s, .string d] 74)).heap.size = wr.heap.size + 1 := by simp
      have MU : Hid (∃ es c, ((wr.alloc (.cells #[.string s, .string d] 74)).alloc (.cells #[.string d] 9)).heap[w.heap.size]? = some (.map es c) ∧ True) ∧ Hid (OwnMapD ((wr.alloc (.cells #[.string s, .string d] 74)).alloc (.cells #[.string d] 9)) w.heap.size k kvs) ∧ Hid (Below w.heap.size w ((wr.alloc (.cells #[.string s, .string d] 74)).alloc (.cells #[.string d] 9))) ∧ Hid (FolIs w.heap.size 1 ((wr.alloc (.cells #[.string s, .string d] 74)).alloc (.cells #[.string d] 9)) (addD kvs s.data.toList (.slice (some ⟨wr.heap.size + 1, 0, none⟩) 1 1)) (ts.take (k + 1))) := by
        generalize wr.alloc (.cells #[.string s, .string d] 74) = V at MA FA NV vz ⊢
        rw [← vz]
        have BU := (Below.refl V.heap.size V).alloc (Nat.le_refl _) (.cells #[.string d] 9)
        have MB := MA.next BU
        obtain ⟨es, c, hes⟩ := MB.isMap
        refine ⟨Lib.hid ⟨es, c, hes, trivial⟩, Lib.hid MB, Lib.hid (NV.trans (BU.mono NV.size)), Lib.hid ?_⟩
        have ou : (V.alloc (.cells #[.string d] 9)).ownsRow V.heap.size 9 1 (.slice (some ⟨V.heap.size, 0, none⟩) 1 1) 1 [.string d] := World.ownsRow_lit V #[.string d] 1 (Nat.le_refl _) (by unfold maxLen; omega) (by simp)
        refine (FA.next BU).put (d := d) (ps := [d]) (fun y => ?_) (ownS_base (B := V.heap.size) ou NV.size) (by simp [catT]) (by simp) (fun p hp _ j hj e => ?_)
        · rw [HK.out, List.mem_append, List.mem_singleton]
          constructor
          · rintro (h | h)
            · exact .inr ⟨h, HN.out y h⟩
            · exact .inl h
          · rintro (h | ⟨h, _⟩)
            · exact .inr h
            · exact .inl h
        · have := (FA.lt MA.nodup hp hj).2
          simp only [Value.ownBlock, Option.some.injEq] at e
          omega
      obtain ⟨MU, MB, NU, FB⟩ := MU
      clear ht hts hc hm m1 HQ vz MA FA NV BW hnx
      go_wp2_with (at_mapUpdate; refine wpList_putF _ rfl _ _ _ rfl w.heap.size k kvs rfl MB.out hkm s m0 rfl _ rfl ?_; intro w3 M3 g3)
      have HQ : Hid (OwnMapD w3 w.heap.size (k + 1) (addD kvs s.data.toList (.slice (some ⟨wr.heap.size + 1, 0, none⟩) 1 1)) ∧ FolIs w.heap.size 1 w3 (addD kvs s.data.toList (.slice (some ⟨wr.heap.size + 1, 0, none⟩) 1 1)) (ts.take (k + 1))) := Lib.hid ⟨M3, FB.out.update g3 (by obtain ⟨es, c, h, _⟩ := MU.out; exact ⟨es, c, h⟩)⟩
      have N3 := NU.out.grown g3 NU.out.size (fun j hj => by cases hj; exact Nat.le_refl _)
      clear M3 g3 FB MB MU NU
      go_roundw
      case rel => exact ⟨k + 1, _, by omega, by go_num, HQ, N3⟩
      case measure => simp [intOf]; omega
    · obtain rfl : k = len := by omega
      have HF : Hid (OwnMapD wr w.heap.size ts.length kvs ∧ FolIs w.heap.size 1 wr kvs ts) := Lib.hid (by
        have := HQ.out
        rw [List.take_of_length_le (by rw [HT.out]; exact Nat.le_refl _)] at this
        rw [HT.out]
        exact this)
      clear HQ
      go_wp2_with fail
      go_ret
      exact ⟨_, _, kvs, rfl, HF.out, Nat.le_refl _, Nat.le_refl _, hnx⟩
end Go.Proofs.Ytamnlifdfhmbnaa
/- Does a folder fit: the program. -/
namespace Go.Proofs.Ytamnlifdfhmbnaa
open Go.RowKit Go.WideShapes Go.Maps
/-- How long the data at a name is. -/
def lenAt (P : List Pre2) (t : Txt) : Nat := ((P.find? fun r => decide (nmP r = t)).map fun r => r.2.size).getD 0
theorem lenAt_of {P : List Pre2} (h : RisP P) {r : Pre2} (hr : r ∈ P) : lenAt P (nmP r) = r.2.size := by
  unfold lenAt
  rcases e : P.find? (fun q => decide (nmP q = nmP r)) with _ | q
  · have := List.find?_eq_none.1 e r hr
    simp at this
  · have h1 := List.find?_some e
    have h2 := List.mem_of_find?_eq_some e
    rw [decide_eq_true_eq] at h1
    rw [h.one h2 hr (nmP_inj h1)]
    rfl
def sumAt (P : List Pre2) (us : List Txt) : Nat := (us.map (lenAt P)).sum
theorem sumAt_snoc (P : List Pre2) (us : List Txt) (t : Txt) : sumAt P (us ++ [t]) = sumAt P us + lenAt P t := by unfold sumAt; simp
theorem sumAt_names {P : List Pre2} (h : RisP P) : sumAt P (P.map nmP) = totF P := by
  unfold sumAt totF
  rw [List.map_map]
  congr 1
  exact List.map_congr_left fun r hr => lenAt_of h hr
theorem sumAt_perm {P : List Pre2} {us vs : List Txt} (h : us.Perm vs) : sumAt P us = sumAt P vs := by unfold sumAt; exact (h.map _).sum_nat
theorem sumAt_le (P : List Pre2) : ∀ (us vs : List Txt), us.Nodup → (∀ t ∈ us, t ∈ vs) → sumAt P us ≤ sumAt P vs
  | [], vs, _, _ => by simp [sumAt]
  | t :: us, vs, hn, hs => by
    rw [List.nodup_cons] at hn
    have ht := hs t (by simp)
    have hp : vs.Perm (t :: vs.erase t) := List.perm_cons_erase ht
    have ih := sumAt_le P us (vs.erase t) hn.2 (fun x hx => by
      have hxv := hs x (by simp [hx])
      rcases List.mem_cons.1 (hp.mem_iff.1 hxv) with rfl | h
      · exact absurd hx hn.1
      · exact h)
    rw [sumAt_perm hp]
    unfold sumAt at ih ⊢
    simp only [List.map_cons, List.sum_cons]
    omega
def lensT (ps : List ByteArray) : Nat := (ps.map ByteArray.size).sum
theorem lensT_snoc (ps : List ByteArray) (p : ByteArray) : lensT (ps ++ [p]) = lensT ps + p.size := by simp [lensT]
theorem lensT_cat (ps : List ByteArray) : lensT ps = (catT ps).length := by
  induction ps with
  | nil => rfl
  | cons p ps ih =>
    have e : (catT (p :: ps)).length = p.size + (catT ps).length := by
      simp only [catT, List.flatMap_cons, List.length_append]; rfl
    rw [e, ← ih]; simp [lensT]
theorem lensT_take (ps : List ByteArray) (k : Nat) : lensT (ps.take k) ≤ lensT ps := by
  unfold lensT
  conv => rhs; rw [← List.take_append_drop k ps]
  rw [List.map_append, List.sum_append]; omega
theorem lensT_mem {ps : List ByteArray} {p : ByteArray} (h : p ∈ ps) : p.size ≤ lensT ps := by
  unfold lensT
  induction ps with
  | nil => simp at h
  | cons q r ih =>
    rcases List.mem_cons.1 h with rfl | h
    · simp
    · have := ih h; simp; omega
theorem bsz (d : ByteArray) : d.data.toList.length = d.size := rfl
set_option maxRecDepth 100000 in
set_option maxHeartbeats 3200000 in
theorem implFits (B m b n : Nat) (kvs : List (Txt × Value)) (P : List Pre2) (w : World) (hM : OwnMapD w b n kvs) (hF : FolIs B m w kvs P) (hR : RisP P) (ht : totF P ≤ 1000000000000000000) (hl : P.length ≤ 1000000000000000000) (hm : m ≤ 1000000000000000000) :
    Calls Try.prog 76 #[.map (some b)] w fun e w' => e = .returned (.bool (fitsF P)) ∧ Below w.heap.size w w' := by
  have hlen := hF.len hM hR
  have HMM := Lib.hid hM
  obtain ⟨D, hown, hD⟩ := hM
  have hnd := hD.nodup
  have hbl := hown.lt
  have HKP : Hid (∀ us : List Txt, us.Nodup → (∀ t ∈ us, t ∈ kvs.map Prod.fst) → sumAt P us ≤ totF P) := Lib.hid (fun us h1 h2 => by
    rw [← sumAt_names hR]
    exact sumAt_le P us _ h1 (fun t ht => (hF.1 t).1 (h2 t ht)))
  have HPE : Hid (∀ us : List Txt, us.Perm (kvs.map Prod.fst) → sumAt P us = totF P) := Lib.hid (fun us h => by
    rw [← sumAt_names hR, sumAt_perm h]
    exact sumAt_perm ((List.perm_ext_iff_of_nodup hnd (risP_keys.2 hR).nodup).2 hF.1))
  have HR := Lib.hid hR
  have HF := Lib.hid hF
  have HD := Lib.hid hD
  have HO := Lib.hid hown
  have HL := Lib.hid hlen
  have HND := Lib.hid hnd
  clear hR hF hlen hnd
  go_enter Try.func76, Try.ntmps76
  go_wp2_with (first
    | (at_range; refine wpList_range_own _ rfl _ 70 rfl 9 83 lawTxt Try.underlying70 valD b n D rfl hown ?_; intro w0 hrg0 hg0 hs0)
    | go_in)
  go_frame
  go_loopw [3] (fun q wr => ∃ (left : Lit → Bool) (cnt : Nat) (us : List Txt), q = .int .i64 (sumAt P us : Nat) ∧ wr.ranges Try.prog 9 valD b w.heap.size n D left cnt ∧ Hid (Collected D left us) ∧ Hid (∀ t ∈ us, t ∈ kvs.map Prod.fst) ∧ Below w.heap.size w wr)
    (fun _ wr => wr.rangeLeft b w.heap.size)
  case atStart =>
    exact ⟨_, _, [], rfl, hrg0, Lib.hid (Collected.start D), Lib.hid (by simp), (Below.refl _ _).grown hg0 (Nat.le_refl _) (fun j hj => by cases hj)⟩
  case round =>
    obtain ⟨left, cnt, us, rfl, hrg, hC, hin, hnx⟩ := hrel
    have HS0 := Lib.hid (HKP.out us hC.out.1 hin.out)
    obtain ⟨S, hS⟩ : ∃ S, sumAt P us = S := ⟨_, rfl⟩
    have HSE := Lib.hid hS
    have hSb : S ≤ 1000000000000000000 := by have := HS0.out; omega
    rw [hS]
    clear hS
    go_wp2_with (first
      | (at_next; refine wpList_next_ranges _ rfl _ rfl 9 lawTxt valD encStr id (fun key kl hk => by obtain ⟨x, hx, _⟩ := Maps.keyOf_str Try.underlying9 hk; exact ⟨x, hx⟩) (fun v _ _ => ⟨v, rfl⟩) b w.heap.size n _ _ _ rfl hrg ?_ ?_)
      | go_in)
    · -- NOTHING IS LEFT
      intro hc0 hl0
      have hp : us.Perm (kvs.map Prod.fst) := (List.perm_ext_iff_of_nodup hC.out.1 HND.out).2 (fun t => ⟨hin.out t, fun h => (hC.out.2 t).2 ⟨(HD.out.has _).2 ⟨t, h, rfl⟩, hl0 _⟩⟩)
      have hfin : S = totF P := by rw [← HSE.out]; exact HPE.out us hp
      have MM : OwnMapD wr b n kvs := HMM.out.next hnx
      have hkl : kvs.length = P.length := HL.out
      have hnl : P.length ≤ 1000000000000000000 := hl
      obtain ⟨L, hLe⟩ : ∃ L, P.length = L := ⟨_, rfl⟩
      rw [hLe] at hkl hnl
      have HKL := Lib.hid hkl
      have HLE := Lib.hid hLe
      have HFIN := Lib.hid hfin
      clear hp hfin hkl hLe hl ht hm HKP HPE HF
      by_cases g1 : L ≤ 60
      · have i1 : (L : Int) ≤ 60 := by omega
        by_cases g2 : S ≤ 200000
        · have i2 : (S : Int) ≤ 200000 := by omega
          have HR2 : Hid (fitsF P = true) := Lib.hid (by unfold fitsF; rw [HLE.out, ← HFIN.out]; simp [g1, g2])
          go_wp2_with (at_len; refine wpList_countF _ rfl _ rfl b n kvs rfl MM ?_; rw [HKL.out])
          go_ret
          exact ⟨by rw [HR2.out]; rfl, hnx⟩
        · have i2 : ¬ (S : Int) ≤ 200000 := by omega
          have HR2 : Hid (fitsF P = false) := Lib.hid (by unfold fitsF; rw [HLE.out, ← HFIN.out]; simp [g2])
          go_wp2_with (at_len; refine wpList_countF _ rfl _ rfl b n kvs rfl MM ?_; rw [HKL.out])
          go_ret
          exact ⟨by rw [HR2.out]; rfl, hnx⟩
      · have i1 : ¬ (L : Int) ≤ 60 := by omega
        have HR2 : Hid (fitsF P = false) := Lib.hid (by unfold fitsF; rw [HLE.out]; simp [g1])
        go_wp2_with (at_len; refine wpList_countF _ rfl _ rfl b n kvs rfl MM ?_; rw [HKL.out])
        go_ret
        exact ⟨by rw [HR2.out]; rfl, hnx⟩
    · -- AN ENTRY HAS COME
      intro x c kl yd yp w2 cnt2 hkey hlk hv hat hrg2 hlt hg2 hs2 hen
      obtain ⟨x', ex, rfl, _⟩ := Maps.keyOf_str Try.underlying9 hkey
      obtain rfl : x = x' := encStr_inj ex
      unfold valD at hv
      simp only [Option.some.injEq, Prod.mk.injEq] at hv
      obtain ⟨rfl, rfl⟩ := hv
      have hxk : x ∈ kvs.map Prod.fst := by
        obtain ⟨t, ht, e⟩ := (HD.out.has _).1 (has_true_of_atKey hat)
        have : x = t := litS_inj e
        rw [this]; exact ht
      obtain ⟨p, hp, hpx⟩ := List.mem_map.1 hxk
      have hpc : p.2 = c := by
        have h1 := HD.out.val p hp (.held c)
        rw [hpx] at h1
        have h2 := hat (.held c)
        unfold litS at h1
        rw [h1] at h2
        simpa using h2
      have B2 : Below w.heap.size w w2 := hnx.grown hg2 hnx.size (fun j hj => by cases hj; exact Nat.le_refl _)
      obtain ⟨r, hr, hrx, ps, ops, hcat, hpm⟩ := (HF.out.next B2).val HND.out hp
      rw [hpc] at ops
      rw [hpx] at hrx
      obtain ⟨ca, cc, rfl, ips⟩ := ops.is
      have hlx : lenAt P x = lensT ps := by rw [← hrx, lenAt_of HR.out hr, lensT_cat, hcat]; rfl
      have hC2 := Lib.hid (hC.out.step hlk hat)
      have hin2 : Hid (∀ t ∈ us ++ [x], t ∈ kvs.map Prod.fst) := Lib.hid (fun t ht => by
        rcases List.mem_append.1 ht with h | h
        · exact hin.out t h
        · rw [List.mem_singleton.1 h]; exact hxk)
      have HS2 := HKP.out _ hC2.out.1 hin2.out
      rw [sumAt_snoc, HSE.out, hlx] at HS2
      have HSN : Hid (sumAt P (us ++ [x]) = S + lensT ps) := Lib.hid (by rw [sumAt_snoc, HSE.out, hlx])
      have hrl := hrg2
      have hmeas : wr.rangeLeft b w.heap.size = cnt := hrg.left_eq
      have hmeas2 : w2.rangeLeft b w.heap.size = cnt2 := hrg2.left_eq
      have HRG := Lib.hid hrg2
      have HLT := Lib.hid (by rw [hmeas, hmeas2]; exact hlt : w2.rangeLeft b w.heap.size < wr.rangeLeft b w.heap.size)
      obtain ⟨N, hN⟩ : ∃ N, ps.length = N := ⟨_, rfl⟩
      obtain ⟨T, hT⟩ : ∃ T, lensT ps = T := ⟨_, rfl⟩
      rw [hT] at HS2 HSN
      have hSTb : S + T ≤ 1000000000000000000 := by omega
      have hNb : N ≤ 1000000000000000000 := by omega
      rw [hN] at ips hen ⊢
      have IP := Lib.hid ips
      have HT := Lib.hid hT
      have HN := Lib.hid hN
      clear hkey hlk hat hrg hrg2 hlt hg2 hs2 hxk hp hpx hpc hr hrx ops hcat hpm hlx HS2 hrl hmeas hmeas2 hC hin hnx HS0 ips hN hT HSE ht hl hm ex
      go_wp2_with fail
      go_loopw [3, 16] (fun q i wr' => wr' = w2 ∧ ∃ k : Nat, k ≤ N ∧ i = .int .i64 k ∧ q = .int .i64 ((S + lensT (ps.take k) : Nat) : Int)) (fun _ i _ => N - (intOf i).toNat)
      case atStart => exact ⟨rfl, 0, Nat.zero_le _, rfl, by simp [lensT]⟩
      case round =>
        obtain ⟨rfl, k, hk, rfl, rfl⟩ := hrel
        have hk6 : (0 : Int) ≤ (k : Int) := by omega
        by_cases hlt : k < N
        · have hk7 : (k : Int) < (N : Int) := by omega
          obtain ⟨g, off, rfl, hgb, _, _, hts, hc⟩ := IP.out.cells (by omega)
          have hkp : k < ps.length := by rw [hts]; exact hlt
          have ht : ps[k]? = some (ps[k]'hkp) := List.getElem?_eq_getElem _
          have HK : ps.take (k + 1) = ps.take k ++ [ps[k]'hkp] := List.take_succ_eq_append_getElem _
          have c0 := hc k _ ht
          have hle := lensT_take ps (k + 1)
          rw [HK, lensT_snoc, HT.out] at hle
          have HE : Hid (lensT (ps.take (k + 1)) = lensT (ps.take k) + (ps[k]'hkp).size) := Lib.hid (by rw [HK, lensT_snoc])
          generalize ps[k]'hkp = t at c0 hle HE
          obtain ⟨Q, hQ⟩ : ∃ Q, lensT (ps.take k) = Q := ⟨_, rfl⟩
          rw [hQ] at hle HE ⊢
          have htz : t.size ≤ 9223372036854775807 := by omega
          have hq1 : ((S + Q : Nat) : Int) + (t.size : Int) ≤ 1000000000000000000 := by omega
          have hq0 : (0 : Int) ≤ ((S + Q : Nat) : Int) := by omega
          have HQ2 : Hid (((S + (Q + t.size) : Nat) : Int) = ((S + Q : Nat) : Int) + (t.size : Int)) := Lib.hid (by omega)
          obtain ⟨Z, hZ⟩ : ∃ Z : Nat, S + Q = Z := ⟨_, rfl⟩
          rw [hZ] at hq1 hq0 HQ2 ⊢
          clear hts hc ht HK hQ hle hZ
          go_wp2_with fail
          go_roundw
          case rel => exact ⟨trivial, k + 1, by omega, by go_num, by rw [HE.out, HQ2.out]⟩
          case measure => simp [intOf]; omega
        · obtain rfl : k = N := by omega
          have hfull : lensT (ps.take k) = T := by rw [List.take_of_length_le (by rw [HN.out]; exact Nat.le_refl _), HT.out]
          rw [hfull]
          clear hfull
          go_wp2_with fail
          go_roundw
          case rel => exact ⟨_, cnt2, us ++ [x], by rw [HSN.out], HRG.out, hC2, hin2, B2⟩
          case measure => exact HLT.out
end Go.Proofs.Ytamnlifdfhmbnaa
