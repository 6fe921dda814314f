/- A file of a disk is read: the program, the specification. -/
import Derived.Test.YtamnlifdfhmbnaaG18
namespace Go.Proofs.Ytamnlifdfhmbnaa
open Go.RowKit Go.WideShapes
/-- What is read of a disk. -/
def readO (l s : List Pre2) (o : List OpV) (n : ByteArray) : Option ByteArray := if diskOk l s o = true then atF l n else none
theorem atF_skip : ∀ (k : Nat) (ts : List Pre2) (s : ByteArray), (∀ i, i < k → ∀ t, ts[i]? = some t → t.1 ≠ s) → atF ts s = atF (ts.drop k) s
  | 0, _, _, _ => rfl
  | k + 1, [], _, _ => rfl
  | k + 1, t :: r, s, h => by
    have h0 := h 0 (by omega) t rfl
    have e : atF (t :: r) s = atF r s := by
      show (if t.1 = s then some t.2 else atF r s) = _
      rw [if_neg h0]
    rw [e, List.drop_succ_cons]
    exact atF_skip k r s (fun i hi u hu => h (i + 1) (by omega) u (by simpa using hu))
set_option maxRecDepth 100000 in
set_option maxHeartbeats 1600000 in
theorem implDataIn (a : Option Addr) (len cap : Nat) (ts : List Pre2) (s : ByteArray) (w : World) (h : IsPres w a len cap ts) :
    Calls Try.prog 56 #[.slice a len cap, .string s] w fun e w' => e = .returned (.tuple #[.string ((atF ts s).getD ByteArray.empty), .bool (atF ts s).isSome]) ∧ Below w.heap.size w w' := by
  obtain ⟨v, hv⟩ : ∃ v, atF ts s = v := ⟨_, rfl⟩
  rw [hv]
  have HV := Lib.hid hv
  have HT := Lib.hid h.len
  have hlm := pres_mostFi h
  have H := Lib.hid h
  clear h hv
  go_enter Try.func56, Try.ntmps56
  go_wp2_with fail
  go_loopw [10] (fun i wr => ∃ k : Nat, k ≤ len ∧ i = .int .i64 k ∧ Hid (∀ i, i < k → ∀ t, ts[i]? = some t → t.1 ≠ s) ∧ Below w.heap.size w wr) (fun i _ => len - (intOf i).toNat)
  case atStart => exact ⟨0, Nat.zero_le _, rfl, Lib.hid (fun i hi => by omega), Below.refl _ _⟩
  case round =>
    obtain ⟨k, hk, rfl, hn, hnx⟩ := hrel
    have hk6 : (0 : Int) ≤ (k : Int) := by omega
    by_cases hlt : k < len
    · have hk7 : (k : Int) < (len : Int) := by omega
      obtain ⟨b, off, rfl, hb, hll, hm, hts, hc⟩ := H.out.cells (by omega)
      have ht : ts[k]? = some ts[k] := List.getElem?_eq_getElem (by omega)
      have HD : Hid (ts.drop k = ts[k] :: ts.drop (k + 1)) := Lib.hid (List.drop_eq_getElem_cons (by omega))
      obtain ⟨c0, c1, m0, m1⟩ := hc k _ ht
      rw [← hnx.cell (p := ⟨b, _, none⟩) hb] at c0 c1
      generalize ts[k] = t at ht c0 c1 HD
      obtain ⟨n, d⟩ := t
      simp only at c0 c1
      have X := cells_new wr #[.string n, .string d] 74
      have x0 := X.now.at 0
      have x1 := X.now.at 1
      have BW := hnx.alloc hnx.size (.cells #[.string n, .string d] 74)
      clear X
      by_cases e : n = s
      · subst e
        have HR : Hid (v = some d) := Lib.hid (by
          rw [← HV.out, atF_skip k ts n hn.out, HD.out]
          show (if n = n then some d else _) = _
          rw [if_pos rfl])
        clear hts hc m0 m1 ht HD
        go_wp2_with fail
        go_ret2
        exact ⟨by rw [HR.out]; rfl, BW⟩
      · have hne : (n.toList == s.toList) = false := by
          rw [beq_eq_false_iff_ne, ByteArray.toList_eq, ByteArray.toList_eq]
          exact fun q => e (nmP_inj q)
        have HN : Hid (∀ i, i < k + 1 → ∀ t, ts[i]? = some t → t.1 ≠ s) := Lib.hid (fun i hi t htt => by
          rcases Nat.lt_or_ge i k with g | g
          · exact hn.out i g t htt
          · obtain rfl : i = k := by omega
            rw [ht] at htt
            cases htt
            exact e)
        clear hts hc m0 m1 ht HD e
        go_wp2_with fail
        go_roundw
        case rel => exact ⟨k + 1, by omega, by go_num, HN, BW⟩
        case measure => simp [intOf]; omega
    · obtain rfl : k = len := by omega
      have HR : Hid (v = none) := Lib.hid (by rw [← HV.out, atF_skip k ts s hn.out, List.drop_of_length_le (by rw [HT.out]; exact Nat.le_refl _)]; rfl)
      go_wp2_with fail
      go_ret2
      exact ⟨by rw [HR.out]; rfl, hnx⟩
def ReadPost (v : Option ByteArray) (w : World) (e : Ending) (w' : World) : Prop := e = .returned (.tuple #[.string (v.getD ByteArray.empty), .bool v.isSome]) ∧ Below w.heap.size w w'
set_option maxRecDepth 100000 in
set_option maxHeartbeats 1600000 in
theorem implReadFile (a0 a1 a2 : Option Addr) (n0 n1 n2 c0 c1 c2 : Nat) (l s : List Pre2) (o : List OpV) (n : ByteArray) (w : World) (h : IsDk w a0 a1 a2 n0 n1 n2 c0 c1 c2 l s o) (hz : SmDk l s o) (hn : n0 ≤ 1048576 ∧ n1 ≤ 1048576 ∧ n2 ≤ 1048576) :
    Calls Try.prog 21 #[.agg #[.slice a0 n0 c0, .slice a1 n1 c1, .slice a2 n2 c2], .string n] w (ReadPost (readO l s o n) w) := by
  have B0 := (Below.refl w.heap.size w).alloc (Nat.le_refl _) (.cells #[.slice a0 n0 c0, .slice a1 n1 c1, .slice a2 n2 c2] 27)
  have X := (cells_new w #[.slice a0 n0 c0, .slice a1 n1 c1, .slice a2 n2 c2] 27)
  have x0 := X.now.at 0
  have x1 := X.now.at 1
  have x2 := X.now.at 2
  have DO := implDiskOk a0 a1 a2 n0 n1 n2 c0 c1 c2 l s o _ (h.next B0) hz hn
  have H := Lib.hid h
  have HX := Lib.hid X
  have HB := Lib.hid B0
  clear h hz X B0
  cases q : diskOk l s o
  · rw [q] at DO
    have D := Lib.hid DO
    have HR : Hid (readO l s o n = none) := Lib.hid (by unfold readO; rw [q, if_neg (by decide)])
    clear q DO
    go_enter Try.func21, Try.ntmps21
    go_wp2_with fail
    refine D.out.mono ?_
    rintro e w1 ⟨rfl, hb1⟩
    have B1 := HB.out.trans (hb1.mono HB.out.size)
    clear hb1
    go_wp2_with fail
    go_ret2
    exact ⟨by rw [HR.out]; rfl, B1⟩
  · rw [q] at DO
    have D := Lib.hid DO
    have HR : Hid (readO l s o n = atF l n) := Lib.hid (by unfold readO; rw [q, if_pos rfl])
    clear q DO
    go_enter Try.func21, Try.ntmps21
    go_wp2_with fail
    refine D.out.mono ?_
    rintro e w1 ⟨rfl, hb1⟩
    have B1 := HB.out.trans (hb1.mono HB.out.size)
    have y0 := (HX.out.next hb1).now.at 0
    clear hb1 HX x0 x1 x2
    go_wp2_with fail
    refine (implDataIn a0 n0 c0 l n _ (H.out.next B1).1).mono ?_
    rintro e w2 ⟨rfl, hb2⟩
    have B2 := B1.trans (hb2.mono B1.size)
    clear hb2
    go_wp2_with fail
    go_ret2
    exact ⟨by rw [HR.out]; rfl, B2⟩
set_option maxRecDepth 100000 in
set_option maxHeartbeats 1600000 in
theorem specReadFile (a0 a1 a2 : Option Addr) (n0 n1 n2 c0 c1 c2 : Nat) (l s : List Pre2) (o : List OpV) (n : ByteArray) (w : World) (h : IsDk w a0 a1 a2 n0 n1 n2 c0 c1 c2 l s o) (hz : SmDk l s o) (hn : n0 ≤ 1048576 ∧ n1 ≤ 1048576 ∧ n2 ≤ 1048576) :
    Calls Try.prog 37 #[.agg #[.slice a0 n0 c0, .slice a1 n1 c1, .slice a2 n2 c2], .string n] w (ReadPost (readO l s o n) w) := by
  have B0 := (Below.refl w.heap.size w).alloc (Nat.le_refl _) (.cells #[.slice a0 n0 c0, .slice a1 n1 c1, .slice a2 n2 c2] 27)
  have X := (cells_new w #[.slice a0 n0 c0, .slice a1 n1 c1, .slice a2 n2 c2] 27)
  have x0 := X.now.at 0
  have x1 := X.now.at 1
  have x2 := X.now.at 2
  have DO := specDiskOk a0 a1 a2 n0 n1 n2 c0 c1 c2 l s o _ (h.next B0) hz hn
  have H := Lib.hid h
  have HX := Lib.hid X
  have HB := Lib.hid B0
  clear h hz X B0
  cases q : diskOk l s o
  · rw [q] at DO
    have D := Lib.hid DO
    have HR : Hid (readO l s o n = none) := Lib.hid (by unfold readO; rw [q, if_neg (by decide)])
    clear q DO
    go_enter Try.func37, Try.ntmps37
    go_wp2_with fail
    refine D.out.mono ?_
    rintro e w1 ⟨rfl, hb1⟩
    have B1 := HB.out.trans (hb1.mono HB.out.size)
    clear hb1
    go_wp2_with fail
    go_ret2
    exact ⟨by rw [HR.out]; rfl, B1⟩
  rw [q] at DO
  have D := Lib.hid DO
  have HR : Hid (readO l s o n = atF l n) := Lib.hid (by unfold readO; rw [q, if_pos rfl])
  clear q DO
  rcases placeF_at l n 0 with ⟨e1, e2⟩ | ⟨i, dd, e1, e2, e3⟩
  · have HE := Lib.hid e1
    have HP := Lib.hid e2
    clear e1 e2
    go_enter Try.func37, Try.ntmps37
    go_wp2_with fail
    refine D.out.mono ?_
    rintro e w1 ⟨rfl, hb1⟩
    have B1 := HB.out.trans (hb1.mono HB.out.size)
    have y0 := (HX.out.next hb1).now.at 0
    clear hb1 HX x0 x1 x2
    go_wp2_with fail
    have AT := specAt a0 n0 c0 l n w1 (H.out.next B1).1 (by omega)
    rw [HP.out] at AT
    have ATH := Lib.hid AT
    clear AT
    refine ATH.out.mono ?_
    rintro e w2 ⟨rfl, rfl⟩
    go_wp2_with fail
    go_ret2
    exact ⟨by rw [HR.out, HE.out]; rfl, B1⟩
  · have HE := Lib.hid e1
    rw [Nat.zero_add] at e2
    have HP := Lib.hid e2
    have hil := (List.getElem?_eq_some_iff.1 e3).1
    have hln := H.out.1.len
    obtain ⟨b, off, rfl, hb0, _, _, _, hc⟩ := H.out.1.cells (by omega)
    obtain ⟨_, q1, _, _⟩ := hc i _ e3
    have Y1 : Hid (∀ W, Below w.heap.size w W → W.cell? ⟨b, off + i * 2 + 1, none⟩ = some (.string dd)) := Lib.hid (fun W hW => (hW.cell (p := ⟨b, _, none⟩) hb0).trans q1)
    have hi6 : (0 : Int) ≤ (i : Int) := by omega
    have hi7 : (i : Int) < (n0 : Int) := by omega
    clear e1 e2 e3 hil hln hc q1
    go_enter Try.func37, Try.ntmps37
    go_wp2_with fail
    refine D.out.mono ?_
    rintro e w1 ⟨rfl, hb1⟩
    have B1 := HB.out.trans (hb1.mono HB.out.size)
    have y0 := (HX.out.next hb1).now.at 0
    have y1 := Y1.out w1 B1
    clear hb1 HX x0 x1 x2
    go_wp2_with fail
    have AT := specAt (some ⟨b, off, none⟩) n0 c0 l n w1 (H.out.next B1).1 (by omega)
    rw [HP.out] at AT
    have ATH := Lib.hid AT
    clear AT
    refine ATH.out.mono ?_
    rintro e w2 ⟨rfl, rfl⟩
    go_wp2_with fail
    go_ret2
    exact ⟨by rw [HR.out, HE.out]; rfl, B1⟩
end Go.Proofs.Ytamnlifdfhmbnaa
