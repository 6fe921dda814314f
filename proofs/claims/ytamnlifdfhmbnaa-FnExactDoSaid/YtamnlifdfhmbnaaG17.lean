/- An op done on the program's folder. -/
import Derived.Test.YtamnlifdfhmbnaaG16
import Derived.Deep.RegionHeld3
import Derived.Deep.RegionWith
import Derived.Test.YtamnlifdfhmbnaaG10
import Derived.Test.YtamnlifdfhmbnaaG03
import Derived.Test.YtamnlifdfhmbnaaG08
namespace Go.Proofs.Ytamnlifdfhmbnaa
open Go.RowKit Go.WideShapes Go.Maps
set_option maxRecDepth 100000 in
set_option maxHeartbeats 1600000 in
theorem kindOfA (s t d : ByteArray) (w : World) :
    Calls Try.prog 96 #[.agg #[.int .i64 1, .string s, .string t, .string d]] w fun e w' => e = .returned (.tuple #[.iface 138 (.agg #[.int .i64 1, .string s, .string t, .string d]), .bool true]) ∧ Below w.heap.size w w' := by
  have B0 := (Below.refl w.heap.size w).alloc (Nat.le_refl _) (.cells #[.int .i64 1, .string s, .string t, .string d] 36)
  have X := cells_new w #[.int .i64 1, .string s, .string t, .string d] 36
  have x0 := X.now.at 0
  have x1 := X.now.at 1
  have x2 := X.now.at 2
  have x3 := X.now.at 3
  clear X
  go_enter Try.func96, Try.ntmps96
  go_wp2_with fail
  go_ret2
  exact ⟨rfl, B0⟩
set_option maxRecDepth 100000 in
set_option maxHeartbeats 1600000 in
theorem kindOfR (s t d : ByteArray) (w : World) :
    Calls Try.prog 96 #[.agg #[.int .i64 2, .string s, .string t, .string d]] w fun e w' => e = .returned (.tuple #[.iface 139 (.agg #[.int .i64 2, .string s, .string t, .string d]), .bool true]) ∧ Below w.heap.size w w' := by
  have B0 := (Below.refl w.heap.size w).alloc (Nat.le_refl _) (.cells #[.int .i64 2, .string s, .string t, .string d] 36)
  have X := cells_new w #[.int .i64 2, .string s, .string t, .string d] 36
  have x0 := X.now.at 0
  have x1 := X.now.at 1
  have x2 := X.now.at 2
  have x3 := X.now.at 3
  clear X
  go_enter Try.func96, Try.ntmps96
  go_wp2_with fail
  go_ret2
  exact ⟨rfl, B0⟩
set_option maxRecDepth 100000 in
set_option maxHeartbeats 1600000 in
theorem kindOfM (s t d : ByteArray) (w : World) :
    Calls Try.prog 96 #[.agg #[.int .i64 3, .string s, .string t, .string d]] w fun e w' => e = .returned (.tuple #[.iface 140 (.agg #[.int .i64 3, .string s, .string t, .string d]), .bool true]) ∧ Below w.heap.size w w' := by
  have B0 := (Below.refl w.heap.size w).alloc (Nat.le_refl _) (.cells #[.int .i64 3, .string s, .string t, .string d] 36)
  have X := cells_new w #[.int .i64 3, .string s, .string t, .string d] 36
  have x0 := X.now.at 0
  have x1 := X.now.at 1
  have x2 := X.now.at 2
  have x3 := X.now.at 3
  clear X
  go_enter Try.func96, Try.ntmps96
  go_wp2_with fail
  go_ret2
  exact ⟨rfl, B0⟩
set_option maxRecDepth 100000 in
set_option maxHeartbeats 1600000 in
theorem kindOfNo (r : Int) (s t d : ByteArray) (h1 : ¬ r = 1) (h2 : ¬ r = 2) (h3 : ¬ r = 3) (w : World) :
    Calls Try.prog 96 #[.agg #[.int .i64 r, .string s, .string t, .string d]] w fun e w' => e = .returned (.tuple #[.nilIface, .bool false]) ∧ Below w.heap.size w w' := by
  have B0 := (Below.refl w.heap.size w).alloc (Nat.le_refl _) (.cells #[.int .i64 r, .string s, .string t, .string d] 36)
  have X := cells_new w #[.int .i64 r, .string s, .string t, .string d] 36
  have x0 := X.now.at 0
  have b1 : (r == 1) = false := by rw [beq_eq_false_iff_ne]; exact h1
  have b2 : (r == 2) = false := by rw [beq_eq_false_iff_ne]; exact h2
  have b3 : (r == 3) = false := by rw [beq_eq_false_iff_ne]; exact h3
  clear X
  go_enter Try.func96, Try.ntmps96
  go_wp2_with fail
  go_ret2
  exact ⟨rfl, B0⟩
set_option maxRecDepth 100000 in
set_option maxHeartbeats 1600000 in
theorem opOfA (s t d : ByteArray) (hs : s.size ≤ maxLen) (ht : t.size ≤ maxLen) (w : World) :
    Calls Try.prog 77 #[.agg #[.int .i64 1, .string s, .string t, .string d]] w fun e w' => e = .returned (if formOk (1, s, t, d) = true then .tuple #[.iface 138 (.agg #[.int .i64 1, .string s, .string t, .string d]), .bool true] else .tuple #[.nilIface, .bool false]) ∧ Below w.heap.size w w' := by
  have B0 := (Below.refl w.heap.size w).alloc (Nat.le_refl _) (.cells #[.int .i64 1, .string s, .string t, .string d] 36)
  have X := cells_new w #[.int .i64 1, .string s, .string t, .string d] 36
  have x0 := X.now.at 0
  have x1 := X.now.at 1
  have x2 := X.now.at 2
  have x3 := X.now.at 3
  have K1 := Lib.hid (kindOfA s t d)
  have hme := methA_right (.int .i64 1) (.string s) (.string t) (.string d)
  have R0 := rightA 1 s t d hs ht
  have hfm : formOk (1, s, t, d) = (nmOk s && decide (t.size = 0)) := by unfold formOk; simp
  cases q : formOk (1, s, t, d)
  all_goals
    rw [hfm] at q
    rw [q] at R0
    have R1 := Lib.hid R0
    have HB := Lib.hid B0
    clear R0 X q hfm B0
    go_enter Try.func77, Try.ntmps77
    go_wp2_with fail
    refine (K1.out _).mono ?_
    rintro e w1 ⟨rfl, hb1⟩
    have B1 := Lib.hid (HB.out.trans (hb1.mono HB.out.size))
    clear hb1 x0 x1 x2 x3
    go_wp2_with fail
    refine (R1.out _).mono ?_
    rintro e w2 ⟨rfl, hb2⟩
    have B2 := B1.out.trans (hb2.mono B1.out.size)
    clear hb2
    go_wp2_with fail
    go_ret2
    exact ⟨rfl, B2⟩
set_option maxRecDepth 100000 in
set_option maxHeartbeats 1600000 in
theorem opOfR (s t d : ByteArray) (hs : s.size ≤ maxLen) (ht : t.size ≤ maxLen) (w : World) :
    Calls Try.prog 77 #[.agg #[.int .i64 2, .string s, .string t, .string d]] w fun e w' => e = .returned (if formOk (2, s, t, d) = true then .tuple #[.iface 139 (.agg #[.int .i64 2, .string s, .string t, .string d]), .bool true] else .tuple #[.nilIface, .bool false]) ∧ Below w.heap.size w w' := by
  have B0 := (Below.refl w.heap.size w).alloc (Nat.le_refl _) (.cells #[.int .i64 2, .string s, .string t, .string d] 36)
  have X := cells_new w #[.int .i64 2, .string s, .string t, .string d] 36
  have x0 := X.now.at 0
  have x1 := X.now.at 1
  have x2 := X.now.at 2
  have x3 := X.now.at 3
  have K1 := Lib.hid (kindOfR s t d)
  have hme := methR_right (.int .i64 2) (.string s) (.string t) (.string d)
  have R0 := rightR 2 s t d hs ht
  have hfm : formOk (2, s, t, d) = (nmOk s && (nmOk t && decide (d.size = 0))) := by unfold formOk; simp
  cases q : formOk (2, s, t, d)
  all_goals
    rw [hfm] at q
    rw [q] at R0
    have R1 := Lib.hid R0
    have HB := Lib.hid B0
    clear R0 X q hfm B0
    go_enter Try.func77, Try.ntmps77
    go_wp2_with fail
    refine (K1.out _).mono ?_
    rintro e w1 ⟨rfl, hb1⟩
    have B1 := Lib.hid (HB.out.trans (hb1.mono HB.out.size))
    clear hb1 x0 x1 x2 x3
    go_wp2_with fail
    refine (R1.out _).mono ?_
    rintro e w2 ⟨rfl, hb2⟩
    have B2 := B1.out.trans (hb2.mono B1.out.size)
    clear hb2
    go_wp2_with fail
    go_ret2
    exact ⟨rfl, B2⟩
set_option maxRecDepth 100000 in
set_option maxHeartbeats 1600000 in
theorem opOfM (s t d : ByteArray) (hs : s.size ≤ maxLen) (ht : t.size ≤ maxLen) (w : World) :
    Calls Try.prog 77 #[.agg #[.int .i64 3, .string s, .string t, .string d]] w fun e w' => e = .returned (if formOk (3, s, t, d) = true then .tuple #[.iface 140 (.agg #[.int .i64 3, .string s, .string t, .string d]), .bool true] else .tuple #[.nilIface, .bool false]) ∧ Below w.heap.size w w' := by
  have B0 := (Below.refl w.heap.size w).alloc (Nat.le_refl _) (.cells #[.int .i64 3, .string s, .string t, .string d] 36)
  have X := cells_new w #[.int .i64 3, .string s, .string t, .string d] 36
  have x0 := X.now.at 0
  have x1 := X.now.at 1
  have x2 := X.now.at 2
  have x3 := X.now.at 3
  have K1 := Lib.hid (kindOfM s t d)
  have hme := methM_right (.int .i64 3) (.string s) (.string t) (.string d)
  have R0 := rightM 3 s t d hs ht
  have hfm : formOk (3, s, t, d) = (nmOk s && (decide (t.size = 0) && decide (d.size = 0))) := by unfold formOk; simp
  cases q : formOk (3, s, t, d)
  all_goals
    rw [hfm] at q
    rw [q] at R0
    have R1 := Lib.hid R0
    have HB := Lib.hid B0
    clear R0 X q hfm B0
    go_enter Try.func77, Try.ntmps77
    go_wp2_with fail
    refine (K1.out _).mono ?_
    rintro e w1 ⟨rfl, hb1⟩
    have B1 := Lib.hid (HB.out.trans (hb1.mono HB.out.size))
    clear hb1 x0 x1 x2 x3
    go_wp2_with fail
    refine (R1.out _).mono ?_
    rintro e w2 ⟨rfl, hb2⟩
    have B2 := B1.out.trans (hb2.mono B1.out.size)
    clear hb2
    go_wp2_with fail
    go_ret2
    exact ⟨rfl, B2⟩
set_option maxRecDepth 100000 in
set_option maxHeartbeats 1600000 in
theorem opOfNo (r : Int) (s t d : ByteArray) (h1 : ¬ r = 1) (h2 : ¬ r = 2) (h3 : ¬ r = 3) (w : World) :
    Calls Try.prog 77 #[.agg #[.int .i64 r, .string s, .string t, .string d]] w fun e w' => e = .returned (.tuple #[.nilIface, .bool false]) ∧ Below w.heap.size w w' := by
  have B0 := (Below.refl w.heap.size w).alloc (Nat.le_refl _) (.cells #[.int .i64 r, .string s, .string t, .string d] 36)
  have X := cells_new w #[.int .i64 r, .string s, .string t, .string d] 36
  have x0 := X.now.at 0
  have x1 := X.now.at 1
  have x2 := X.now.at 2
  have x3 := X.now.at 3
  have K1 := Lib.hid (kindOfNo r s t d h1 h2 h3)
  have HB := Lib.hid B0
  clear X B0 h1 h2 h3
  go_enter Try.func77, Try.ntmps77
  go_wp2_with fail
  refine (K1.out _).mono ?_
  rintro e w1 ⟨rfl, hb1⟩
  have B1 := HB.out.trans (hb1.mono HB.out.size)
  clear hb1
  go_wp2_with fail
  go_ret2
  exact ⟨rfl, B1⟩
theorem formOk_kind {r : Int} {s t d : ByteArray} (h1 : ¬ r = 1) (h2 : ¬ r = 2) (h3 : ¬ r = 3) : formOk (r, s, t, d) = false := by
  unfold formOk
  have : (decide (1 ≤ r) && decide (r ≤ 3)) = false := by
    rw [Bool.and_eq_false_iff, decide_eq_false_iff_not, decide_eq_false_iff_not]; omega
  simp only [this, Bool.false_and]
/-- What an op on a folder is told as. -/
def codeF (P : List Pre2) (op : OpV) : Int := if formOk op = true then (if (doF P op).2 = true then (if fitsF (doF P op).1 = true then 0 else 4) else 3) else 2
/-- What is in memory behind it: the new folder where it is done. -/
def DoPost (B m b n : Nat) (P : List Pre2) (op : OpV) (w : World) (e : Ending) (w' : World) : Prop :=
  e = .returned (.int .i64 (codeF P op)) ∧ Below B w w' ∧ (codeF P op = 0 → ∃ kvs, OwnMapD w' b (n + 1) kvs ∧ FolIs B (m + 1) w' kvs (doF P op).1)
theorem mem_names {P : List Pre2} {s : ByteArray} : s.data.toList ∈ P.map nmP ↔ atF P s ≠ none := by
  constructor
  · intro h e
    obtain ⟨r, hr, er⟩ := List.mem_map.1 h
    exact atF_none.1 e r hr (nmP_inj er)
  · intro h
    rcases e : atF P s with _ | d
    · exact absurd e h
    · exact List.mem_map.2 ⟨_, atF_mem e, rfl⟩
set_option maxRecDepth 100000 in
set_option maxHeartbeats 1600000 in
theorem implDoNo (r : Int) (s t d : ByteArray) (h1 : ¬ r = 1) (h2 : ¬ r = 2) (h3 : ¬ r = 3) (B m b n : Nat) (P : List Pre2) (w : World) (hB : B ≤ w.heap.size) :
    Calls Try.prog 42 #[.map (some b), .agg #[.int .i64 r, .string s, .string t, .string d]] w (DoPost B m b n P (r, s, t, d) w) := by
  have B0 := (Below.refl w.heap.size w).alloc (Nat.le_refl _) (.cells #[.int .i64 r, .string s, .string t, .string d] 36)
  have X := cells_new w #[.int .i64 r, .string s, .string t, .string d] 36
  have x0 := X.now.at 0
  have x1 := X.now.at 1
  have x2 := X.now.at 2
  have x3 := X.now.at 3
  have K1 := Lib.hid (opOfNo r s t d h1 h2 h3)
  have HB := Lib.hid B0
  have HC : Hid (codeF P (r, s, t, d) = 2) := Lib.hid (by unfold codeF; rw [formOk_kind h1 h2 h3, if_neg (by decide)])
  clear X B0 h1 h2 h3
  go_enter Try.func42, Try.ntmps42
  go_wp2_with fail
  refine (K1.out _).mono ?_
  rintro e w1 ⟨rfl, hb1⟩
  have B1 := HB.out.trans (hb1.mono HB.out.size)
  clear hb1
  go_wp2_with fail
  go_ret
  exact ⟨by rw [HC.out]; rfl, B1.mono hB, fun h => by rw [HC.out] at h; cases h⟩
set_option maxRecDepth 100000 in
set_option maxHeartbeats 3200000 in
theorem implDoA (s t d : ByteArray) (hs : s.size ≤ maxLen) (ht : t.size ≤ maxLen) (B m b n : Nat) (kvs : List (Txt × Value)) (P : List Pre2) (w : World) (hM : OwnMapD w b n kvs) (hF : FolIs B m w kvs P) (hR : RisP P) (hB : B ≤ b) (hn : n ≤ 1000000) (hm : m ≤ 1000000) (hl : (doF P (1, s, t, d)).1.length ≤ 1000000) (hz : totF (doF P (1, s, t, d)).1 ≤ 1000000000000000000) :
    Calls Try.prog 42 #[.map (some b), .agg #[.int .i64 1, .string s, .string t, .string d]] w (DoPost B m b n P (1, s, t, d) w) := by
  have hbl := hM.lt
  have hBw : B ≤ w.heap.size := by omega
  have B0 := (Below.refl w.heap.size w).alloc (Nat.le_refl _) (.cells #[.int .i64 1, .string s, .string t, .string d] 36)
  have X := cells_new w #[.int .i64 1, .string s, .string t, .string d] 36
  have x0 := X.now.at 0
  have x1 := X.now.at 1
  have x2 := X.now.at 2
  have x3 := X.now.at 3
  have K0 := opOfA s t d hs ht
  have HB := Lib.hid B0
  have HM := Lib.hid (hM.next B0)
  have HF := Lib.hid (hF.next B0)
  have HR := Lib.hid hR
  have hme1 := methA_finds (.int .i64 1) (.string s) (.string t) (.string d)
  have hme2 := methA_doneOn (.int .i64 1) (.string s) (.string t) (.string d)
  cases q : formOk (1, s, t, d)
  · rw [q, if_neg (by decide)] at K0
    have K1 := Lib.hid K0
    have HC : Hid (codeF P (1, s, t, d) = 2) := Lib.hid (by unfold codeF; rw [q, if_neg (by decide)])
    clear X B0 K0 q hM hF hR hme1 hme2
    go_enter Try.func42, Try.ntmps42
    go_wp2_with fail
    refine (K1.out _).mono ?_
    rintro e w1 ⟨rfl, hb1⟩
    have B1 := HB.out.trans (hb1.mono HB.out.size)
    clear hb1
    go_wp2_with fail
    go_ret
    exact ⟨by rw [HC.out]; rfl, B1.mono hBw, fun h => by rw [HC.out] at h; cases h⟩
  · rw [q, if_pos rfl] at K0
    have K1 := Lib.hid K0
    clear X B0 K0 hM hF
    have HQ := Lib.hid q
    have HD : Hid (doF P (1, s, t, d) = (putF P (s, dataAt P s ++ d), true)) := Lib.hid (by unfold doF; rw [if_pos rfl])
    have HL : Hid ((doF P (1, s, t, d)).1 = putF P (s, dataAt P s ++ d)) := Lib.hid (by rw [HD.out])
    have hl2 := hl
    have hz2 := hz
    rw [HL.out] at hl2 hz2
    have HRR : Hid (RisP (putF P (s, dataAt P s ++ d))) := Lib.hid (by rw [← HL.out]; exact doF_ris hR _)
    have HC : Hid (∀ v : Bool, fitsF (putF P (s, dataAt P s ++ d)) = v → codeF P (1, s, t, d) = if v = true then 0 else 4) := Lib.hid (fun v hv => by unfold codeF; rw [HQ.out, if_pos rfl, HD.out, if_pos rfl, hv])
    clear hR q hl hz
    go_enter Try.func42, Try.ntmps42
    go_wp2_with fail
    refine (K1.out _).mono ?_
    rintro e w1 ⟨rfl, hb1⟩
    have B1 := Lib.hid (HB.out.trans (hb1.mono HB.out.size))
    have M1 := Lib.hid (HM.out.next hb1)
    have F1 := Lib.hid (HF.out.next hb1)
    clear hb1 x0 x1 x2 x3 HB HM HF
    go_wp2_with fail
    refine (findsA 1 s t d (.map (some b)) _).mono ?_
    rintro e w2 ⟨rfl, hb2⟩
    have B2 := Lib.hid (B1.out.trans (hb2.mono B1.out.size))
    have M2 := Lib.hid (M1.out.next hb2)
    have F2 := Lib.hid (F1.out.next hb2)
    clear hb2 B1 M1 F1
    go_wp2_with fail
    refine (doneA 1 s t d B m b n kvs P hs _ M2.out F2.out hB hn hm).mono ?_
    rintro e w3 ⟨⟨vv, rfl⟩, kvs3, ⟨M3, F3⟩, n3⟩
    have HM3 := Lib.hid M3
    have HF3 := Lib.hid F3
    have N3 := Lib.hid ((B2.out.mono hBw).trans n3)
    clear B2 M2 F2 n3 M3 F3
    have FT := Lib.hid (implFits B (m + 1) b (n + 1) kvs3 (putF P (s, dataAt P s ++ d)) w3 HM3.out HF3.out HRR.out hz2 (by omega) (by omega))
    go_wp2_with fail
    refine FT.out.mono ?_
    rintro e w4 ⟨rfl, hb4⟩
    have N4 := N3.out.trans (hb4.mono (by have := N3.out.size; omega))
    have M4 := HM3.out.next hb4
    have F4 := HF3.out.next hb4
    clear hb4 FT
    cases qf : fitsF (putF P (s, dataAt P s ++ d))
    · have HC2 := Lib.hid (HC.out _ qf)
      clear qf HC
      go_wp2_with fail
      go_ret
      exact ⟨by rw [HC2.out]; rfl, N4, fun h => by rw [HC2.out] at h; cases h⟩
    · have HC2 := Lib.hid (HC.out _ qf)
      clear qf HC
      go_wp2_with fail
      go_ret
      exact ⟨by rw [HC2.out]; rfl, N4, fun _ => ⟨kvs3, M4, by rw [HL.out]; exact F4.mono (by omega)⟩⟩
set_option maxRecDepth 100000 in
set_option maxHeartbeats 3200000 in
theorem implDoR (s t d : ByteArray) (hs : s.size ≤ maxLen) (ht : t.size ≤ maxLen) (B m b n : Nat) (kvs : List (Txt × Value)) (P : List Pre2) (w : World) (hM : OwnMapD w b n kvs) (hF : FolIs B m w kvs P) (hR : RisP P) (hB : B ≤ b) (hn : n ≤ 1000000) (hm : m ≤ 1000000) (hl : (doF P (2, s, t, d)).1.length ≤ 1000000) (hz : totF (doF P (2, s, t, d)).1 ≤ 1000000000000000000) :
    Calls Try.prog 42 #[.map (some b), .agg #[.int .i64 2, .string s, .string t, .string d]] w (DoPost B m b n P (2, s, t, d) w) := by
  have hbl := hM.lt
  have hBw : B ≤ w.heap.size := by omega
  have B0 := (Below.refl w.heap.size w).alloc (Nat.le_refl _) (.cells #[.int .i64 2, .string s, .string t, .string d] 36)
  have X := cells_new w #[.int .i64 2, .string s, .string t, .string d] 36
  have x0 := X.now.at 0
  have x1 := X.now.at 1
  have x2 := X.now.at 2
  have x3 := X.now.at 3
  have K0 := opOfR s t d hs ht
  have HB := Lib.hid B0
  have HM := Lib.hid (hM.next B0)
  have HF := Lib.hid (hF.next B0)
  have HR := Lib.hid hR
  have hme1 := methR_finds (.int .i64 2) (.string s) (.string t) (.string d)
  have hme2 := methR_doneOn (.int .i64 2) (.string s) (.string t) (.string d)
  cases q : formOk (2, s, t, d)
  · rw [q, if_neg (by decide)] at K0
    have K1 := Lib.hid K0
    have HC : Hid (codeF P (2, s, t, d) = 2) := Lib.hid (by unfold codeF; rw [q, if_neg (by decide)])
    clear X B0 K0 q hM hF hR hme1 hme2
    go_enter Try.func42, Try.ntmps42
    go_wp2_with fail
    refine (K1.out _).mono ?_
    rintro e w1 ⟨rfl, hb1⟩
    have B1 := HB.out.trans (hb1.mono HB.out.size)
    clear hb1
    go_wp2_with fail
    go_ret
    exact ⟨by rw [HC.out]; rfl, B1.mono hBw, fun h => by rw [HC.out] at h; cases h⟩
  · rw [q, if_pos rfl] at K0
    have K1 := Lib.hid K0
    clear X B0 K0 hM hF
    have HQ := Lib.hid q
    rcases ea : atF P s with _ | e0
    · have HD : Hid (doF P (2, s, t, d) = (P, false)) := Lib.hid (by unfold doF; rw [if_neg (show ¬ (2 : Int) = 1 by decide)]; simp only [ea])
      have HC : Hid (codeF P (2, s, t, d) = 3) := Lib.hid (by unfold codeF; rw [HQ.out, if_pos rfl, HD.out, if_neg (by simp)])
      have HNO : Hid (decide (s.data.toList ∈ kvs.map Prod.fst) = false) := Lib.hid (decide_eq_false (HF.out.no ea))
      clear hR q hl hz ea
      go_enter Try.func42, Try.ntmps42
      go_wp2_with fail
      refine (K1.out _).mono ?_
      rintro e w1 ⟨rfl, hb1⟩
      have B1 := Lib.hid (HB.out.trans (hb1.mono HB.out.size))
      have M1 := Lib.hid (HM.out.next hb1)
      clear hb1 x0 x1 x2 x3 HB HM HF
      go_wp2_with fail
      refine (findsR 2 s t d b n kvs hs _ M1.out).mono ?_
      rintro e w2 ⟨rfl, hb2⟩
      have B2 := B1.out.trans (hb2.mono B1.out.size)
      clear hb2 B1 M1
      rw [HNO.out]
      go_wp2_with fail
      go_ret
      exact ⟨by rw [HC.out]; rfl, B2.mono hBw, fun h => by rw [HC.out] at h; cases h⟩
    · have HD : Hid (doF P (2, s, t, d) = (putF (cutF P s) (t, e0), true)) := Lib.hid (by unfold doF; rw [if_neg (show ¬ (2 : Int) = 1 by decide)]; simp only [ea]; rfl)
      have HEA := Lib.hid ea
      have HYE : Hid (decide (s.data.toList ∈ kvs.map Prod.fst) = true) := Lib.hid (decide_eq_true ((HF.out.1 _).2 (mem_names.2 (by rw [ea]; simp))))
      clear ea
      have HL : Hid ((doF P (2, s, t, d)).1 = putF (cutF P s) (t, e0)) := Lib.hid (by rw [HD.out])
      have hl2 := hl
      have hz2 := hz
      rw [HL.out] at hl2 hz2
      have HRR : Hid (RisP (putF (cutF P s) (t, e0))) := Lib.hid (by rw [← HL.out]; exact doF_ris hR _)
      have HC : Hid (∀ v : Bool, fitsF (putF (cutF P s) (t, e0)) = v → codeF P (2, s, t, d) = if v = true then 0 else 4) := Lib.hid (fun v hv => by unfold codeF; rw [HQ.out, if_pos rfl, HD.out, if_pos rfl, hv])
      clear hR q hl hz
      go_enter Try.func42, Try.ntmps42
      go_wp2_with fail
      refine (K1.out _).mono ?_
      rintro e w1 ⟨rfl, hb1⟩
      have B1 := Lib.hid (HB.out.trans (hb1.mono HB.out.size))
      have M1 := Lib.hid (HM.out.next hb1)
      have F1 := Lib.hid (HF.out.next hb1)
      clear hb1 x0 x1 x2 x3 HB HM HF
      go_wp2_with fail
      refine (findsR 2 s t d b n kvs hs _ M1.out).mono ?_
      rintro e w2 ⟨rfl, hb2⟩
      have B2 := Lib.hid (B1.out.trans (hb2.mono B1.out.size))
      have M2 := Lib.hid (M1.out.next hb2)
      have F2 := Lib.hid (F1.out.next hb2)
      clear hb2 B1 M1 F1
      rw [HYE.out]
      go_wp2_with fail
      refine (doneR 2 s t d e0 B m b n kvs P hs ht _ M2.out F2.out hB hn HEA.out).mono ?_
      rintro e w3 ⟨⟨vv, rfl⟩, kvs3, ⟨M3, F3⟩, n3⟩
      have HM3 := Lib.hid M3
      have HF3 := Lib.hid F3
      have N3 := Lib.hid ((B2.out.mono hBw).trans n3)
      clear B2 M2 F2 n3 M3 F3
      have FT := Lib.hid (implFits B (m) b (n + 1) kvs3 (putF (cutF P s) (t, e0)) w3 HM3.out HF3.out HRR.out hz2 (by omega) (by omega))
      go_wp2_with fail
      refine FT.out.mono ?_
      rintro e w4 ⟨rfl, hb4⟩
      have N4 := N3.out.trans (hb4.mono (by have := N3.out.size; omega))
      have M4 := HM3.out.next hb4
      have F4 := HF3.out.next hb4
      clear hb4 FT
      cases qf : fitsF (putF (cutF P s) (t, e0))
      · have HC2 := Lib.hid (HC.out _ qf)
        clear qf HC
        go_wp2_with fail
        go_ret
        exact ⟨by rw [HC2.out]; rfl, N4, fun h => by rw [HC2.out] at h; cases h⟩
      · have HC2 := Lib.hid (HC.out _ qf)
        clear qf HC
        go_wp2_with fail
        go_ret
        exact ⟨by rw [HC2.out]; rfl, N4, fun _ => ⟨kvs3, M4, by rw [HL.out]; exact F4.mono (by omega)⟩⟩
set_option maxRecDepth 100000 in
set_option maxHeartbeats 3200000 in
theorem implDoM (s t d : ByteArray) (hs : s.size ≤ maxLen) (ht : t.size ≤ maxLen) (B m b n : Nat) (kvs : List (Txt × Value)) (P : List Pre2) (w : World) (hM : OwnMapD w b n kvs) (hF : FolIs B m w kvs P) (hR : RisP P) (hB : B ≤ b) (_hn : n ≤ 1000000) (hm : m ≤ 1000000) (hl : (doF P (3, s, t, d)).1.length ≤ 1000000) (hz : totF (doF P (3, s, t, d)).1 ≤ 1000000000000000000) :
    Calls Try.prog 42 #[.map (some b), .agg #[.int .i64 3, .string s, .string t, .string d]] w (DoPost B m b n P (3, s, t, d) w) := by
  have hbl := hM.lt
  have hBw : B ≤ w.heap.size := by omega
  have B0 := (Below.refl w.heap.size w).alloc (Nat.le_refl _) (.cells #[.int .i64 3, .string s, .string t, .string d] 36)
  have X := cells_new w #[.int .i64 3, .string s, .string t, .string d] 36
  have x0 := X.now.at 0
  have x1 := X.now.at 1
  have x2 := X.now.at 2
  have x3 := X.now.at 3
  have K0 := opOfM s t d hs ht
  have HB := Lib.hid B0
  have HM := Lib.hid (hM.next B0)
  have HF := Lib.hid (hF.next B0)
  have HR := Lib.hid hR
  have hme1 := methM_finds (.int .i64 3) (.string s) (.string t) (.string d)
  have hme2 := methM_doneOn (.int .i64 3) (.string s) (.string t) (.string d)
  cases q : formOk (3, s, t, d)
  · rw [q, if_neg (by decide)] at K0
    have K1 := Lib.hid K0
    have HC : Hid (codeF P (3, s, t, d) = 2) := Lib.hid (by unfold codeF; rw [q, if_neg (by decide)])
    clear X B0 K0 q hM hF hR hme1 hme2
    go_enter Try.func42, Try.ntmps42
    go_wp2_with fail
    refine (K1.out _).mono ?_
    rintro e w1 ⟨rfl, hb1⟩
    have B1 := HB.out.trans (hb1.mono HB.out.size)
    clear hb1
    go_wp2_with fail
    go_ret
    exact ⟨by rw [HC.out]; rfl, B1.mono hBw, fun h => by rw [HC.out] at h; cases h⟩
  · rw [q, if_pos rfl] at K0
    have K1 := Lib.hid K0
    clear X B0 K0 hM hF
    have HQ := Lib.hid q
    rcases ea : atF P s with _ | e0
    · have HD : Hid (doF P (3, s, t, d) = (P, false)) := Lib.hid (by unfold doF; rw [if_neg (show ¬ (3 : Int) = 1 by decide)]; simp only [ea])
      have HC : Hid (codeF P (3, s, t, d) = 3) := Lib.hid (by unfold codeF; rw [HQ.out, if_pos rfl, HD.out, if_neg (by simp)])
      have HNO : Hid (decide (s.data.toList ∈ kvs.map Prod.fst) = false) := Lib.hid (decide_eq_false (HF.out.no ea))
      clear hR q hl hz ea
      go_enter Try.func42, Try.ntmps42
      go_wp2_with fail
      refine (K1.out _).mono ?_
      rintro e w1 ⟨rfl, hb1⟩
      have B1 := Lib.hid (HB.out.trans (hb1.mono HB.out.size))
      have M1 := Lib.hid (HM.out.next hb1)
      clear hb1 x0 x1 x2 x3 HB HM HF
      go_wp2_with fail
      refine (findsM 3 s t d b n kvs hs _ M1.out).mono ?_
      rintro e w2 ⟨rfl, hb2⟩
      have B2 := B1.out.trans (hb2.mono B1.out.size)
      clear hb2 B1 M1
      rw [HNO.out]
      go_wp2_with fail
      go_ret
      exact ⟨by rw [HC.out]; rfl, B2.mono hBw, fun h => by rw [HC.out] at h; cases h⟩
    · have HD : Hid (doF P (3, s, t, d) = (cutF P s, true)) := Lib.hid (by unfold doF; rw [if_neg (show ¬ (3 : Int) = 1 by decide)]; simp only [ea]; rfl)
      have HEA := Lib.hid ea
      have HYE : Hid (decide (s.data.toList ∈ kvs.map Prod.fst) = true) := Lib.hid (decide_eq_true ((HF.out.1 _).2 (mem_names.2 (by rw [ea]; simp))))
      clear ea
      have HL : Hid ((doF P (3, s, t, d)).1 = cutF P s) := Lib.hid (by rw [HD.out])
      have hl2 := hl
      have hz2 := hz
      rw [HL.out] at hl2 hz2
      have HRR : Hid (RisP (cutF P s)) := Lib.hid (by rw [← HL.out]; exact doF_ris hR _)
      have HC : Hid (∀ v : Bool, fitsF (cutF P s) = v → codeF P (3, s, t, d) = if v = true then 0 else 4) := Lib.hid (fun v hv => by unfold codeF; rw [HQ.out, if_pos rfl, HD.out, if_pos rfl, hv])
      clear hR q hl hz
      go_enter Try.func42, Try.ntmps42
      go_wp2_with fail
      refine (K1.out _).mono ?_
      rintro e w1 ⟨rfl, hb1⟩
      have B1 := Lib.hid (HB.out.trans (hb1.mono HB.out.size))
      have M1 := Lib.hid (HM.out.next hb1)
      have F1 := Lib.hid (HF.out.next hb1)
      clear hb1 x0 x1 x2 x3 HB HM HF
      go_wp2_with fail
      refine (findsM 3 s t d b n kvs hs _ M1.out).mono ?_
      rintro e w2 ⟨rfl, hb2⟩
      have B2 := Lib.hid (B1.out.trans (hb2.mono B1.out.size))
      have M2 := Lib.hid (M1.out.next hb2)
      have F2 := Lib.hid (F1.out.next hb2)
      clear hb2 B1 M1 F1
      rw [HYE.out]
      go_wp2_with fail
      refine (doneM 3 s t d e0 B m b n kvs P hs _ M2.out F2.out hB HEA.out).mono ?_
      rintro e w3 ⟨⟨vv, rfl⟩, kvs3, ⟨M3, F3⟩, n3⟩
      have HM3 := Lib.hid M3
      have HF3 := Lib.hid F3
      have N3 := Lib.hid ((B2.out.mono hBw).trans n3)
      clear B2 M2 F2 n3 M3 F3
      have FT := Lib.hid (implFits B (m) b (n + 1) kvs3 (cutF P s) w3 HM3.out HF3.out HRR.out hz2 (by omega) (by omega))
      go_wp2_with fail
      refine FT.out.mono ?_
      rintro e w4 ⟨rfl, hb4⟩
      have N4 := N3.out.trans (hb4.mono (by have := N3.out.size; omega))
      have M4 := HM3.out.next hb4
      have F4 := HF3.out.next hb4
      clear hb4 FT
      cases qf : fitsF (cutF P s)
      · have HC2 := Lib.hid (HC.out _ qf)
        clear qf HC
        go_wp2_with fail
        go_ret
        exact ⟨by rw [HC2.out]; rfl, N4, fun h => by rw [HC2.out] at h; cases h⟩
      · have HC2 := Lib.hid (HC.out _ qf)
        clear qf HC
        go_wp2_with fail
        go_ret
        exact ⟨by rw [HC2.out]; rfl, N4, fun _ => ⟨kvs3, M4, by rw [HL.out]; exact F4.mono (by omega)⟩⟩
theorem implDo (op : OpV) (hs : op.2.1.size ≤ maxLen) (ht : op.2.2.1.size ≤ maxLen) (B m b n : Nat) (kvs : List (Txt × Value)) (P : List Pre2) (w : World) (hM : OwnMapD w b n kvs) (hF : FolIs B m w kvs P) (hR : RisP P) (hB : B ≤ b) (hn : n ≤ 1000000) (hm : m ≤ 1000000) (hl : (doF P op).1.length ≤ 1000000) (hz : totF (doF P op).1 ≤ 1000000000000000000) :
    Calls Try.prog 42 #[.map (some b), .agg #[.int .i64 op.1, .string op.2.1, .string op.2.2.1, .string op.2.2.2]] w (DoPost B m b n P op w) := by
  obtain ⟨r, s, t, d⟩ := op
  by_cases h1 : r = 1
  · subst h1; exact implDoA s t d hs ht B m b n kvs P w hM hF hR hB hn hm hl hz
  by_cases h2 : r = 2
  · subst h2; exact implDoR s t d hs ht B m b n kvs P w hM hF hR hB hn hm hl hz
  by_cases h3 : r = 3
  · subst h3; exact implDoM s t d hs ht B m b n kvs P w hM hF hR hB hn hm hl hz
  have hbl := hM.lt
  exact implDoNo r s t d h1 h2 h3 B m b n P w (by omega)
end Go.Proofs.Ytamnlifdfhmbnaa
/- Right files: the program. -/
namespace Go.Proofs.Ytamnlifdfhmbnaa
open Go.RowKit Go.WideShapes Go.Maps
theorem totF_len (ts : List Pre2) (M : Nat) (h : ∀ t ∈ ts, t.2.size ≤ M) : totF ts ≤ ts.length * M := by
  unfold totF
  induction ts with
  | nil => simp
  | cons t ts ih =>
    have h1 := ih (fun u hu => h u (List.mem_cons_of_mem _ hu))
    have h2 := h t (by simp)
    rw [List.map_cons, List.sum_cons, List.length_cons, Nat.add_mul, Nat.one_mul]
    omega
theorem totF_room {ts : List Pre2} (hl : ts.length ≤ 1048576) (h : ∀ t ∈ ts, t.2.size ≤ 2097152) : totF ts ≤ 1000000000000000000 := by
  have h1 := totF_len ts 2097152 h
  have h2 : ts.length * 2097152 ≤ 1048576 * 2097152 := Nat.mul_le_mul_right _ hl
  exact Nat.le_trans h1 (Nat.le_trans h2 (by decide))
set_option maxRecDepth 100000 in
set_option maxHeartbeats 3200000 in
theorem implFilesOk (a : Option Addr) (len cap : Nat) (ts : List Pre2) (w : World) (h : IsPres w a len cap ts) (hl : len ≤ 1048576) (hz : ∀ t ∈ ts, t.2.size ≤ 2097152) :
    Calls Try.prog 40 #[.slice a len cap] w fun e w' => e = .returned (.bool (filesOk ts)) ∧ Below w.heap.size w w' := by
  have hts := h.len
  have HT := Lib.hid hts
  have H := Lib.hid h
  have HZ := Lib.hid hz
  clear hts h hz
  go_enter Try.func40, Try.ntmps40
  go_wp2_with fail
  go_loopw [7] (fun i wr => ∃ k : Nat, k ≤ len ∧ i = .int .i64 k ∧ Hid (gUpto filT lessP ts k = true) ∧ Below w.heap.size w wr) (fun i _ => len - (intOf i).toNat)
  case atStart => exact ⟨0, Nat.zero_le _, rfl, Lib.hid rfl, Below.refl _ _⟩
  case round =>
    obtain ⟨k, hk, rfl, hok, hnx⟩ := hrel
    have hk6 : (0 : Int) ≤ (k : Int) := by omega
    by_cases hlt : k < len
    · have hk7 : (k : Int) < (len : Int) := by omega
      obtain ⟨b, off, rfl, hb, hll, hm, hts, hc⟩ := H.out.cells (by omega)
      have ht : ts[k]? = some ts[k] := List.getElem?_eq_getElem (by omega)
      obtain ⟨c0, c1, m0, m1⟩ := hc k _ ht
      rw [← hnx.cell (p := ⟨b, _, none⟩) hb] at c0 c1
      obtain ⟨t, htt⟩ : ∃ t, ts[k] = t := ⟨_, rfl⟩
      rw [htt] at c0 c1 ht m0
      clear htt m1
      obtain ⟨s, d⟩ := t
      simp only at c0 c1 m0
      have C0 := implNameOk s m0
      have l0 : b < wr.heap.size := Nat.lt_of_lt_of_le hb hnx.size
      have X0 := cells_new wr #[.string s, .string d] 74
      have e0 := X0.now.at 0
      have e1 := X0.now.at 1
      have BW := (hnx.alloc hnx.size (.cells #[.string s, .string d] 74)).drew
      clear X0
      cases q : nmOk s
      · have HR : Hid (filesOk ts = false) := Lib.hid (by unfold filesOk; rw [gUpto_no (gAt_not ht (show filT (s, d) = false from q)) (by omega)]; rfl)
        rw [q] at C0
        have C1 := Lib.hid C0
        clear C0 q ht hts hc hm
        go_wp2_with fail
        refine wp_region_any (by kernel_rfl) ?_
        change wpAny _ _ _ _ _ _ _ (World.drew _)
        refine wpAny_take (i := 0) (v := ?_) rfl (by kernel_rfl) (by kernel_rfl) (by kernel_rfl) (fun _ _ _ h => h) (Or.inl ⟨by kernel_rfl, ?_⟩) ?_
        rotate_left
        · intro w; go_simp; try with_reducible rfl
        refine wpAny_ready (rs := [1]) (by kernel_rfl) (by simp) ?_
        refine AllReady.cons rfl (fun K hK => ?_) AllReady.nil
        go_simp
        refine hK _ _ ?_
        clear hK K
        refine wpAny_ready (rs := [2]) (by kernel_rfl) (by simp) ?_
        refine AllReady.cons rfl (fun K hK => ?_) AllReady.nil
        go_simp
        refine (C1.out _).mono ?_
        rintro e wn ⟨rfl, rfl⟩
        go_wp2_with fail
        refine wpAny_take (i := 3) (v := ?_) rfl (by kernel_rfl) (by kernel_rfl) (by kernel_rfl) (fun _ _ _ h => h) (Or.inl ⟨by kernel_rfl, ?_⟩) ?_
        rotate_left
        · intro w; go_simp; try with_reducible rfl
        refine wpAny_take (i := 4) (v := ?_) rfl (by kernel_rfl) (by kernel_rfl) (by kernel_rfl) (fun _ _ _ h => h) (Or.inl ⟨by kernel_rfl, ?_⟩) ?_
        rotate_left
        · intro w; go_simp; try with_reducible rfl
        refine wpAny_take (i := 5) (v := undef) rfl (by kernel_rfl) (by kernel_rfl) (by kernel_rfl) (fun _ _ _ h => h) (Or.inr ⟨by kernel_rfl, rfl⟩) ?_
        refine wpAny_take (i := 6) (v := undef) rfl (by kernel_rfl) (by kernel_rfl) (by kernel_rfl) (fun _ _ _ h => h) (Or.inr ⟨by kernel_rfl, rfl⟩) ?_
        refine wpAny_take (i := 7) (v := undef) rfl (by kernel_rfl) (by kernel_rfl) (by kernel_rfl) (fun _ _ _ h => h) (Or.inr ⟨by kernel_rfl, rfl⟩) ?_
        refine wpAny_take (i := 8) (v := undef) rfl (by kernel_rfl) (by kernel_rfl) (by kernel_rfl) (fun _ _ _ h => h) (Or.inr ⟨by kernel_rfl, rfl⟩) ?_
        refine wpAny_take (i := 9) (v := undef) rfl (by kernel_rfl) (by kernel_rfl) (by kernel_rfl) (fun _ _ _ h => h) (Or.inr ⟨by kernel_rfl, rfl⟩) ?_
        refine wpAny_take (i := 10) (v := undef) rfl (by kernel_rfl) (by kernel_rfl) (by kernel_rfl) (fun _ _ _ h => h) (Or.inr ⟨by kernel_rfl, rfl⟩) ?_
        refine wpAny_take (i := 11) (v := undef) rfl (by kernel_rfl) (by kernel_rfl) (by kernel_rfl) (fun _ _ _ h => h) (Or.inr ⟨by kernel_rfl, rfl⟩) ?_
        refine wpAny_take (i := 12) (v := undef) rfl (by kernel_rfl) (by kernel_rfl) (by kernel_rfl) (fun _ _ _ h => h) (Or.inr ⟨by kernel_rfl, rfl⟩) ?_
        refine wpAny_take (i := 13) (v := undef) rfl (by kernel_rfl) (by kernel_rfl) (by kernel_rfl) (fun _ _ _ h => h) (Or.inr ⟨by kernel_rfl, rfl⟩) ?_
        refine wpAny_take (i := 14) (v := undef) rfl (by kernel_rfl) (by kernel_rfl) (by kernel_rfl) (fun _ _ _ h => h) (Or.inr ⟨by kernel_rfl, rfl⟩) ?_
        refine wpAny_take (i := 15) (v := undef) rfl (by kernel_rfl) (by kernel_rfl) (by kernel_rfl) (fun _ _ _ h => h) (Or.inr ⟨by kernel_rfl, rfl⟩) ?_
        refine wpAny_take (i := 16) (v := undef) rfl (by kernel_rfl) (by kernel_rfl) (by kernel_rfl) (fun _ _ _ h => h) (Or.inr ⟨by kernel_rfl, rfl⟩) ?_
        refine wpAny_take (i := 17) (v := undef) rfl (by kernel_rfl) (by kernel_rfl) (by kernel_rfl) (fun _ _ _ h => h) (Or.inr ⟨by kernel_rfl, rfl⟩) ?_
        refine wpAny_take (i := 18) (v := ?_) rfl (by kernel_rfl) (by kernel_rfl) (by kernel_rfl) (fun _ _ _ h => h) (Or.inl ⟨by kernel_rfl, ?_⟩) ?_
        rotate_left
        · intro w; go_simp; try with_reducible rfl
        refine wpAny_done (by kernel_rfl) ?_ _
        try simp only [Act.put, List.setIfInBounds_toArray, List.set_cons_zero, List.set_cons_succ, List.getElem_toArray, List.getElem_cons_zero, List.getElem_cons_succ]
        go_wp2_with fail
        go_ret
        exact ⟨by rw [HR.out]; rfl, BW⟩
      rw [q] at C0
      have C1 := Lib.hid C0
      clear C0
      by_cases h0 : k = 0
      · subst h0
        have HN : Hid (gUpto filT lessP ts (0 + 1) = true) := Lib.hid (by rw [gUpto_succ, hok.out, gAt_zero ht]; exact q)
        clear q ht hts hc hm
        simp only [Nat.zero_mul, Nat.add_zero] at c0 c1
        go_wp2_with fail
        refine wp_region_any (by kernel_rfl) ?_
        change wpAny _ _ _ _ _ _ _ (World.drew _)
        refine wpAny_take (i := 0) (v := ?_) rfl (by kernel_rfl) (by kernel_rfl) (by kernel_rfl) (fun _ _ _ h => h) (Or.inl ⟨by kernel_rfl, ?_⟩) ?_
        rotate_left
        · intro w; go_simp; try with_reducible rfl
        refine wpAny_ready (rs := [1]) (by kernel_rfl) (by simp) ?_
        refine AllReady.cons rfl (fun K hK => ?_) AllReady.nil
        go_simp
        refine hK _ _ ?_
        clear hK K
        refine wpAny_ready (rs := [2]) (by kernel_rfl) (by simp) ?_
        refine AllReady.cons rfl (fun K hK => ?_) AllReady.nil
        go_simp
        refine (C1.out _).mono ?_
        rintro e wn ⟨rfl, rfl⟩
        go_wp2_with fail
        refine wpAny_take (i := 3) (v := ?_) rfl (by kernel_rfl) (by kernel_rfl) (by kernel_rfl) (fun _ _ _ h => h) (Or.inl ⟨by kernel_rfl, ?_⟩) ?_
        rotate_left
        · intro w; go_simp; try with_reducible rfl
        refine wpAny_take (i := 4) (v := ?_) rfl (by kernel_rfl) (by kernel_rfl) (by kernel_rfl) (fun _ _ _ h => h) (Or.inl ⟨by kernel_rfl, ?_⟩) ?_
        rotate_left
        · intro w; go_simp; try with_reducible rfl
        refine wpAny_take (i := 5) (v := ?_) rfl (by kernel_rfl) (by kernel_rfl) (by kernel_rfl) (fun _ _ _ h => h) (Or.inl ⟨by kernel_rfl, ?_⟩) ?_
        rotate_left
        · intro w; go_simp; try with_reducible rfl
        refine wpAny_take (i := 6) (v := ?_) rfl (by kernel_rfl) (by kernel_rfl) (by kernel_rfl) (fun _ _ _ h => h) (Or.inl ⟨by kernel_rfl, ?_⟩) ?_
        rotate_left
        · intro w; go_simp; try with_reducible rfl
        refine wpAny_take (i := 7) (v := ?_) rfl (by kernel_rfl) (by kernel_rfl) (by kernel_rfl) (fun _ _ _ h => h) (Or.inl ⟨by kernel_rfl, ?_⟩) ?_
        rotate_left
        · intro w; go_simp; try with_reducible rfl
        refine wpAny_take (i := 8) (v := undef) rfl (by kernel_rfl) (by kernel_rfl) (by kernel_rfl) (fun _ _ _ h => h) (Or.inr ⟨by kernel_rfl, rfl⟩) ?_
        refine wpAny_take (i := 9) (v := undef) rfl (by kernel_rfl) (by kernel_rfl) (by kernel_rfl) (fun _ _ _ h => h) (Or.inr ⟨by kernel_rfl, rfl⟩) ?_
        refine wpAny_take (i := 10) (v := undef) rfl (by kernel_rfl) (by kernel_rfl) (by kernel_rfl) (fun _ _ _ h => h) (Or.inr ⟨by kernel_rfl, rfl⟩) ?_
        refine wpAny_take (i := 11) (v := undef) rfl (by kernel_rfl) (by kernel_rfl) (by kernel_rfl) (fun _ _ _ h => h) (Or.inr ⟨by kernel_rfl, rfl⟩) ?_
        refine wpAny_take (i := 12) (v := undef) rfl (by kernel_rfl) (by kernel_rfl) (by kernel_rfl) (fun _ _ _ h => h) (Or.inr ⟨by kernel_rfl, rfl⟩) ?_
        refine wpAny_take (i := 13) (v := undef) rfl (by kernel_rfl) (by kernel_rfl) (by kernel_rfl) (fun _ _ _ h => h) (Or.inr ⟨by kernel_rfl, rfl⟩) ?_
        refine wpAny_take (i := 14) (v := undef) rfl (by kernel_rfl) (by kernel_rfl) (by kernel_rfl) (fun _ _ _ h => h) (Or.inr ⟨by kernel_rfl, rfl⟩) ?_
        refine wpAny_take (i := 15) (v := undef) rfl (by kernel_rfl) (by kernel_rfl) (by kernel_rfl) (fun _ _ _ h => h) (Or.inr ⟨by kernel_rfl, rfl⟩) ?_
        refine wpAny_take (i := 16) (v := undef) rfl (by kernel_rfl) (by kernel_rfl) (by kernel_rfl) (fun _ _ _ h => h) (Or.inr ⟨by kernel_rfl, rfl⟩) ?_
        refine wpAny_take (i := 17) (v := ?_) rfl (by kernel_rfl) (by kernel_rfl) (by kernel_rfl) (fun _ _ _ h => h) (Or.inl ⟨by kernel_rfl, ?_⟩) ?_
        rotate_left
        · intro w; go_simp; try with_reducible rfl
        refine wpAny_take (i := 18) (v := ?_) rfl (by kernel_rfl) (by kernel_rfl) (by kernel_rfl) (fun _ _ _ h => h) (Or.inl ⟨by kernel_rfl, ?_⟩) ?_
        rotate_left
        · intro w; go_simp; try with_reducible rfl
        refine wpAny_done (by kernel_rfl) ?_ _
        try simp only [Act.put, List.setIfInBounds_toArray, List.set_cons_zero, List.set_cons_succ, List.getElem_toArray, List.getElem_cons_zero, List.getElem_cons_succ]
        go_wp2_with fail
        go_roundw
        case rel => exact ⟨0 + 1, by omega, by go_num, HN, BW⟩
        case measure => simp [intOf]; omega
      obtain ⟨j, rfl⟩ : ∃ j, k = j + 1 := ⟨k - 1, by omega⟩
      have hu : ts[j]? = some ts[j] := List.getElem?_eq_getElem (by omega)
      obtain ⟨p0, p1, n0, n1⟩ := hc j _ hu
      clear n0 n1
      rw [← hnx.cell (p := ⟨b, _, none⟩) hb] at p0 p1
      obtain ⟨u, huu⟩ : ∃ u, ts[j] = u := ⟨_, rfl⟩
      rw [huu] at p0 p1 hu
      clear huu
      have HA := gAt_next (ok := filT) (ah := lessP) (by omega) ht hu
      have hqq : filT (s, d) = true := q
      rw [hqq] at HA
      have p2 : (wr.alloc (.cells #[.string s, .string d] 74)).cell? ⟨b, off + j * 2, none⟩ = some (.string u.1) := ((Below.refl wr.heap.size wr).alloc (Nat.le_refl _) _).cell (p := ⟨b, _, none⟩) l0 |>.trans p0
      cases ha : lessP u (s, d)
      all_goals
        have hls : Op.bytesLess u.1.toList s.toList = _ := ha
        have hj1 : ((j + 1 : Nat) : Int) - 1 = (j : Int) := by omega
        have hj2 : IntKind.i64.wrap (((j + 1 : Nat) : Int) - 1) = (j : Int) := by rw [hj1]; exact IntWalk.i64_in _ (by omega)
        have hjl : j < len := by omega
        have hj6 : (0 : Int) ≤ (j : Int) := by omega
        have hj7 : (j : Int) < (len : Int) := by omega
        have hj8 : IntKind.i64.wrap (j : Int) = (j : Int) := IntWalk.i64_in _ (by omega)
        have hj4 : (j : Int) + 1 - 1 = (j : Int) := by omega
        have hj5 : IntKind.i64.wrap ((j : Int) + 1 - 1) = (j : Int) := by rw [hj4]; exact IntWalk.i64_in _ (by omega)
        have hj3 : decide ((0 : Int) < ((j + 1 : Nat) : Int)) = true := by rw [decide_eq_true_eq]; omega
      · have HR : Hid (filesOk ts = false) := Lib.hid (by unfold filesOk; rw [gUpto_no (k := j + 1) (by rw [HA, ha]; rfl) (by omega)]; rfl)
        clear ha HA q hqq ht hu hts hc hm p0 p1
        go_wp2_with fail
        go_region_held3 (fun w' => w'.cell? ⟨wr.heap.size, 0, none⟩ = some (.string s) ∧ w'.cell? ⟨b, off + j * 2, none⟩ = some (.string u.1))
          (first | go_keep | (go_split_ands; refine ⟨?_, ?_⟩ <;> assumption))
          (first | (go_at_call 75; refine (C1.out _).mono ?_; rintro e wa ⟨rfl, rfl⟩))
        go_wp2_with fail
        go_ret
        exact ⟨by rw [HR.out]; rfl, BW⟩
      · have HN : Hid (gUpto filT lessP ts (j + 1 + 1) = true) := Lib.hid (by rw [gUpto_succ, hok.out, HA, ha]; rfl)
        clear ha HA q hqq ht hu hts hc hm p0 p1
        go_wp2_with fail
        go_region_held3 (fun w' => w'.cell? ⟨wr.heap.size, 0, none⟩ = some (.string s) ∧ w'.cell? ⟨b, off + j * 2, none⟩ = some (.string u.1))
          (first | go_keep | (go_split_ands; refine ⟨?_, ?_⟩ <;> assumption))
          (first | (go_at_call 75; refine (C1.out _).mono ?_; rintro e wa ⟨rfl, rfl⟩))
        go_wp2_with fail
        go_roundw
        case rel => exact ⟨j + 1 + 1, by omega, by go_num, HN, BW⟩
        case measure => simp [intOf]; omega
    · have HG : Hid (gUpto filT lessP ts ts.length = true) := Lib.hid (by have := hok.out; rw [HT.out, show len = k from by omega]; exact this)
      have hri : RisP ts := by
        have := ((gUpto_ris ts ts.length (Nat.le_refl _)).1 HG.out).1
        rwa [List.take_of_length_le (Nat.le_refl _)] at this
      have HF : Hid (filesOk ts = fitsF ts) := Lib.hid (by unfold filesOk; rw [HG.out]; rfl)
      have hlen : ts.length ≤ 1048576 := by rw [HT.out]; exact hl
      have FO := Lib.hid (implFolderOf a len cap ts wr (H.out.grown (grown_of_below hnx)) hri hl)
      have HRI := Lib.hid hri
      have HL := Lib.hid hlen
      clear hri hlen hok
      go_wp2_with fail
      refine FO.out.mono ?_
      rintro e w1 ⟨bb, n, kvs, rfl, ⟨M1, F1⟩, hn, hbb, n1⟩
      have FT := Lib.hid (implFits wr.heap.size 1 bb n kvs ts w1 M1 F1 HRI.out (totF_room HL.out HZ.out) (by have := HL.out; omega) (by omega))
      have N1 := Lib.hid (hnx.trans (n1.mono hnx.size))
      clear n1 M1 F1 FO hnx
      go_wp2_with fail
      refine FT.out.mono ?_
      rintro e w2 ⟨rfl, hb2⟩
      have N2 := N1.out.trans (hb2.mono N1.out.size)
      clear hb2
      go_wp2_with fail
      go_ret
      exact ⟨by rw [HF.out]; rfl, N2⟩
end Go.Proofs.Ytamnlifdfhmbnaa
/- The exact laws' steps at slices of triples, told by where things lie. -/
namespace Go.Proofs.Ytamnlifdfhmbnaa
open Go.RowKit Go.WideShapes
def SmAll (ts : List Tri3) : Prop := ∀ t ∈ ts, t.1.size ≤ maxLen ∧ t.2.1.size ≤ maxLen ∧ t.2.2.size ≤ maxLen
theorem smAll_marks (k0 n : Nat) (hn : n ≤ 1048576) (hk : k0 ≤ 40000000) : SmAll (marksK k0 n) := marksK_small k0 n hn hk
theorem Cells.two {g : Nat} {x y : Value} {T : TypeId} {w : World} (h : Cells g #[x, y] T w) : w.cell? ⟨g, 0, none⟩ = some x ∧ w.cell? ⟨g, 1, none⟩ = some y := ⟨h.at 0, h.at 1⟩
theorem tris_most {w : World} {a : Option Addr} {len cap : Nat} {ts : List Tri3} (h : IsTris w a len cap ts) : len ≤ 9223372036854775807 := by
  rcases h with ⟨_, rfl, _, _⟩ | ⟨_, _, h1, h2, _⟩
  · omega
  · unfold maxLen at h2; omega
end Go.Proofs.Ytamnlifdfhmbnaa
