/- The exact laws' own size of a slice of named graphs. -/
import Derived.Test.YtkcbgppplgkkbaaGreatNam
namespace Go.Proofs.YtkcbgppplgkkbaaGreat
open Go.RowKit Go.WideShapes
def SzPostNW (left : Int) (len : Nat) (ts : List Tri3) (w : World) (e : Ending) (w' : World) : Prop :=
  ∃ n : Int, e = .returned (.int .i64 n) ∧ (n = -1 ∨ (0 ≤ n ∧ n + len ≤ left ∧ Small len ts)) ∧ Below w.heap.size w w'
set_option maxRecDepth 100000 in
set_option maxHeartbeats 1600000 in
theorem szTriSN (a : Option Addr) (len cap : Nat) (ts : List Tri3) (w : World) (h : IsTris w a len cap ts) (left : Int) (h0 : 0 ≤ left) (h1 : left ≤ 1048576) (hlen : len ≤ 9223372036854775807) :
    Calls Tryz.prog 33 #[.slice a len cap, .int .i64 left] w (SzPostNW left len ts w) := by
  by_cases g : left - len < 0
  · clear h
    go_enter Tryz.func33, Tryz.ntmps33
    go_wp2_with fail
    go_ret
    exact ⟨-1, rfl, .inl rfl, Below.refl _ _⟩
  by_cases hz : len = 0
  · subst hz
    have hts : ts = [] := by
      rcases h with ⟨_, _, _, h⟩ | ⟨x, _, _, _, h, _⟩
      · exact h
      · exact List.length_eq_zero_iff.1 h
    subst hts
    clear h g
    go_enter Tryz.func33, Tryz.ntmps33
    go_wp2_with fail
    refine wp_loop_rounds 1 ?_
    rw [rounds_succ]
    go_wp2_with fail
    go_ret
    exact ⟨left, by simp, .inr ⟨h0, by simp, by omega, by simp⟩, Below.refl _ _⟩
  · obtain ⟨b, off, rfl, hb, hl, hm, hts, hc⟩ := h.cells (by omega)
    unfold maxLen at hm hc
    have HC := Lib.hid hc
    have HT := Lib.hid hts
    clear hc h
    go_enter Tryz.func33, Tryz.ntmps33
    go_wp2_with fail
    go_loopw [1, 5] (fun l i wr => ∃ k : Nat, k ≤ len ∧ i = .int .i64 k ∧ (∃ q : Int, 0 ≤ q ∧ q + len ≤ left ∧ l = .int .i64 q) ∧ Hid (∀ t ∈ ts.take k, t.1.size + t.2.1.size + t.2.2.size ≤ 1048576) ∧ Below w.heap.size w wr) (fun _ i _ => len - (intOf i).toNat)
    case atStart => exact ⟨0, Nat.zero_le _, rfl, ⟨_, by omega, by omega, rfl⟩, Lib.hid (by simp), Below.refl _ _⟩
    case round =>
      obtain ⟨k, hk, rfl, ⟨q, hq0, hq1, rfl⟩, hsm, hnx⟩ := hrel
      by_cases hlt : k < len
      · have ht : ts[k]? = some ts[k] := List.getElem?_eq_getElem (by omega)
        have HS : Hid (ts.take (k + 1) = ts.take k ++ [ts[k]]) := Lib.hid (List.take_succ_eq_append_getElem (by omega))
        obtain ⟨c0, c1, c2, w0, w1, w2⟩ := HC.out k _ ht
        rw [← hnx.cell (p := ⟨b, _, none⟩) hb] at c0 c1 c2
        generalize ts[k] = t at c0 c1 c2 w0 w1 w2 HS
        clear ht
        have SZ := szTri t.1 t.2.1 t.2.2 q hq0 (by omega) w0 w1 w2
        by_cases hs : (t.1.size : Int) + t.2.1.size + t.2.2.size ≤ q
        · rw [szT_yes hs] at SZ
          have D := Lib.hid SZ
          have HN : Hid (∀ t ∈ ts.take (k + 1), t.1.size + t.2.1.size + t.2.2.size ≤ 1048576) := Lib.hid (by
            rw [HS.out]
            intro u hu
            rcases List.mem_append.1 hu with hu | hu
            · exact hsm.out u hu
            · obtain rfl : u = t := by simpa using hu
              omega)
          have hn0 : ¬ q - t.1.size - t.2.1.size - t.2.2.size < 0 := by omega
          clear SZ
          go_wp2_with fail
          refine (D.out _).mono ?_
          rintro e wn ⟨rfl, hbn⟩
          have B := hnx.trans (hbn.mono hnx.size)
          clear hbn hnx c0 c1 c2
          go_wp2_with fail
          go_roundw
          case rel => exact ⟨k + 1, by omega, by go_num, ⟨_, by omega, by omega, rfl⟩, HN, B⟩
          case measure => simp [intOf]; omega
        · rw [szT_no hs] at SZ
          have D := Lib.hid SZ
          clear SZ
          go_wp2_with fail
          refine (D.out _).mono ?_
          rintro e wn ⟨rfl, hbn⟩
          have B := hnx.trans (hbn.mono hnx.size)
          clear hbn hnx c0 c1 c2
          go_wp2_with fail
          go_ret
          exact ⟨-1, rfl, .inl rfl, B⟩
      · go_wp2_with fail
        go_ret
        exact ⟨q, rfl, .inr ⟨hq0, hq1, by omega, by have := hsm.out; rwa [List.take_of_length_le (by rw [HT.out]; omega)] at this⟩, hnx⟩
def SzPostRN (left : Int) (n : Nat) (s : ByteArray) (ts : List Tri3) (w : World) (e : Ending) (w' : World) : Prop :=
  ∃ m : Int, e = .returned (.int .i64 m) ∧ (m = -1 ∨ (0 ≤ m ∧ m + n ≤ left ∧ Small n ts ∧ (s.size : Int) ≤ left)) ∧ Below w.heap.size w w'
set_option maxRecDepth 100000 in
set_option maxHeartbeats 1600000 in
theorem szNam (s : ByteArray) (a : Option Addr) (n c : Nat) (ts : List Tri3) (w : World) (h : IsTris w a n c ts) (hs : s.size ≤ maxLen) (left : Int) (h0 : 0 ≤ left) (h1 : left ≤ 1048576) :
    Calls Tryz.prog 16 #[.agg #[.string s, .slice a n c], .int .i64 left] w (SzPostRN left n s ts w) := by
  have B0 := (Below.refl w.heap.size w).alloc (Nat.le_refl _) (.cells #[.string s, .slice a n c] 39)
  have X0 := NamK.Box2.new w (.string s) (.slice a n c) 39
  have HH := Lib.hid h
  have m1 := NamK.tris_maxl h
  obtain ⟨y0, y1⟩ := X0.cells
  unfold maxLen at hs
  clear h
  by_cases g : left - (s.size : Int) < 0
  · go_enter Tryz.func16, Tryz.ntmps16
    go_wp2_with fail
    go_ret
    exact ⟨-1, rfl, .inl rfl, B0⟩
  have g1 : 0 ≤ left - (s.size : Int) := by omega
  have g2 : left - (s.size : Int) ≤ 1048576 := by omega
  have g3 := Lib.hid (show (s.size : Int) ≤ left by omega)
  go_enter Tryz.func16, Tryz.ntmps16
  go_wp2_with fail
  refine (szTriSN a n c ts _ (HH.out.next B0) (left - s.size) g1 g2 m1).mono ?_
  rintro e w1 ⟨k, rfl, hk, hb⟩
  have B1 := B0.trans (hb.mono B0.size)
  clear hb B0 X0 y0 y1
  rcases hk with rfl | ⟨p0, p1, ps⟩
  · go_wp2_with fail
    go_ret
    exact ⟨-1, rfl, .inl rfl, B1⟩
  have PS := Lib.hid ps
  have P1 := Lib.hid p1
  have p2 : ¬ k < 0 := by omega
  clear ps p1
  go_wp2_with fail
  go_ret
  exact ⟨k, rfl, .inr ⟨p0, by have := P1.out; omega, PS.out, g3.out⟩, B1⟩
/-- Short texts, in names and graphs. -/
def SmN (rs : List NamV) : Prop := ∀ r ∈ rs, r.1.size ≤ 1048576 ∧ ∀ t ∈ r.2, t.1.size + t.2.1.size + t.2.2.size ≤ 1048576
def SzPostN (left : Int) (len : Nat) (rs : List NamV) (w : World) (e : Ending) (w' : World) : Prop :=
  ∃ n : Int, e = .returned (.int .i64 n) ∧ (n = -1 ∨ (0 ≤ n ∧ n + totN rs + len ≤ left ∧ SmN rs)) ∧ Below w.heap.size w w'
set_option maxRecDepth 100000 in
set_option maxHeartbeats 1600000 in
theorem szNams (a : Option Addr) (len cap : Nat) (rs : List NamV) (w : World) (h : IsNams w a len cap rs) (left : Int) (h0 : 0 ≤ left) (h1 : left ≤ 1048576) (hlen : len ≤ 9223372036854775807) :
    Calls Tryz.prog 5 #[.slice a len cap, .int .i64 left] w (SzPostN left len rs w) := by
  by_cases g : left - len < 0
  · clear h
    go_enter Tryz.func5, Tryz.ntmps5
    go_wp2_with fail
    go_ret
    exact ⟨-1, rfl, .inl rfl, Below.refl _ _⟩
  have H := Lib.hid h
  have HL := Lib.hid h.len
  clear h
  go_enter Tryz.func5, Tryz.ntmps5
  go_wp2_with fail
  go_loopw [1, 5] (fun l i wr => ∃ k : Nat, k ≤ len ∧ i = .int .i64 k ∧ (∃ q : Int, 0 ≤ q ∧ q + totN (rs.take k) + len ≤ left ∧ l = .int .i64 q) ∧ Hid (SmN (rs.take k)) ∧ Below w.heap.size w wr) (fun _ i _ => len - (intOf i).toNat)
  case atStart => exact ⟨0, Nat.zero_le _, rfl, ⟨_, by omega, by simp [totN], rfl⟩, Lib.hid (by intro r hr; simp at hr), Below.refl _ _⟩
  case round =>
    obtain ⟨k, hk, rfl, ⟨q, hq0, hq1, rfl⟩, hsm, hnx⟩ := hrel
    have hk6 : (0 : Int) ≤ (k : Int) := by omega
    by_cases hlt : k < len
    · obtain ⟨b, off, rfl, hb, hl, hm, hts, hc⟩ := (H.out.next hnx).cells (by omega)
      have ht : rs[k]? = some rs[k] := List.getElem?_eq_getElem (by omega)
      have HS : Hid (rs.take (k + 1) = rs.take k ++ [rs[k]]) := Lib.hid (List.take_succ_eq_append_getElem (by omega))
      obtain ⟨a', n, c, c0, c1, hz, w0⟩ := hc k _ ht
      generalize rs[k] = r at hz HS c0 c1 w0
      have hzl := hz.len
      have D := Lib.hid (szNam r.1 a' n c r.2 wr hz w0 q hq0 (by omega))
      clear ht hts hc hz hm hl w0
      have hlt2 : (k : Int) < (len : Int) := by omega
      have HZ := Lib.hid hzl
      clear hzl
      go_wp2_with fail
      refine D.out.mono ?_
      rintro e wn ⟨m, rfl, hm, hbn⟩
      have B := hnx.trans (hbn.mono hnx.size)
      clear hbn hnx c0 c1
      rcases hm with rfl | ⟨hm0, hm1, hm2, hm4⟩
      · go_wp2_with fail
        go_ret
        exact ⟨-1, rfl, .inl rfl, B⟩
      · have hm3 : ¬ m < 0 := by omega
        have HN : Hid (SmN (rs.take (k + 1))) := Lib.hid (by
          rw [HS.out]
          intro u hu
          rcases List.mem_append.1 hu with hu | hu
          · exact hsm.out u hu
          · obtain rfl : u = r := by simpa using hu
            exact ⟨by omega, hm2.2⟩)
        have HT : Hid (totN (rs.take (k + 1)) = totN (rs.take k) + n) := Lib.hid (by rw [HS.out, totN_snoc, HZ.out])
        clear hm2 hm4
        go_wp2_with fail
        go_roundw
        case rel => exact ⟨k + 1, by omega, by go_num, ⟨m, hm0, by rw [HT.out]; omega, rfl⟩, HN, B⟩
        case measure => simp [intOf]; omega
    · obtain rfl : k = len := by omega
      go_wp2_with fail
      go_ret
      have e : rs.take k = rs := List.take_of_length_le (by rw [HL.out]; exact Nat.le_refl _)
      rw [e] at hq1
      exact ⟨q, rfl, .inr ⟨hq0, hq1, by have := hsm.out; rwa [e] at this⟩, hnx⟩
end Go.Proofs.YtkcbgppplgkkbaaGreat
