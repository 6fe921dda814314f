/- The exact laws' sizes of numbers and of steps. -/
import Derived.Test.YteejpceliodcfaaStep
import Derived.Test.YteejpceliodcfaaExactT
namespace Go.Proofs.Yteejpceliodcfaa
open Go.RowKit Go.WideShapes
def tot (ts : List StepV) : Nat := (ts.map (·.2.2.length)).sum
theorem tot_snoc (ts : List StepV) (t : StepV) : tot (ts ++ [t]) = tot ts + t.2.2.length := by simp [tot]
theorem szInts (a : Option Addr) (len cap : Nat) (w : World) (left : Int) (h0 : 0 ≤ left) (h1 : left ≤ 1048576) (hlen : len ≤ 9223372036854775807) :
    Calls Try.prog 129 #[.slice a len cap, .int .i64 left] w fun e w' => e = .returned (.int .i64 (if left - len < 0 then -1 else left - len)) ∧ Below w.heap.size w w' := by
  by_cases g : left - len < 0
  · rw [if_pos g]
    go_enter Try.func129, Try.ntmps129
    go_wp2_with fail
    go_ret
    exact ⟨rfl, Below.refl _ _⟩
  · rw [if_neg g]
    go_enter Try.func129, Try.ntmps129
    go_wp2_with fail
    go_ret
    exact ⟨rfl, Below.refl _ _⟩
/-- A block of five cells that the call itself made. -/
def Box5 (w : World) (g : Nat) (x y z u v : Value) (T : TypeId) : Prop := w.heap[g]? = some (.cells #[x, y, z, u, v] T (0, 0))
theorem Box5.lt {w : World} {g : Nat} {x y z u v : Value} {T : TypeId} (h : Box5 w g x y z u v T) : g < w.heap.size := by
  rcases Nat.lt_or_ge g w.heap.size with h1 | h1
  · exact h1
  · simp [Box5, Array.getElem?_eq_none h1] at h
theorem Box5.next {w w' : World} {g : Nat} {x y z u v : Value} {T : TypeId} (h : Box5 w g x y z u v T) (hb : Below w.heap.size w w') : Box5 w' g x y z u v T := (hb.block g h.lt).trans h
theorem Box5.alloc {w : World} {g : Nat} {x y z u v : Value} {T : TypeId} (h : Box5 w g x y z u v T) (o : Obj) : Box5 (w.alloc o) g x y z u v T := (Below.heap_alloc w o g h.lt).trans h
theorem Box5.new (w : World) (x y z u v : Value) (T : TypeId) : Box5 (w.alloc (.cells #[x, y, z, u, v] T)) w.heap.size x y z u v T := heap_alloc_new w _
theorem Box5.cells {w : World} {g : Nat} {x y z u v : Value} {T : TypeId} (h : Box5 w g x y z u v T) : w.cell? ⟨g, 0, none⟩ = some x ∧ w.cell? ⟨g, 1, none⟩ = some y ∧ w.cell? ⟨g, 2, none⟩ = some z ∧ w.cell? ⟨g, 3, none⟩ = some u ∧ w.cell? ⟨g, 4, none⟩ = some v := by
  unfold Box5 at h
  refine ⟨?_, ?_, ?_, ?_, ?_⟩ <;> simp [World.cell?, h]
theorem Box5.free {w : World} {g : Nat} {x y z u v : Value} {T : TypeId} (h : Box5 w g x y z u v T) (j : Nat) : w.frozen? ⟨g, j, none⟩ = false := by
  unfold Box5 at h
  simp [World.frozen?, h]
def SzStepPost (n0 : Nat) (left : Int) (s p o : Nat) (w : World) (e : Ending) (w' : World) : Prop :=
  ∃ n : Int, e = .returned (.int .i64 n) ∧ (n = -1 ∨ (0 ≤ n ∧ n + n0 ≤ left ∧ s + p + o ≤ 1048576)) ∧ Below w.heap.size w w'
set_option maxRecDepth 100000 in
set_option maxHeartbeats 1600000 in
theorem szStep (s p o : ByteArray) (r : Int) (a : Option Addr) (len cap : Nat) (left : Int) (h0 : 0 ≤ left) (h1 : left ≤ 1048576) (hs : s.size ≤ 9223372036854775807) (hp : p.size ≤ 9223372036854775807) (ho : o.size ≤ 9223372036854775807) (hlen : len ≤ 9223372036854775807) (w : World) :
    Calls Try.prog 92 #[.agg #[.string s, .string p, .string o, .int .i64 r, .slice a len cap], .int .i64 left] w (SzStepPost len left s.size p.size o.size w) := by
  have X := Box5.new w (.string s) (.string p) (.string o) (.int .i64 r) (.slice a len cap) 115
  have B0 := (Below.refl w.heap.size w).alloc (Nat.le_refl _) (.cells #[.string s, .string p, .string o, .int .i64 r, .slice a len cap] 115)
  obtain ⟨c0, c1, c2, c3, c4⟩ := X.cells
  have SZ := szTri s p o left h0 h1 hs hp ho
  by_cases hq : (s.size : Int) + p.size + o.size ≤ left
  · rw [szT_yes hq] at SZ
    have D := Lib.hid SZ
    have hn0 : ¬ left - s.size - p.size - o.size < 0 := by omega
    have E := Lib.hid (fun w => szInts a len cap w (left - s.size - p.size - o.size) (by omega) (by omega) hlen)
    clear SZ
    go_enter Try.func92, Try.ntmps92
    go_wp2_with fail
    refine (D.out _).mono ?_
    rintro e w1 ⟨rfl, hb⟩
    have B1 := B0.trans (hb.mono B0.size)
    have X1 := X.next hb
    clear hb X B0 c0 c1 c2 c3 c4
    obtain ⟨c0, c1, c2, c3, c4⟩ := X1.cells
    go_wp2_with fail
    refine (E.out _).mono ?_
    rintro e w2 ⟨rfl, hb⟩
    have B2 := B1.trans (hb.mono B1.size)
    clear hb B1 X1 c0 c1 c2 c3 c4
    by_cases g : left - s.size - p.size - o.size - len < 0
    · rw [if_pos g]
      go_wp2_with fail
      go_ret
      exact ⟨-1, rfl, .inl rfl, B2⟩
    · rw [if_neg g]
      go_wp2_with fail
      go_ret
      exact ⟨_, rfl, .inr ⟨by omega, by omega, by omega⟩, B2⟩
  · rw [szT_no hq] at SZ
    have D := Lib.hid SZ
    clear SZ
    go_enter Try.func92, Try.ntmps92
    go_wp2_with fail
    refine (D.out _).mono ?_
    rintro e w1 ⟨rfl, hb⟩
    have B1 := B0.trans (hb.mono B0.size)
    clear hb
    go_wp2_with fail
    go_ret
    exact ⟨-1, rfl, .inl rfl, B1⟩
def SmSteps (len : Nat) (ts : List StepV) : Prop := len + tot ts ≤ 1048576 ∧ ∀ t ∈ ts, t.1.1.size + t.1.2.1.size + t.1.2.2.size ≤ 1048576
def SzPostS (left : Int) (len : Nat) (ts : List StepV) (w : World) (e : Ending) (w' : World) : Prop :=
  ∃ n : Int, e = .returned (.int .i64 n) ∧ (n = -1 ∨ (0 ≤ n ∧ n ≤ left ∧ SmSteps len ts)) ∧ Below w.heap.size w w'
theorem IsInts.maxl {w : World} {a : Option Addr} {len cap : Nat} {zs : List Int} (h : IsInts w a len cap zs) : len ≤ 9223372036854775807 := by
  rcases h with ⟨_, rfl, _, _⟩ | ⟨_, _, h1, h2, _⟩
  · omega
  · unfold maxLen at h2; omega
theorem IsSteps.maxl {w : World} {a : Option Addr} {len cap : Nat} {ts : List StepV} (h : IsSteps w a len cap ts) : len ≤ 9223372036854775807 := by
  rcases h with ⟨_, rfl, _, _⟩ | ⟨_, _, h1, h2, _⟩
  · omega
  · unfold maxLen at h2; omega
set_option maxRecDepth 100000 in
set_option maxHeartbeats 1600000 in
theorem szSteps (a : Option Addr) (len cap : Nat) (ts : List StepV) (w : World) (h : IsSteps w a len cap ts) (left : Int) (h0 : 0 ≤ left) (h1 : left ≤ 1048576) (hlen : len ≤ 9223372036854775807) :
    Calls Try.prog 43 #[.slice a len cap, .int .i64 left] w (SzPostS left len ts w) := by
  by_cases g : left - len < 0
  · clear h
    go_enter Try.func43, Try.ntmps43
    go_wp2_with fail
    go_ret
    exact ⟨-1, rfl, .inl rfl, Below.refl _ _⟩
  have H := Lib.hid h
  have HL := Lib.hid h.len
  clear h
  go_enter Try.func43, Try.ntmps43
  go_wp2_with fail
  go_loopw [1, 5] (fun l i wr => ∃ k : Nat, k ≤ len ∧ i = .int .i64 k ∧ (∃ q : Int, 0 ≤ q ∧ q + tot (ts.take k) + len ≤ left ∧ l = .int .i64 q) ∧ Hid (∀ t ∈ ts.take k, t.1.1.size + t.1.2.1.size + t.1.2.2.size ≤ 1048576) ∧ Below w.heap.size w wr) (fun _ i _ => len - (intOf i).toNat)
  case atStart => exact ⟨0, Nat.zero_le _, rfl, ⟨_, by omega, by simp [tot], rfl⟩, Lib.hid (by simp), Below.refl _ _⟩
  case round =>
    obtain ⟨k, hk, rfl, ⟨q, hq0, hq1, rfl⟩, hsm, hnx⟩ := hrel
    have hk6 : (0 : Int) ≤ (k : Int) := by omega
    by_cases hlt : k < len
    · obtain ⟨b, off, rfl, hb, hl, hm, hts, hc⟩ := (H.out.next hnx).cells (by omega)
      have ht : ts[k]? = some ts[k] := List.getElem?_eq_getElem (by omega)
      have HS : Hid (ts.take (k + 1) = ts.take k ++ [ts[k]]) := Lib.hid (List.take_succ_eq_append_getElem (by omega))
      obtain ⟨c0, c1, c2, c3, ⟨a', n, c, c4, hz⟩, w0, w1, w2⟩ := hc k _ ht
      generalize ts[k] = t at c0 c1 c2 c3 hz w0 w1 w2 HS
      obtain ⟨⟨s, p, o⟩, r, zs⟩ := t
      simp only at c0 c1 c2 c3 hz w0 w1 w2
      unfold maxLen at w0 w1 w2 hm
      have hzl := hz.len
      have hzm := hz.maxl
      have D := Lib.hid (szStep s p o r a' n c q hq0 (by omega) w0 w1 w2 hzm)
      clear ht hts hc hz hm hl
      have hlt2 : (k : Int) < (len : Int) := by omega
      have HZ := Lib.hid hzl
      clear hzl
      go_wp2_with fail
      refine (D.out _).mono ?_
      rintro e wn ⟨m, rfl, hm, hbn⟩
      have B := hnx.trans (hbn.mono hnx.size)
      clear hbn hnx c0 c1 c2 c3 c4
      rcases hm with rfl | ⟨hm0, hm1, hm2⟩
      · go_wp2_with fail
        go_ret
        exact ⟨-1, rfl, .inl rfl, B⟩
      · have hm3 : ¬ m < 0 := by omega
        have HN : Hid (∀ t ∈ ts.take (k + 1), t.1.1.size + t.1.2.1.size + t.1.2.2.size ≤ 1048576) := Lib.hid (by
          rw [HS.out]
          intro u hu
          rcases List.mem_append.1 hu with hu | hu
          · exact hsm.out u hu
          · obtain rfl : u = ((s, p, o), r, zs) := by simpa using hu
            exact hm2)
        have HT : Hid (tot (ts.take (k + 1)) = tot (ts.take k) + n) := Lib.hid (by rw [HS.out, tot_snoc]; simp only; rw [HZ.out])
        go_wp2_with fail
        go_roundw
        case rel => exact ⟨k + 1, by omega, by go_num, ⟨m, hm0, by rw [HT.out]; omega, rfl⟩, HN, B⟩
        case measure => simp [intOf]; omega
    · obtain rfl : k = len := by omega
      go_wp2_with fail
      go_ret
      have e : ts.take k = ts := List.take_of_length_le (by rw [HL.out]; exact Nat.le_refl _)
      rw [e] at hq1
      exact ⟨q, rfl, .inr ⟨hq0, by omega, by omega, by have := hsm.out; rwa [e] at this⟩, hnx⟩
end Go.Proofs.Yteejpceliodcfaa
