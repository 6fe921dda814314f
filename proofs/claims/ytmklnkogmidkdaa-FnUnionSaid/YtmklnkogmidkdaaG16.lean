/- Whether a text is in a list of texts: the specification's own. -/
import Derived.Test.YtmklnkogmidkdaaG15
import Derived.Test.YtmklnkogmidkdaaG14
import Derived.Test.YtmklnkogmidkdaaG08
import Derived.Test.YtmklnkogmidkdaaG12
import Derived.Test.YtmklnkogmidkdaaG01
import Derived.Deep.QuietTactic
import Derived.BigQuiet
import Derived.Laws.AppendOwnNone
import Derived.Deep.RegionHeld3
namespace Go.Proofs.Ytmklnkogmidkdaa
open Go.RowKit Go.WideShapes
def hasB (ts : List ByteArray) (x : ByteArray) : Bool := ts.any fun y => y.toList == x.toList
theorem hasB_yes {ts : List ByteArray} {x u : ByteArray} {k : Nat} (h : ts[k]? = some u) (he : (u.toList == x.toList) = true) : hasB ts x = true := List.any_eq_true.2 ⟨u, List.mem_of_getElem? h, he⟩
theorem hasB_no {ts : List ByteArray} {x : ByteArray} (h : ∀ (i : Nat) (u : ByteArray), i < ts.length → ts[i]? = some u → (u.toList == x.toList) = false) : hasB ts x = false := by
  unfold hasB
  rw [List.any_eq_false]
  intro u hu
  obtain ⟨i, hi⟩ := List.mem_iff_getElem?.1 hu
  rw [h i u (List.getElem?_eq_some_iff.1 hi).1 hi]; simp
end Go.Proofs.Ytmklnkogmidkdaa
/- The specification's look for a triple, and triples without one. -/
namespace Go.Proofs.Ytmklnkogmidkdaa
open Go.RowKit Go.WideShapes
theorem OwnT.plain {B : Nat} {w : World} {v : Value} {ts : List Tri3} (h : OwnT B w v ts) (hm : ∀ t ∈ ts, t.1.size ≤ maxLen ∧ t.2.1.size ≤ maxLen ∧ t.2.2.size ≤ maxLen) : ∃ a cap, v = .slice a ts.length cap ∧ IsTris w a ts.length cap ts ∧ Plain a := by
  obtain ⟨a, cap, hv, hi⟩ := h.is hm
  refine ⟨a, cap, hv, hi, ?_⟩
  rcases h.2 with ⟨e, _⟩ | ⟨g, c, cur, e, _⟩
  · rw [hv] at e
    simp only [Value.slice.injEq] at e
    exact .inl e.1
  · rw [hv] at e
    simp only [Value.slice.injEq] at e
    exact .inr ⟨g, 0, e.1⟩
set_option maxRecDepth 100000 in
set_option maxHeartbeats 1600000 in
theorem specWith (a : Option Addr) (len cap : Nat) (ts : List Tri3) (s p o : ByteArray) (w : World) (h : IsTris w a len cap ts) (hpl : Plain a) (hsm : Sm ts) (hs : s.size ≤ 2097152) (hp : p.size ≤ 2097152) (ho : o.size ≤ 2097152) :
    Calls Try.prog 16 #[.slice a len cap, .agg #[.string s, .string p, .string o]] w (ResPost (withT ts (s, p, o)) w) := by
  have A1 := specGraphOk a len cap ts (w.alloc (.cells #[.string s, .string p, .string o] 26)) (h.next ((Below.refl w.heap.size w).alloc (Nat.le_refl _) _)) hsm
  have B0 := (Below.refl w.heap.size w).alloc (Nat.le_refl _) (.cells #[.string s, .string p, .string o] 26)
  have X0 := Box.new w (.string s) (.string p) (.string o) 26
  have h0 := h.next B0
  cases hg : graphOk ts
  · rw [hg] at A1
    have HR : Hid (withT ts (s, p, o) = none) := Lib.hid (by unfold withT; rw [hg]; simp)
    have C1 := Lib.hid A1
    clear A1 hg h h0 hsm X0
    go_enter Try.func16, Try.ntmps16
    go_wp2_with fail
    refine C1.out.mono ?_
    rintro e w1 ⟨rfl, hb1⟩
    go_wp2_with fail
    go_ret2
    rw [HR.out]
    exact ResPost.no (B0.trans (hb1.mono B0.size))
  rw [hg] at A1
  have hl := h.len
  have hl80 := graphOk_len hg
  have hlen : len ≤ 1048576 := by omega
  have C1 := Lib.hid A1
  have A2 := specTripleOk s p o hs hp ho
  change ∀ w, Calls _ _ _ w fun e w' => e = .returned (.bool (okT (s, p, o))) ∧ Below w.heap.size w w' at A2
  cases ht : okT (s, p, o)
  · rw [ht] at A2
    have HR : Hid (withT ts (s, p, o) = none) := Lib.hid (by unfold withT; rw [ht]; simp)
    have C2 := Lib.hid A2
    clear A1 A2 hg ht h h0 hsm hl hl80
    go_enter Try.func16, Try.ntmps16
    go_wp2_with fail
    refine C1.out.mono ?_
    rintro e w1 ⟨rfl, hb1⟩
    have X1 := X0.next hb1
    obtain ⟨c0, c1, c2⟩ := X1.cells
    have B1 := B0.trans (hb1.mono B0.size)
    clear X0 hb1 B0
    go_wp2_with fail
    refine (C2.out _).mono ?_
    rintro e w2 ⟨rfl, hb2⟩
    go_wp2_with fail
    go_ret2
    rw [HR.out]
    exact ResPost.no (B1.trans (hb2.mono B1.size))
  rw [ht] at A2
  have C2 := Lib.hid A2
  have hlp := putT_len ts (s, p, o)
  have hlp2 : (putT ts (s, p, o)).length ≤ 81 := by omega
  have HY : Hid ((putT ts (s, p, o)).length ≤ 80 → withT ts (s, p, o) = some (putT ts (s, p, o))) := Lib.hid (fun c => by unfold withT; rw [if_pos ⟨hg, ht, c⟩])
  have HN : Hid (¬ (putT ts (s, p, o)).length ≤ 80 → withT ts (s, p, o) = none) := Lib.hid (fun c => by unfold withT; rw [if_neg (fun h => c h.2.2)])
  have HP := Lib.hid hpl
  clear A1 A2 hg ht h hsm hl hl80 hlp hpl
  go_enter Try.func16, Try.ntmps16
  go_wp2_with fail
  refine C1.out.mono ?_
  rintro e w1 ⟨rfl, hb1⟩
  have X1 := X0.next hb1
  have h1 := h0.next hb1
  obtain ⟨c0, c1, c2⟩ := X1.cells
  have B1 := B0.trans (hb1.mono B0.size)
  clear X0 hb1 B0 h0
  go_wp2_with fail
  refine (C2.out _).mono ?_
  rintro e w2 ⟨rfl, hb2⟩
  have X2 := X1.next hb2
  have h2 := h1.next hb2
  have B2 := B1.trans (hb2.mono B1.size)
  clear X1 hb2 B1 h1 c0 c1 c2
  obtain ⟨c0, c1, c2⟩ := X2.cells
  have U := Lib.hid (specPutAny a len cap ts s p o w2 h2 HP.out hlen)
  clear h2
  go_wp2_with fail
  refine U.out.mono ?_
  rintro e w3 ⟨v, rfl, ho3, hb3⟩
  have O3 := own_base ho3 B2.size
  have B3 := B2.trans (hb3.mono B2.size)
  obtain ⟨uu, huu⟩ : ∃ l, putT ts (s, p, o) = l := ⟨_, rfl⟩
  rw [huu] at O3 HY HN hlp2
  obtain ⟨x, y, rfl⟩ : ∃ x y, v = .slice x uu.length y := by
    rcases O3.2 with ⟨rfl, e⟩ | ⟨g, c, cur, rfl, _⟩
    · exact ⟨none, 0, by rw [e]⟩
    · exact ⟨_, _, rfl⟩
  have HO := Lib.hid O3
  clear ho3 hb3 O3 U huu c0 c1 c2 X2
  by_cases c : (80 : Int) < (uu.length : Int)
  · have HR := Lib.hid (HN.out (by omega))
    clear HY HN
    go_wp2_with fail
    go_ret2
    rw [HR.out]
    exact ResPost.no B3
  · have HR := Lib.hid (HY.out (by omega))
    clear HY HN
    go_wp2_with fail
    go_ret2
    rw [HR.out]
    exact ResPost.yes HO.out B3
end Go.Proofs.Ytmklnkogmidkdaa
/- The specification's look for a triple. -/
namespace Go.Proofs.Ytmklnkogmidkdaa
open Go.RowKit Go.WideShapes
set_option maxRecDepth 100000 in
set_option maxHeartbeats 1600000 in
theorem specHas2 (a : Option Addr) (len cap : Nat) (ts : List Tri3) (s p o : ByteArray) (w : World) (h : IsTris w a len cap ts) (hl : len ≤ 1048576) :
    Calls Try.prog 53 #[.slice a len cap, .agg #[.string s, .string p, .string o]] w fun e w' => e = .returned (.bool (decide ((s, p, o) ∈ ts))) ∧ Below w.heap.size w w' := by
  have H := Lib.hid h
  have HT := Lib.hid h.len
  have B0 := (Below.refl w.heap.size w).alloc (Nat.le_refl _) (.cells #[.string s, .string p, .string o] 26)
  have X0 := Box.new w (.string s) (.string p) (.string o) 26
  clear h
  go_enter Try.func53, Try.ntmps53
  go_wp2_with fail
  go_loopw [5] (fun i wr => ∃ k : Nat, k ≤ len ∧ i = .int .i64 k ∧ Hid ((s, p, o) ∉ ts.take k) ∧ Hid (Box wr w.heap.size (.string s) (.string p) (.string o) 26) ∧ Below w.heap.size w wr) (fun i _ => len - (intOf i).toNat)
  case atStart => exact ⟨0, Nat.zero_le _, rfl, Lib.hid (by simp), Lib.hid X0, B0⟩
  case round =>
    obtain ⟨k, hk, rfl, hnot, hbox, hnx⟩ := hrel
    clear X0 B0
    have hk6 : (0 : Int) ≤ (k : Int) := by omega
    have hk8 : k ≤ 1048576 := by omega
    by_cases hlt : k < len
    · have hk7 : (k : Int) < (len : Int) := by omega
      obtain ⟨b, off, rfl, hb, hl', hm, hts, hcs⟩ := H.out.cells (by omega)
      have ht : ts[k]? = some (ts[k]'(by omega)) := List.getElem?_eq_getElem (by omega)
      have HS : Hid (ts.take (k + 1) = ts.take k ++ [ts[k]'(by omega)]) := Lib.hid (List.take_succ_eq_append_getElem (by omega))
      obtain ⟨d0, d1, d2, m0, m1, m2⟩ := hcs k _ ht
      rw [← hnx.cell (p := ⟨b, _, none⟩) hb] at d0 d1 d2
      generalize ts[k]'(by omega) = u at ht d0 d1 d2 m0 m1 m2 HS
      obtain ⟨c0, c1, c2⟩ := hbox.out.cells
      by_cases he : u = (s, p, o)
      · subst he
        have HR : Hid (decide ((s, p, o) ∈ ts) = true) := Lib.hid (decide_eq_true (List.mem_of_getElem? ht))
        have EQ := tri_is s p o
        simp only at d0 d1 d2
        clear ht hts hcs hm m0 m1 m2 hl' hnot HS
        go_wp2_with fail
        go_quiet (fail)
        clear EQ
        go_wp2_with fail
        go_ret
        exact ⟨by rw [HR.out]; rfl, below_drewN hnx nq⟩
      · have EQ := tri_isnt he
        simp only at EQ
        have HN : Hid ((s, p, o) ∉ ts.take (k + 1)) := Lib.hid (by
          rw [HS.out, List.mem_append]
          rintro (h | h)
          · exact hnot.out h
          · exact he (List.mem_singleton.1 h).symm)
        have X1 : Hid (∀ n, Box (wr.drewN n) w.heap.size (.string s) (.string p) (.string o) 26) := Lib.hid (fun n => hbox.out)
        have HB : Hid (∀ n, Below w.heap.size w (wr.drewN n)) := Lib.hid (fun n => below_drewN hnx n)
        clear ht hts hcs hm m0 m1 m2 hl' hnot HS he
        go_wp2_with fail
        go_quiet (fail)
        clear EQ
        go_wp2_with fail
        go_roundw
        case rel => exact ⟨k + 1, by omega, by go_num, HN, Lib.hid (X1.out _), HB.out _⟩
        case measure => simp [intOf]; omega
    · obtain rfl : k = len := by omega
      have HR : Hid (decide ((s, p, o) ∈ ts) = false) := Lib.hid (decide_eq_false (by
        have := hnot.out
        rwa [List.take_of_length_le (by rw [HT.out]; exact Nat.le_refl _)] at this))
      go_wp2_with fail
      go_ret
      exact ⟨by rw [HR.out]; rfl, hnx⟩
end Go.Proofs.Ytmklnkogmidkdaa
