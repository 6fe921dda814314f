/- The leaves of steps: the program's way and the specification's. -/
import Derived.Test.YteejpceliodcfaaStepZ
import Derived.Test.YteejpceliodcfaaTSet
import Derived.Test.YteejpceliodcfaaSpecL
namespace Go.Proofs.Yteejpceliodcfaa
open Go.RowKit Go.WideShapes Go.Maps
def leafs (ts : List StepV) : List Tri3 := ts.flatMap fun t => if t.2.1 = -1 then [t.1] else []
theorem leafs_snoc (ts : List StepV) (t : StepV) : leafs (ts ++ [t]) = leafs ts ++ (if t.2.1 = -1 then [t.1] else []) := by simp [leafs]
theorem leafs_len (ts : List StepV) : (leafs ts).length ≤ ts.length := by
  induction ts with
  | nil => simp [leafs]
  | cons t r ih =>
    have e : leafs (t :: r) = (if t.2.1 = -1 then [t.1] else []) ++ leafs r := by simp [leafs]
    rw [e, List.length_append, List.length_cons]
    split <;> simp <;> omega
theorem leafs_mem {ts : List StepV} {u : Tri3} (h : u ∈ leafs ts) : ∃ t ∈ ts, t.1 = u := by
  obtain ⟨t, ht, hu⟩ := List.mem_flatMap.1 h
  split at hu
  · exact ⟨t, ht, (List.mem_singleton.1 hu).symm⟩
  · simp at hu
def leavesT (ts : List StepV) : List Tri3 := unionT [] (leafs ts)
theorem leaves_len (ts : List StepV) : (leavesT ts).length ≤ ts.length := by
  have h1 := unionT_len (leafs ts) []
  have h2 := leafs_len ts
  unfold leavesT
  simp only [List.length_nil, Nat.zero_add] at h1
  omega
theorem leaves_sort {ts : List StepV} (h : (addAll [] (leafs ts)).Nodup) : sortT (addAll [] (leafs ts)) = leavesT ts :=
  sortT_is h (unionT_rising .nil) (fun u => by unfold leavesT; rw [addAll_mem, unionT_mem])
set_option maxRecDepth 100000 in
set_option maxHeartbeats 1600000 in
theorem implLeaves (a : Option Addr) (len cap : Nat) (ts : List StepV) (w : World) (h : IsSteps w a len cap ts) (hl : len ≤ 1048576) :
    Calls Try.prog 46 #[.slice a len cap] w fun e w' => ∃ v, e = .returned v ∧ OwnT w.heap.size w' v (leavesT ts) ∧ Below w.heap.size w w' := by
  have hmm := @run_makeMap Try.prog
  have O0 := OwnSet.made w
  have B0 : Below w.heap.size w (w.alloc (.map #[] 0)) := (Below.refl w.heap.size w).alloc (Nat.le_refl _) _
  have H := Lib.hid h
  have HL := Lib.hid h.len
  clear h
  go_enter Try.func46, Try.ntmps46
  go_wp2_with fail
  clear hmm
  go_loopw [9] (fun i wr => ∃ k : Nat, k ≤ len ∧ i = .int .i64 k ∧ Hid (OwnSet wr w.heap.size k (addAll [] (leafs (ts.take k)))) ∧ Below w.heap.size w wr) (fun i _ => len - (intOf i).toNat)
  case atStart => exact ⟨0, Nat.zero_le _, rfl, Lib.hid (by simpa [leafs, addAll] using O0), B0⟩
  case round =>
    obtain ⟨k, hk, rfl, hown, hnx⟩ := hrel
    clear O0 B0
    have hk6 : (0 : Int) ≤ (k : Int) := by omega
    by_cases hlt : k < len
    · obtain ⟨b, off, rfl, hb, hl', hm, hts, hcs⟩ := (H.out.next hnx).cells (by omega)
      have ht : ts[k]? = some (ts[k]'(by omega)) := List.getElem?_eq_getElem (by omega)
      have HS : Hid (ts.take (k + 1) = ts.take k ++ [ts[k]'(by omega)]) := Lib.hid (List.take_succ_eq_append_getElem (by omega))
      obtain ⟨c0, c1, c2, c3, ⟨a', n, c, c4, hz⟩, m0, m1, m2⟩ := hcs k _ ht
      generalize ts[k]'(by omega) = t at c0 c1 c2 c3 hz m0 m1 m2 HS
      obtain ⟨⟨t0, t1, t2⟩, r, zs⟩ := t
      simp only at c0 c1 c2 c3 hz m0 m1 m2
      have hsk : SmK (t0, t1, t2) := ⟨m0, m1, m2⟩
      have hk7 : (k : Int) < (len : Int) := by omega
      have hml : k < maxLen := by unfold maxLen; omega
      obtain ⟨W, hW⟩ : ∃ W, wr.alloc (.cells #[.string t0, .string t1, .string t2, .int .i64 r, .slice a' n c] 117) = W := ⟨_, rfl⟩
      have X := Box5.new wr (.string t0) (.string t1) (.string t2) (.int .i64 r) (.slice a' n c) 117
      have O1' := hown.out.alloc (.cells #[.string t0, .string t1, .string t2, .int .i64 r, .slice a' n c] 117)
      have B1 := hnx.alloc hnx.size (.cells #[.string t0, .string t1, .string t2, .int .i64 r, .slice a' n c] 117)
      rw [hW] at X O1' B1
      have O1 := Lib.hid O1'
      obtain ⟨x0, x1, x2, x3, x4⟩ := X.cells
      clear ht hts hcs hm hl' hz m0 m1 m2 hown hnx X O1'
      by_cases hr : r = -1
      · subst hr
        have HX : Hid (addAll [] (leafs (ts.take (k + 1))) = addT (addAll [] (leafs (ts.take k))) (t0, t1, t2)) := Lib.hid (by rw [HS.out, leafs_snoc, if_pos rfl, addAll_snoc])
        obtain ⟨acc, hacc⟩ : ∃ acc, addAll [] (leafs (ts.take k)) = acc := ⟨_, rfl⟩
        rw [hacc] at HX O1
        clear hacc HS
        go_wp2_with (at_mapUpdate; refine wpList_put _ rfl _ _ _ rfl w.heap.size k acc rfl O1.out hml (t0, t1, t2) hsk rfl rfl ?_)
        intro w4 hown4 hg4
        have B4 : Below w.heap.size w w4 := B1.grown hg4 B1.size (fun r e => by cases e; exact Nat.le_refl _)
        have H4 : Hid (OwnSet w4 w.heap.size (k + 1) (addAll [] (leafs (ts.take (k + 1))))) := Lib.hid (by rw [HX.out]; exact hown4)
        clear hown4 hg4 O1 B1 HX c0 c1 c2 c3 c4 x0 x1 x2 x3 x4 hW
        go_wp2_with fail
        go_roundw
        case rel => exact ⟨k + 1, by omega, by go_num, H4, B4⟩
        case measure => simp [intOf]; omega
      · have H4 : Hid (OwnSet W w.heap.size (k + 1) (addAll [] (leafs (ts.take (k + 1))))) := Lib.hid (by
          rw [HS.out, leafs_snoc, if_neg hr, List.append_nil]
          obtain ⟨D, h1, h2⟩ := O1.out
          exact ⟨D, World.ownsMap.mono h1 (Nat.le_succ _), h2⟩)
        have hr2 : decide (r = -1) = false := decide_eq_false hr
        clear O1 HS
        go_wp2_with fail
        go_roundw
        case rel => exact ⟨k + 1, by omega, by go_num, H4, B1⟩
        case measure => simp [intOf]; omega
    · obtain rfl : k = len := by omega
      have e : ts.take k = ts := List.take_of_length_le (by rw [HL.out]; exact Nat.le_refl _)
      have H4 := hown.out
      rw [e] at H4
      have C := implInOrder w.heap.size k _ wr H4 (by have := H4.size_le; omega)
      rw [leaves_sort H4.nodup] at C
      have HC := Lib.hid C
      clear hown H4 C
      go_wp2_with fail
      refine HC.out.mono ?_
      rintro e w5 ⟨v, rfl, o5, hb5⟩
      have B5 := hnx.trans (hb5.mono hnx.size)
      have O5 := Lib.hid (own_base o5 hnx.size)
      clear hb5 hnx HC o5
      go_wp2_with fail
      go_ret
      exact ⟨v, rfl, O5.out, B5⟩
set_option maxRecDepth 100000 in
set_option maxHeartbeats 1600000 in
theorem specLeaves (a : Option Addr) (len cap : Nat) (ts : List StepV) (w : World) (h : IsSteps w a len cap ts) (hl : len ≤ 1048576) :
    Calls Try.prog 44 #[.slice a len cap] w fun e w' => ∃ v, e = .returned v ∧ OwnT w.heap.size w' v (leavesT ts) ∧ Below w.heap.size w w' := by
  have B0 := (Below.refl w.heap.size w).alloc (Nat.le_refl _) (.cells #[] 46)
  have O0 : OwnT w.heap.size (w.alloc (.cells #[] 46)) (.slice (some ⟨w.heap.size, 0, none⟩) 0 0) [] := World.ownsRow_lit (size := 3) (e := 46) w #[] 0 (Nat.le_refl _) (by decide) rfl
  have H := Lib.hid h
  have HL := Lib.hid h.len
  have HSM : Hid (∀ u ∈ leavesT ts, u.1.size ≤ maxLen ∧ u.2.1.size ≤ maxLen ∧ u.2.2.size ≤ maxLen) := Lib.hid (fun u hu => by
    unfold leavesT at hu
    rcases unionT_mem.1 hu with hu | hu
    · simp at hu
    · obtain ⟨t, ht, rfl⟩ := leafs_mem hu
      exact h.small t ht)
  have HSK : Hid (∀ k, ∀ u ∈ leavesT (ts.take k), u.1.size ≤ maxLen ∧ u.2.1.size ≤ maxLen ∧ u.2.2.size ≤ maxLen) := Lib.hid (fun k u hu => by
    unfold leavesT at hu
    rcases unionT_mem.1 hu with hu | hu
    · simp at hu
    · obtain ⟨t, ht, rfl⟩ := leafs_mem hu
      exact h.small t (List.mem_of_mem_take ht))
  clear h
  go_enter Try.func44, Try.ntmps44
  go_wp2_with fail
  go_loopw [3, 4] (fun l i wr => ∃ (k : Nat) (v : Value), k ≤ len ∧ i = .int .i64 k ∧ v = l ∧ Hid (OwnT w.heap.size wr v (leavesT (ts.take k))) ∧ Below w.heap.size w wr) (fun _ i _ => len - (intOf i).toNat)
  case atStart => exact ⟨0, _, Nat.zero_le _, rfl, rfl, Lib.hid (by simpa [leafs, leavesT, unionT] using O0), B0⟩
  case round =>
    obtain ⟨k, v0, hk, rfl, rfl, hown, hnx⟩ := hrel
    clear O0 B0
    have hk6 : (0 : Int) ≤ (k : Int) := by omega
    by_cases hlt : k < len
    · obtain ⟨b, off, rfl, hb, hl', hm, hts, hcs⟩ := (H.out.next hnx).cells (by omega)
      have ht : ts[k]? = some (ts[k]'(by omega)) := List.getElem?_eq_getElem (by omega)
      have HS : Hid (ts.take (k + 1) = ts.take k ++ [ts[k]'(by omega)]) := Lib.hid (List.take_succ_eq_append_getElem (by omega))
      obtain ⟨c0, c1, c2, c3, ⟨a', n, c, c4, hz⟩, m0, m1, m2⟩ := hcs k _ ht
      generalize ts[k]'(by omega) = t at c0 c1 c2 c3 hz m0 m1 m2 HS
      obtain ⟨⟨t0, t1, t2⟩, r, zs⟩ := t
      simp only at c0 c1 c2 c3 hz m0 m1 m2
      have hk7 : (k : Int) < (len : Int) := by omega
      clear ht hts hcs hm hl' hz m0 m1 m2
      by_cases hr : r = -1
      · subst hr
        have HX : Hid (leavesT (ts.take (k + 1)) = putT (leavesT (ts.take k)) (t0, t1, t2)) := Lib.hid (by unfold leavesT; rw [HS.out, leafs_snoc, if_pos rfl, unionT_snoc])
        obtain ⟨x, y, rfl, i3, p3⟩ := OwnT.plain hown.out (HSK.out k)
        have hle := leaves_len (ts.take k)
        rw [List.length_take] at hle
        have C := specPutAny x _ y _ t0 t1 t2 wr i3 p3 (by omega)
        rw [← HX.out] at C
        obtain ⟨n2, hn2⟩ : ∃ n2, (leavesT (ts.take k)).length = n2 := ⟨_, rfl⟩
        rw [hn2] at C hown ⊢
        have HC := Lib.hid C
        clear C i3 p3 hle hn2 hown HX HS
        go_wp2_with fail
        refine HC.out.mono ?_
        rintro e w4 ⟨v, rfl, o4, hb4⟩
        have O4 := Lib.hid (own_base o4 hnx.size)
        have B4 := hnx.trans (hb4.mono hnx.size)
        clear o4 hb4 hnx HC c0 c1 c2 c3 c4
        go_wp2_with fail
        go_roundw
        case rel => exact ⟨k + 1, _, by omega, by go_num, rfl, O4, B4⟩
        case measure => simp [intOf]; omega
      · have H4 : Hid (OwnT w.heap.size wr v0 (leavesT (ts.take (k + 1)))) := Lib.hid (by
          unfold leavesT
          rw [HS.out, leafs_snoc, if_neg hr, List.append_nil]
          exact hown.out)
        have hr2 : decide (r = -1) = false := decide_eq_false hr
        clear hown HS
        go_wp2_with fail
        go_roundw
        case rel => exact ⟨k + 1, _, by omega, by go_num, rfl, H4, hnx⟩
        case measure => simp [intOf]; omega
    · obtain rfl : k = len := by omega
      have e : ts.take k = ts := List.take_of_length_le (by rw [HL.out]; exact Nat.le_refl _)
      rw [e] at hown
      go_wp2_with fail
      go_ret
      exact ⟨_, rfl, hown.out, hnx⟩
end Go.Proofs.Yteejpceliodcfaa
