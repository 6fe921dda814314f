/- The leaves of steps: the program's way and the specification's. -/
import Derived.Test.YtonikgmplgcplaaG03
import Derived.Test.YtonikgmplgcplaaG11
import Derived.Test.YtonikgmplgcplaaG14
namespace Go.Proofs.Ytonikgmplgcplaa
open Go.RowKit Go.WideShapes Go.Maps
def leafs (ts : List StepV) : List Tri3 := ts.flatMap fun t => if t.2.1 = -1 then [t.1] else []
theorem leafs_snoc (ts : List StepV) (t : StepV) : leafs (ts ++ [t]) = leafs ts ++ (if t.2.1 = -1 then [t.1] else []) := by simp [leafs]
theorem leafs_len (ts : List StepV) : (leafs ts).length ≤ ts.length := by
  induction ts with
  | nil => simp [leafs]
  | cons t r ih =>
    have e : leafs (t :: r) = (if t.2.1 = -1 then [t.1] else []) ++ leafs r := by simp [leafs]
    rw [e, List.length_append, List.length_cons]
    split <;> simp <;> omega
theorem leafs_mem {ts : List StepV} {u : Tri3} (h : u ∈ leafs ts) : ∃ t ∈ ts, t.1 = u := by
  obtain ⟨t, ht, hu⟩ := List.mem_flatMap.1 h
  split at hu
  · exact ⟨t, ht, (List.mem_singleton.1 hu).symm⟩
  · simp at hu
def leavesT (ts : List StepV) : List Tri3 := unionT [] (leafs ts)
theorem leaves_len (ts : List StepV) : (leavesT ts).length ≤ ts.length := by
  have h1 := unionT_len (leafs ts) []
  have h2 := leafs_len ts
  unfold leavesT
  simp only [List.length_nil, Nat.zero_add] at h1
  omega
theorem leaves_sort {ts : List StepV} (h : (addAll [] (leafs ts)).Nodup) : sortT (addAll [] (leafs ts)) = leavesT ts :=
  sortT_is h (unionT_rising .nil) (fun u => by unfold leavesT; rw [addAll_mem, unionT_mem])
set_option maxRecDepth 100000 in
set_option maxHeartbeats 1600000 in
theorem implLeaves (a : Option Addr) (len cap : Nat) (ts : List StepV) (w : World) (h : IsSteps w a len cap ts) (hl : len ≤ 1048576) :
    Calls Try.prog 7 #[.slice a len cap] w fun e w' => ∃ v, e = .returned v ∧ OwnT w.heap.size w' v (leavesT ts) ∧ Below w.heap.size w w' := by
  have hmm := @run_makeMap Try.prog
  have O0 := OwnSet.made w
  have B0 : Below w.heap.size w (w.alloc (.map #[] 0)) := (Below.refl w.heap.size w).alloc (Nat.le_refl _) _
  have H := Lib.hid h
  have HL := Lib.hid h.len
  clear h
  go_enter Try.func7, Try.ntmps7
  go_wp2_with fail
  clear hmm
  go_loopw [9] (fun i wr => ∃ k : Nat, k ≤ len ∧ i = .int .i64 k ∧ Hid (OwnSet wr w.heap.size k (addAll [] (leafs (ts.take k)))) ∧ Below w.heap.size w wr) (fun i _ => len - (intOf i).toNat)
  case atStart => exact ⟨0, Nat.zero_le _, rfl, Lib.hid (by simpa [leafs, addAll] using O0), B0⟩
  case round =>
    obtain ⟨k, hk, rfl, hown, hnx⟩ := hrel
    clear O0 B0
    have hk6 : (0 : Int) ≤ (k : Int) := by omega
    by_cases hlt : k < len
    · obtain ⟨b, off, rfl, hb, hl', hm, hts, hcs⟩ := (H.out.next hnx).cells (by omega)
      have ht : ts[k]? = some (ts[k]'(by omega)) := List.getElem?_eq_getElem (by omega)
      have HS : Hid (ts.take (k + 1) = ts.take k ++ [ts[k]'(by omega)]) := Lib.hid (List.take_succ_eq_append_getElem (by omega))
      obtain ⟨c0, c1, c2, c3, ⟨a', n, c, c4, hz⟩, m0, m1, m2⟩ := hcs k _ ht
      generalize ts[k]'(by omega) = t at c0 c1 c2 c3 hz m0 m1 m2 HS
      obtain ⟨⟨t0, t1, t2⟩, r, zs⟩ := t
      simp only at c0 c1 c2 c3 hz m0 m1 m2
      have hsk : SmK (t0, t1, t2) := ⟨m0, m1, m2⟩
      have hk7 : (k : Int) < (len : Int) := by omega
      have hml : k < maxLen := by unfold maxLen; omega
      obtain ⟨W, hW⟩ : ∃ W, wr.alloc (.cells #[.string t0, .string t1, .string t2, .int .i64 r, .slice a' n c] 41) = W := ⟨_, rfl⟩
      have X := Box5.new wr (.string t0) (.string t1) (.string t2) (.int .i64 r) (.slice a' n c) 41
      have O1' := hown.out.alloc (.cells #[.string t0, .string t1, .string t2, .int .i64 r, .slice a' n c] 41)
      have B1 := hnx.alloc hnx.size (.cells #[.string t0, .string t1, .string t2, .int .i64 r, .slice a' n c] 41)
      rw [hW] at X O1' B1
      have O1 := Lib.hid O1'
      obtain ⟨x0, x1, x2, x3, x4⟩ := X.cells
      clear ht hts hcs hm hl' hz m0 m1 m2 hown hnx X O1'
      by_cases hr : r = -1
      · subst hr
        have HX : Hid (addAll [] (leafs (ts.take (k + 1))) = addT (addAll [] (leafs (ts.take k))) (t0, t1, t2)) := Lib.hid (by rw [HS.out, leafs_snoc, if_pos rfl, addAll_snoc])
        obtain ⟨acc, hacc⟩ : ∃ acc, addAll [] (leafs (ts.take k)) = acc := ⟨_, rfl⟩
        rw [hacc] at HX O1
        clear hacc HS
        go_wp2_with (at_mapUpdate; refine wpList_put _ rfl _ _ _ rfl w.heap.size k acc rfl O1.out hml (t0, t1, t2) hsk rfl rfl ?_)
        intro w4 hown4 hg4
        have B4 : Below w.heap.size w w4 := B1.grown hg4 B1.size (fun r e => by cases e; exact Nat.le_refl _)
        have H4 : Hid (OwnSet w4 w.heap.size (k + 1) (addAll [] (leafs (ts.take (k + 1))))) := Lib.hid (by rw [HX.out]; exact hown4)
        clear hown4 hg4 O1 B1 HX c0 c1 c2 c3 c4 x0 x1 x2 x3 x4 hW
        go_wp2_with fail
        go_roundw
        case rel => exact ⟨k + 1, by omega, by go_num, H4, B4⟩
        case measure => simp [intOf]; omega
      · have H4 : Hid (OwnSet W w.heap.size (k + 1) (addAll [] (leafs (ts.take (k + 1))))) := Lib.hid (by
          rw [HS.out, leafs_snoc, if_neg hr, List.append_nil]
          obtain ⟨D, h1, h2⟩ := O1.out
          exact ⟨D, World.ownsMap.mono h1 (Nat.le_succ _), h2⟩)
        have hr2 : decide (r = -1) = false := decide_eq_false hr
        clear O1 HS
        go_wp2_with fail
        go_roundw
        case rel => exact ⟨k + 1, by omega, by go_num, H4, B1⟩
        case measure => simp [intOf]; omega
    · obtain rfl : k = len := by omega
      have e : ts.take k = ts := List.take_of_length_le (by rw [HL.out]; exact Nat.le_refl _)
      have H4 := hown.out
      rw [e] at H4
      have C := implInOrder w.heap.size k _ wr H4 (by have := H4.size_le; omega)
      rw [leaves_sort H4.nodup] at C
      have HC := Lib.hid C
      clear hown H4 C
      go_wp2_with fail
      refine HC.out.mono ?_
      rintro e w5 ⟨v, rfl, o5, hb5⟩
      have B5 := hnx.trans (hb5.mono hnx.size)
      have O5 := Lib.hid (own_base o5 hnx.size)
      clear hb5 hnx HC o5
      go_wp2_with fail
      go_ret
      exact ⟨v, rfl, O5.out, B5⟩
set_option maxRecDepth 100000 in
set_option maxHeartbeats 1600000 in
theorem specLeaves (a : Option Addr) (len cap : Nat) (ts : List StepV) (w : World) (h : IsSteps w a len cap ts) (hl : len ≤ 1048576) :
    Calls Try.prog 5 #[.slice a len cap] w fun e w' => ∃ v, e = .returned v ∧ OwnT w.heap.size w' v (leavesT ts) ∧ Below w.heap.size w w' := by
  have B0 := (Below.refl w.heap.size w).alloc (Nat.le_refl _) (.cells #[] 39)
  have O0 : OwnT w.heap.size (w.alloc (.cells #[] 39)) (.slice (some ⟨w.heap.size, 0, none⟩) 0 0) [] := World.ownsRow_lit (size := 3) (e := 39) w #[] 0 (Nat.le_refl _) (by decide) rfl
  have H := Lib.hid h
  have HL := Lib.hid h.len
  have HSM : Hid (∀ u ∈ leavesT ts, u.1.size ≤ maxLen ∧ u.2.1.size ≤ maxLen ∧ u.2.2.size ≤ maxLen) := Lib.hid (fun u hu => by
    unfold leavesT at hu
    rcases unionT_mem.1 hu with hu | hu
    · simp at hu
    · obtain ⟨t, ht, rfl⟩ := leafs_mem hu
      exact h.small t ht)
  have HSK : Hid (∀ k, ∀ u ∈ leavesT (ts.take k), u.1.size ≤ maxLen ∧ u.2.1.size ≤ maxLen ∧ u.2.2.size ≤ maxLen) := Lib.hid (fun k u hu => by
    unfold leavesT at hu
    rcases unionT_mem.1 hu with hu | hu
    · simp at hu
    · obtain ⟨t, ht, rfl⟩ := leafs_mem hu
      exact h.small t (List.mem_of_mem_take ht))
  clear h
  go_enter Try.func5, Try.ntmps5
  go_wp2_with fail
  go_loopw [3, 4] (fun l i wr => ∃ (k : Nat) (v : Value), k ≤ len ∧ i = .int .i64 k ∧ v = l ∧ Hid (OwnT w.heap.size wr v (leavesT (ts.take k))) ∧ Below w.heap.size w wr) (fun _ i _ => len - (intOf i).toNat)
  case atStart => exact ⟨0, _, Nat.zero_le _, rfl, rfl, Lib.hid (by simpa [leafs, leavesT, unionT] using O0), B0⟩
  case round =>
    obtain ⟨k, v0, hk, rfl, rfl, hown, hnx⟩ := hrel
    clear O0 B0
    have hk6 : (0 : Int) ≤ (k : Int) := by omega
    by_cases hlt : k < len
    · obtain ⟨b, off, rfl, hb, hl', hm, hts, hcs⟩ := (H.out.next hnx).cells (by omega)
      have ht : ts[k]? = some (ts[k]'(by omega)) := List.getElem?_eq_getElem (by omega)
      have HS : Hid (ts.take (k + 1) = ts.take k ++ [ts[k]'(by omega)]) := Lib.hid (List.take_succ_eq_append_getElem (by omega))
      obtain ⟨c0, c1, c2, c3, ⟨a', n, c, c4, hz⟩, m0, m1, m2⟩ := hcs k _ ht
      generalize ts[k]'(by omega) = t at c0 c1 c2 c3 hz m0 m1 m2 HS
      obtain ⟨⟨t0, t1, t2⟩, r, zs⟩ := t
      simp only at c0 c1 c2 c3 hz m0 m1 m2
      have hk7 : (k : Int) < (len : Int) := by omega
      clear ht hts hcs hm hl' hz m0 m1 m2
      by_cases hr : r = -1
      · subst hr
        have HX : Hid (leavesT (ts.take (k + 1)) = putT (leavesT (ts.take k)) (t0, t1, t2)) := Lib.hid (by unfold leavesT; rw [HS.out, leafs_snoc, if_pos rfl, unionT_snoc])
        obtain ⟨x, y, rfl, i3, p3⟩ := OwnT.plain hown.out (HSK.out k)
        have hle := leaves_len (ts.take k)
        rw [List.length_take] at hle
        have C := specPutAny x _ y _ t0 t1 t2 wr i3 p3 (by omega)
        rw [← HX.out] at C
        obtain ⟨n2, hn2⟩ : ∃ n2, (leavesT (ts.take k)).length = n2 := ⟨_, rfl⟩
        rw [hn2] at C hown ⊢
        have HC := Lib.hid C
        clear C i3 p3 hle hn2 hown HX HS
        go_wp2_with fail
        refine HC.out.mono ?_
        rintro e w4 ⟨v, rfl, o4, hb4⟩
        have O4 := Lib.hid (own_base o4 hnx.size)
        have B4 := hnx.trans (hb4.mono hnx.size)
        clear o4 hb4 hnx HC c0 c1 c2 c3 c4
        go_wp2_with fail
        go_roundw
        case rel => exact ⟨k + 1, _, by omega, by go_num, rfl, O4, B4⟩
        case measure => simp [intOf]; omega
      · have H4 : Hid (OwnT w.heap.size wr v0 (leavesT (ts.take (k + 1)))) := Lib.hid (by
          unfold leavesT
          rw [HS.out, leafs_snoc, if_neg hr, List.append_nil]
          exact hown.out)
        have hr2 : decide (r = -1) = false := decide_eq_false hr
        clear hown HS
        go_wp2_with fail
        go_roundw
        case rel => exact ⟨k + 1, _, by omega, by go_num, rfl, H4, hnx⟩
        case measure => simp [intOf]; omega
    · obtain rfl : k = len := by omega
      have e : ts.take k = ts := List.take_of_length_le (by rw [HL.out]; exact Nat.le_refl _)
      rw [e] at hown
      go_wp2_with fail
      go_ret
      exact ⟨_, rfl, hown.out, hnx⟩
end Go.Proofs.Ytonikgmplgcplaa
/- The exact laws' own copies of numbers and of steps. -/
namespace Go.Proofs.Ytonikgmplgcplaa
open Go.RowKit Go.WideShapes
def intV (z : Int) : Value := .int .i64 z
theorem infoI64 : (Try.prog.info? 2).map (fun i => (i.zero, i.size, i.bytes)) = some (some (.int .i64 0), 1, 8) := by kernel_rfl
theorem infoStep : (Try.prog.info? 41).map (fun i => (i.zero, i.size, i.bytes)) = some (some (.agg #[.string ⟨#[]⟩, .string ⟨#[]⟩, .string ⟨#[]⟩, .int .i64 0, .slice none 0 0]), 5, 80) := by kernel_rfl
/-- The call owns a slice of these numbers. -/
def OwnI (B : Nat) (w : World) (v : Value) (zs : List Int) : Prop := w.ownsRow B 2 1 v zs.length (zs.map intV)
theorem OwnI.is {B : Nat} {w : World} {v : Value} {zs : List Int} (h : OwnI B w v zs) : ∃ a cap, v = .slice a zs.length cap ∧ IsInts w a zs.length cap zs := by
  have h0 := h
  obtain ⟨_, hc⟩ := h
  rcases hc with ⟨rfl, hl⟩ | ⟨g, cap, cur, rfl, _, _, h1, h2, _⟩
  · exact ⟨none, 0, by rw [hl], .inl ⟨rfl, hl, rfl, List.length_eq_zero_iff.1 hl⟩⟩
  · refine ⟨_, cap, rfl, .inr ⟨_, rfl, h1, h2, rfl, fun i z hi => ?_⟩⟩
    have hl : i < zs.length := (List.getElem?_eq_some_iff.1 hi).1
    have k0 := h0.cellAt i (by omega)
    rw [add_plain, Nat.zero_add, k0, List.getElem?_map, hi]
    rfl
theorem OwnI.kept {B : Nat} {w w' : World} {v : Value} {zs : List Int} (h : OwnI B w v zs) (hb : Below w.heap.size w w') : OwnI B w' v zs := World.ownsRow.kept h (grown_of_below hb) (by
  rcases hv : v.ownBlock with _ | i
  · exact .inl rfl
  · exact .inr (by simp))
theorem OwnI.base {B C : Nat} {w : World} {v : Value} {zs : List Int} (h : OwnI B w v zs) (hc : C ≤ B) : OwnI C w v zs := by
  obtain ⟨h1, h2⟩ := h
  refine ⟨h1, ?_⟩
  rcases h2 with h2 | ⟨g, cap, cur, e, hB, r⟩
  · exact .inl h2
  · exact .inr ⟨g, cap, cur, e, Nat.le_trans hc hB, r⟩
theorem OwnI.set {B : Nat} {w : World} {v : Value} {zs : List Int} (h : OwnI B w v zs) {g : Nat} (hg : g < B) (j : Nat) (u : Value) : OwnI B (w.setCell ⟨g, j, none⟩ u) v zs := by
  refine World.ownsRow.kept h (row := some g) ⟨rfl, rfl, rfl, by simp [World.setCell], fun k _ hne => Below.heap_setCell _ _ _ _ (fun e => hne (by rw [e]))⟩ ?_
  rcases hv : v.ownBlock with _ | q
  · exact .inl rfl
  · exact .inr (fun e => by cases e; have := (World.ownsRow.lt h g hv).1; omega)
theorem setI {xs l : List Value} {k : Nat} (a : Value) (h : xs.take k = l) (hl : k < xs.length) : (xs.set k a).take (k + 1) = l ++ [a] := by
  subst h
  rw [List.take_add_one, List.take_set_of_le (Nat.le_refl _), List.getElem?_set_self hl]; rfl
set_option maxRecDepth 100000 in
set_option maxHeartbeats 1600000 in
theorem toInts (a : Option Addr) (len cap : Nat) (zs : List Int) (w : World) (h : IsInts w a len cap zs) (hs : len ≤ 1048576) :
    Calls Try.prog 25 #[.slice a len cap] w fun e w' => ∃ c, e = .returned (.slice (some ⟨w.heap.size, 0, none⟩) len c) ∧ OwnI w.heap.size w' (.slice (some ⟨w.heap.size, 0, none⟩) len c) zs ∧ Below w.heap.size w w' := by
  obtain ⟨i0, hi, hz0, hz1, hz2⟩ := info_parts infoI64
  have HT := Lib.hid h.len
  have H := Lib.hid h
  clear h
  go_enter Try.func25, Try.ntmps25
  go_wp2_with (at_make; refine wpList_make_full _ rfl _ _ 36 rfl w.heap.size 2 i0 _ 1 Try.underlying36 hi hz0 hz1 .i64 .i64 _ _ len rfl rfl rfl rfl ?c1 ?c2 (Nat.le_refl _) ?_)
  case c1 => rw [hz2]; omega
  case c2 => unfold maxLen; omega
  intro w0 hown0 hg0
  have hb0 : Below w.heap.size w w0 := (Below.refl _ _).grown hg0 (Nat.le_refl _) (by simp)
  clear hg0
  go_wp2_with fail
  go_loopw [4] (fun i wr => ∃ k : Nat, k ≤ len ∧ i = .int .i64 k ∧ (∃ xs : List Value, wr.ownsRow w.heap.size 2 1 (.slice (some ⟨w.heap.size, 0, none⟩) len len) len xs ∧ Hid (xs.take k = (zs.take k).map intV)) ∧ Below w.heap.size w wr) (fun i _ => len - (intOf i).toNat)
  case atStart => exact ⟨0, Nat.zero_le _, rfl, ⟨_, hown0, Lib.hid (by simp)⟩, hb0⟩
  case round =>
    obtain ⟨k, hk, rfl, ⟨xs, hown, hx⟩, hnx⟩ := hrel
    have hk6 : (0 : Int) ≤ (k : Int) := by omega
    by_cases hlt : k < len
    · obtain ⟨b, off, rfl, hb, hl, hm, hts, hc⟩ := H.out.cells (by omega)
      have ht : zs[k]? = some zs[k] := List.getElem?_eq_getElem (by omega)
      have HS : Hid (zs.take (k + 1) = zs.take k ++ [zs[k]]) := Lib.hid (List.take_succ_eq_append_getElem (by omega))
      have c0 := hc k _ ht
      rw [← hnx.cell (p := ⟨b, _, none⟩) hb] at c0
      generalize zs[k] = z at c0 HS
      clear ht hts hc hm
      have hlt2 : (k : Int) < (len : Int) := by omega
      have hxl : xs.length = len := by have := hown.1; omega
      have e0 : wr.cell? ⟨w.heap.size, k, none⟩ = some (xs[k]'(by omega)) := by rw [hown.cellAt _ (by omega), List.getElem?_eq_getElem (by omega)]
      have f0 := hown.frozenAt k
      have O1 := (hown.stored k (.int .i64 z)).1
      have HX : Hid ((xs.set k (.int .i64 z)).take (k + 1) = (zs.take (k + 1)).map intV) := Lib.hid (by
        rw [HS.out, List.map_append]; exact setI _ hx.out (by omega))
      have B3 := hnx.setCell (p := ⟨w.heap.size, k, none⟩) (Nat.le_refl _) (.int .i64 z)
      have HXL := Lib.hid hxl
      generalize xs[k]'(by omega) = z0 at e0
      clear hxl
      go_wp2_with fail
      go_roundw
      case rel => exact ⟨k + 1, by omega, by go_num, ⟨_, O1, HX⟩, B3⟩
      case measure => simp [intOf]; omega
    · have HX : Hid (xs = zs.map intV) := Lib.hid (by
        have := hx.out
        have hxl : xs.length = len := by have := hown.1; omega
        rwa [List.take_of_length_le (by omega), List.take_of_length_le (by rw [HT.out]; omega)] at this)
      go_wp2_with fail
      go_ret
      exact ⟨_, rfl, by unfold OwnI; rw [← HX.out, HT.out]; exact hown, hnx⟩
def StepPost (s p o : ByteArray) (r : Int) (zs : List Int) (w : World) (e : Ending) (w' : World) : Prop :=
  ∃ u, e = .returned (.agg #[.string s, .string p, .string o, .int .i64 r, u]) ∧ OwnI w.heap.size w' u zs ∧ Below w.heap.size w w'
theorem Box5.set0 {w : World} {g : Nat} {x y z u v : Value} {T : TypeId} (h : Box5 w g x y z u v T) (q : Value) : Box5 (w.setCell ⟨g, 0, none⟩ q) g q y z u v T := by
  unfold Box5 at h ⊢; simp [World.setCell, Array.getElem?_modify, h]
theorem Box5.set1 {w : World} {g : Nat} {x y z u v : Value} {T : TypeId} (h : Box5 w g x y z u v T) (q : Value) : Box5 (w.setCell ⟨g, 1, none⟩ q) g x q z u v T := by
  unfold Box5 at h ⊢; simp [World.setCell, Array.getElem?_modify, h]
theorem Box5.set2 {w : World} {g : Nat} {x y z u v : Value} {T : TypeId} (h : Box5 w g x y z u v T) (q : Value) : Box5 (w.setCell ⟨g, 2, none⟩ q) g x y q u v T := by
  unfold Box5 at h ⊢; simp [World.setCell, Array.getElem?_modify, h]
theorem Box5.set3 {w : World} {g : Nat} {x y z u v : Value} {T : TypeId} (h : Box5 w g x y z u v T) (q : Value) : Box5 (w.setCell ⟨g, 3, none⟩ q) g x y z q v T := by
  unfold Box5 at h ⊢; simp [World.setCell, Array.getElem?_modify, h]
theorem Box5.far {w : World} {g : Nat} {x y z u v : Value} {T : TypeId} (h : Box5 w g x y z u v T) {a : Addr} (ha : g ≠ a.block) (q : Value) : Box5 (w.setCell a q) g x y z u v T := (Below.heap_setCell w a q g ha).trans h
set_option maxRecDepth 100000 in
set_option maxHeartbeats 1600000 in
theorem toStep (s p o : ByteArray) (r : Int) (a : Option Addr) (len cap : Nat) (zs : List Int) (w : World) (h : IsInts w a len cap zs) (hs : len ≤ 1048576) :
    Calls Try.prog 15 #[.agg #[.string s, .string p, .string o, .int .i64 r, .slice a len cap]] w (StepPost s p o r zs w) := by
  obtain ⟨W, hW⟩ : ∃ W, ((w.alloc (.cells #[.string s, .string p, .string o, .int .i64 r, .slice a len cap] 38)).alloc (.cells #[.string ⟨#[]⟩, .string ⟨#[]⟩, .string ⟨#[]⟩, .int .i64 0, .slice none 0 0] 41)).alloc (.cells #[.string ⟨#[]⟩, .string ⟨#[]⟩, .string ⟨#[]⟩, .int .i64 0, .slice none 0 0] 41) = W := ⟨_, rfl⟩
  have X := ((Box5.new w (.string s) (.string p) (.string o) (.int .i64 r) (.slice a len cap) 38).alloc (.cells #[.string ⟨#[]⟩, .string ⟨#[]⟩, .string ⟨#[]⟩, .int .i64 0, .slice none 0 0] 41)).alloc (.cells #[.string ⟨#[]⟩, .string ⟨#[]⟩, .string ⟨#[]⟩, .int .i64 0, .slice none 0 0] 41)
  have B0 := (((Below.refl w.heap.size w).alloc (Nat.le_refl _) (.cells #[.string s, .string p, .string o, .int .i64 r, .slice a len cap] 38)).alloc (by simp) (.cells #[.string ⟨#[]⟩, .string ⟨#[]⟩, .string ⟨#[]⟩, .int .i64 0, .slice none 0 0] 41)).alloc (by simp; omega) (.cells #[.string ⟨#[]⟩, .string ⟨#[]⟩, .string ⟨#[]⟩, .int .i64 0, .slice none 0 0] 41)
  have Y := (Box5.new (w.alloc (.cells #[.string s, .string p, .string o, .int .i64 r, .slice a len cap] 38)) (.string ⟨#[]⟩) (.string ⟨#[]⟩) (.string ⟨#[]⟩) (.int .i64 0) (.slice none 0 0) 41).alloc (.cells #[.string ⟨#[]⟩, .string ⟨#[]⟩, .string ⟨#[]⟩, .int .i64 0, .slice none 0 0] 41)
  have Z := Box5.new ((w.alloc (.cells #[.string s, .string p, .string o, .int .i64 r, .slice a len cap] 38)).alloc (.cells #[.string ⟨#[]⟩, .string ⟨#[]⟩, .string ⟨#[]⟩, .int .i64 0, .slice none 0 0] 41)) (.string ⟨#[]⟩) (.string ⟨#[]⟩) (.string ⟨#[]⟩) (.int .i64 0) (.slice none 0 0) 41
  have e1 : (w.alloc (.cells #[.string s, .string p, .string o, .int .i64 r, .slice a len cap] 38)).heap.size = w.heap.size + 1 := by simp
  have e2 : ((w.alloc (.cells #[.string s, .string p, .string o, .int .i64 r, .slice a len cap] 38)).alloc (.cells #[.string ⟨#[]⟩, .string ⟨#[]⟩, .string ⟨#[]⟩, .int .i64 0, .slice none 0 0] 41)).heap.size = w.heap.size + 1 + 1 := by simp
  rw [e1] at Y
  rw [e2] at Z
  rw [hW] at X Y Z B0
  have HI := Lib.hid h
  clear e1 e2 h
  obtain ⟨c0, c1, c2, c3, c4⟩ := X.cells
  go_enter Try.func15, Try.ntmps15
  go_wp2_with fail
  clear hW
  refine (toTri s p o _).mono ?_
  rintro e w1 ⟨rfl, hb⟩
  have B1 := B0.trans (hb.mono B0.size)
  have X1 := X.next hb
  have Y1 := Y.next hb
  have Z1 := Z.next hb
  clear hb X Y Z B0 c0 c1 c2 c3 c4
  have B2 := (((B1.setCell (p := ⟨w.heap.size + 1 + 1, 0, none⟩) (by simp; omega) (.string s)).setCell (p := ⟨w.heap.size + 1 + 1, 1, none⟩) (by simp; omega) (.string p)).setCell (p := ⟨w.heap.size + 1 + 1, 2, none⟩) (by simp; omega) (.string o)).setCell (p := ⟨w.heap.size + 1 + 1, 3, none⟩) (by simp; omega) (.int .i64 r)
  have Z2 := (((Z1.set0 (.string s)).set1 (.string p)).set2 (.string o)).set3 (.int .i64 r)
  have Y2 := (((Y1.far (a := ⟨w.heap.size + 1 + 1, 0, none⟩) (by simp) (.string s)).far (a := ⟨w.heap.size + 1 + 1, 1, none⟩) (by simp) (.string p)).far (a := ⟨w.heap.size + 1 + 1, 2, none⟩) (by simp) (.string o)).far (a := ⟨w.heap.size + 1 + 1, 3, none⟩) (by simp) (.int .i64 r)
  obtain ⟨c0, c1, c2, c3, c4⟩ := X1.cells
  obtain ⟨d0, d1, d2, d3, d4⟩ := Z1.cells
  have f0 := Z1.free 0
  have f1 := Z1.free 1
  have f2 := Z1.free 2
  have f3 := Z1.free 3
  clear X1 Y1 Z1
  go_wp2_with fail
  clear c0 c1 c2 c3 c4 d0 d1 d2 d3 d4 f0 f1 f2 f3 B1
  generalize (((w1.setCell ⟨w.heap.size + 1 + 1, 0, none⟩ (.string s)).setCell ⟨w.heap.size + 1 + 1, 1, none⟩ (.string p)).setCell ⟨w.heap.size + 1 + 1, 2, none⟩ (.string o)).setCell ⟨w.heap.size + 1 + 1, 3, none⟩ (.int .i64 r) = W2 at B2 Z2 Y2 ⊢
  refine (toInts a len cap zs W2 (HI.out.next B2) hs).mono ?_
  rintro e w3 ⟨c, rfl, o3, hb⟩
  have B3 := B2.trans (hb.mono B2.size)
  have Z3 := Z2.next hb
  have Y3 := Y2.next hb
  have hz2 := Z2.lt
  clear hb B2 Z2 Y2 HI
  obtain ⟨d0, d1, d2, d3, d4⟩ := Z3.cells
  obtain ⟨k0, k1, k2, k3, k4⟩ := Y3.cells
  have f4 := Z3.free 4
  have q0 := Y3.free 0
  have q1 := Y3.free 1
  have q2 := Y3.free 2
  have q3 := Y3.free 3
  have q4 := Y3.free 4
  have hz := Z3.lt
  have hy := Y3.lt
  clear Z3 Y3
  have O3 := Lib.hid o3
  have hn1 : ¬ w.heap.size + 1 = w.heap.size + 1 + 1 := by omega
  have hn2 : ¬ w.heap.size + 1 + 1 = w.heap.size + 1 := by omega
  clear o3
  go_wp2_with fail
  refine bodyPost_ret (v := .agg #[.string s, .string p, .string o, .int .i64 r, .slice (some ⟨W2.heap.size, 0, none⟩) len c]) (by simp [results, Try.results15, go_sem, *]) rfl ⟨_, rfl, ?_, ?_⟩
  · exact OwnI.base ((((((O3.out.set hz2 4 _).set (by omega) 0 _).set (by omega) 1 _).set (by omega) 2 _).set (by omega) 3 _).set (by omega) 4 _) (by omega)
  · exact (((((B3.setCell (by simp; omega) _).setCell (by simp) _).setCell (by simp) _).setCell (by simp) _).setCell (by simp) _).setCell (by simp) _
end Go.Proofs.Ytonikgmplgcplaa
/- The exact laws' own copy of a slice of steps, and what it owns. -/
namespace Go.Proofs.Ytonikgmplgcplaa
open Go.RowKit Go.WideShapes
theorem tot_mem : ∀ {ts : List StepV} {t : StepV}, t ∈ ts → t.2.2.length ≤ tot ts
  | s :: ts, t, h => by
    have e : tot (s :: ts) = s.2.2.length + tot ts := by simp [tot]
    rcases List.mem_cons.1 h with rfl | h
    · omega
    · have := tot_mem h; omega
def flat5 : List StepV → List Value → List Value
  | t :: ts, u :: us => .string t.1.1 :: .string t.1.2.1 :: .string t.1.2.2 :: .int .i64 t.2.1 :: u :: flat5 ts us
  | _, _ => []
theorem flat5_snoc (t : StepV) (u : Value) : ∀ (ts : List StepV) (us : List Value), us.length = ts.length → flat5 (ts ++ [t]) (us ++ [u]) = flat5 ts us ++ [.string t.1.1, .string t.1.2.1, .string t.1.2.2, .int .i64 t.2.1, u]
  | [], [], _ => rfl
  | [], _ :: _, h => by simp at h
  | _ :: _, [], h => by simp at h
  | s :: ts, v :: us, h => by
    have := flat5_snoc t u ts us (by simpa using h)
    simp only [List.cons_append, flat5, this]
theorem flat5_at : ∀ (ts : List StepV) (us : List Value), us.length = ts.length → ∀ (i : Nat) (t : StepV) (u : Value), ts[i]? = some t → us[i]? = some u →
    (flat5 ts us)[i * 5]? = some (.string t.1.1) ∧ (flat5 ts us)[i * 5 + 1]? = some (.string t.1.2.1) ∧ (flat5 ts us)[i * 5 + 2]? = some (.string t.1.2.2) ∧ (flat5 ts us)[i * 5 + 3]? = some (.int .i64 t.2.1) ∧ (flat5 ts us)[i * 5 + 4]? = some u
  | [], _, _, i, t, u, h, _ => by simp at h
  | _ :: _, [], h, _, _, _, _, _ => by simp at h
  | s :: ts, v :: us, h, i, t, u, ht, hu => by
    cases i with
    | zero => simp at ht hu; subst ht hu; exact ⟨rfl, rfl, rfl, rfl, rfl⟩
    | succ n =>
      have := flat5_at ts us (by simpa using h) n t u (by simpa using ht) (by simpa using hu)
      rw [show (n + 1) * 5 = n * 5 + 5 from by omega]
      exact this
theorem set5 {xs l : List Value} {k : Nat} (a b c d e : Value) (h : xs.take (k * 5) = l) (hl : k * 5 + 4 < xs.length) :
    (((((xs.set (k * 5) a).set (k * 5 + 1) b).set (k * 5 + 2) c).set (k * 5 + 3) d).set (k * 5 + 4) e).take ((k + 1) * 5) = l ++ [a, b, c, d, e] := by
  have h1 := setI a h (by omega)
  have h2 := setI b h1 (by simp; omega)
  have h3 := setI c h2 (by simp; omega)
  have h4 := setI d h3 (by simp; omega)
  have h5 := setI e h4 (by simp; omega)
  rw [show (k + 1) * 5 = k * 5 + 1 + 1 + 1 + 1 + 1 from by omega]
  simpa using h5
/-- The numbers that the steps use, each slice in a block of its own, from B on. -/
def Inn (B : Nat) (w : World) (ts : List StepV) (us : List Value) : Prop :=
  us.length = ts.length ∧ (∀ (i : Nat) (u : Value) (t : StepV), us[i]? = some u → ts[i]? = some t → OwnI B w u t.2.2) ∧ us.Pairwise (fun u v => ∀ j, u.ownBlock = some j → v.ownBlock ≠ some j)
theorem Inn.nil (B : Nat) (w : World) : Inn B w [] [] := ⟨rfl, fun i u t h => by simp at h, .nil⟩
theorem Inn.next {B : Nat} {w w' : World} {ts : List StepV} {us : List Value} (h : Inn B w ts us) (hb : Below w.heap.size w w') : Inn B w' ts us := ⟨h.1, fun i u t hu ht => (h.2.1 i u t hu ht).kept hb, h.2.2⟩
theorem Inn.set {B : Nat} {w : World} {ts : List StepV} {us : List Value} (h : Inn B w ts us) {g : Nat} (hg : g < B) (j : Nat) (q : Value) : Inn B (w.setCell ⟨g, j, none⟩ q) ts us := ⟨h.1, fun i u t hu ht => (h.2.1 i u t hu ht).set hg j q, h.2.2⟩
theorem Inn.snoc {B : Nat} {w : World} {C : Nat} {ts : List StepV} {us : List Value} {t : StepV} {u : Value} (h : Inn B w ts us) (hl : ∀ v ∈ us, ∀ j, v.ownBlock = some j → j < C) (hBC : B ≤ C) (ho : OwnI C w u t.2.2) : Inn B w (ts ++ [t]) (us ++ [u]) := by
  obtain ⟨h1, h2, h3⟩ := h
  refine ⟨by simp [h1], fun i v s hv hs => ?_, List.pairwise_append.2 ⟨h3, List.pairwise_singleton _ _, fun v hv v' hv' j hj e => ?_⟩⟩
  · rcases Nat.lt_or_ge i us.length with g | g
    · rw [List.getElem?_append_left g] at hv
      rw [List.getElem?_append_left (by omega)] at hs
      exact h2 i v s hv hs
    · have hi : i = us.length := by
        have := (List.getElem?_eq_some_iff.1 hv).1
        simp at this; omega
      subst hi
      rw [List.getElem?_append_right (Nat.le_refl _)] at hv
      rw [h1, List.getElem?_append_right (Nat.le_refl _)] at hs
      simp at hv hs
      subst hv hs
      exact ho.base hBC
  · obtain rfl : v' = u := by simpa using hv'
    have := hl v hv j hj
    have := (World.ownsRow.lt ho j e).1
    omega
theorem Inn.lt {B : Nat} {w : World} {ts : List StepV} {us : List Value} (h : Inn B w ts us) : ∀ v ∈ us, ∀ j, v.ownBlock = some j → B ≤ j ∧ j < w.heap.size := by
  intro v hv j hj
  obtain ⟨i, hi⟩ := List.mem_iff_getElem?.1 hv
  have hil := (List.getElem?_eq_some_iff.1 hi).1
  have ht : ts[i]? = some (ts[i]'(by have := h.1; omega)) := List.getElem?_eq_getElem _
  exact World.ownsRow.lt (h.2.1 i v _ hi ht) j hj
/-- The call owns the slice that lies in block B, and what its steps use, behind it. -/
def OwnSt (B : Nat) (w : World) (len : Nat) (ts : List StepV) : Prop := ∃ us, w.ownsRow B 41 5 (.slice (some ⟨B, 0, none⟩) len len) len (flat5 ts us) ∧ Inn (B + 1) w ts us
theorem OwnSt.is {B : Nat} {w : World} {len : Nat} {ts : List StepV} (h : OwnSt B w len ts) (hl : ts.length = len) (hm : ∀ t ∈ ts, t.1.1.size ≤ maxLen ∧ t.1.2.1.size ≤ maxLen ∧ t.1.2.2.size ≤ maxLen) : IsSteps w (some ⟨B, 0, none⟩) len len ts := by
  obtain ⟨us, ho, hi⟩ := h
  have h0 := ho
  obtain ⟨hln, hc⟩ := ho
  rcases hc with ⟨e, _⟩ | ⟨g, cap, cur, e, _, _, h1, h2, _⟩
  · cases e
  · simp only [Value.slice.injEq] at e
    obtain ⟨_, _, rfl⟩ := e
    refine .inr ⟨_, rfl, h1, h2, hl, fun i t ht => ?_⟩
    have hil : i < ts.length := (List.getElem?_eq_some_iff.1 ht).1
    have hu : us[i]? = some (us[i]'(by have := hi.1; omega)) := List.getElem?_eq_getElem _
    obtain ⟨f0, f1, f2, f3, f4⟩ := flat5_at ts us hi.1 i t _ ht hu
    have oi := hi.2.1 i _ t hu ht
    obtain ⟨a', c', ev, ii⟩ := oi.is
    rw [ev] at f4
    have e : ∀ j, (⟨B, 0, none⟩ : Addr).add (5 * i + j) = ⟨B, i * 5 + j, none⟩ := fun j => by rw [add_plain, Nat.zero_add, show 5 * i + j = i * 5 + j from by omega]
    have e0 : (⟨B, 0, none⟩ : Addr).add (5 * i) = ⟨B, i * 5, none⟩ := e 0
    obtain ⟨m0, m1, m2⟩ := hm t (List.mem_of_getElem? ht)
    refine ⟨?_, ?_, ?_, ?_, ⟨a', t.2.2.length, c', ?_, ii⟩, m0, m1, m2⟩
    · rw [e0]; exact (h0.cellAt _ (by omega)).trans f0
    · rw [e]; exact (h0.cellAt _ (by omega)).trans f1
    · rw [e]; exact (h0.cellAt _ (by omega)).trans f2
    · rw [e]; exact (h0.cellAt _ (by omega)).trans f3
    · rw [e]; exact (h0.cellAt _ (by omega)).trans f4
theorem OwnSt.kept {B : Nat} {w w' : World} {len : Nat} {ts : List StepV} (h : OwnSt B w len ts) (hb : Below w.heap.size w w') : OwnSt B w' len ts := by
  obtain ⟨us, ho, hi⟩ := h
  exact ⟨us, ho.kept (grown_of_below hb) (.inr (by simp [Value.ownBlock])), hi.next hb⟩
set_option maxRecDepth 100000 in
set_option maxHeartbeats 1600000 in
theorem toSteps (a : Option Addr) (len cap : Nat) (ts : List StepV) (w : World) (h : IsSteps w a len cap ts) (hs : len + tot ts ≤ 1048576) :
    Calls Try.prog 6 #[.slice a len cap] w fun e w' => e = .returned (.slice (some ⟨w.heap.size, 0, none⟩) len len) ∧ OwnSt w.heap.size w' len ts ∧ Below w.heap.size w w' := by
  obtain ⟨i0, hi, hz0, hz1, hz2⟩ := info_parts infoStep
  have HT := Lib.hid h.len
  have H := Lib.hid h
  have HTOT : Hid (∀ t ∈ ts, t.2.2.length ≤ 1048576) := Lib.hid (fun t ht => by
    have := tot_mem ht
    omega)
  clear h
  go_enter Try.func6, Try.ntmps6
  go_wp2_with (at_make; refine wpList_make_full _ rfl _ _ 26 rfl w.heap.size 41 i0 _ 5 Try.underlying26 hi hz0 hz1 .i64 .i64 _ _ len rfl rfl rfl rfl ?c1 ?c2 (Nat.le_refl _) ?_)
  case c1 => rw [hz2]; omega
  case c2 => unfold maxLen; omega
  intro w0 hown0 hg0
  have hb0 : Below w.heap.size w w0 := (Below.refl _ _).grown hg0 (Nat.le_refl _) (by simp)
  clear hg0
  go_wp2_with fail
  go_loopw [4] (fun i wr => ∃ k : Nat, k ≤ len ∧ i = .int .i64 k ∧ (∃ xs us : List Value, wr.ownsRow w.heap.size 41 5 (.slice (some ⟨w.heap.size, 0, none⟩) len len) len xs ∧ Hid (xs.take (k * 5) = flat5 (ts.take k) us ∧ Inn (w.heap.size + 1) wr (ts.take k) us)) ∧ Below w.heap.size w wr) (fun i _ => len - (intOf i).toNat)
  case atStart => exact ⟨0, Nat.zero_le _, rfl, ⟨_, [], hown0, Lib.hid ⟨by simp [flat5], Inn.nil _ _⟩⟩, hb0⟩
  case round =>
    obtain ⟨k, hk, rfl, ⟨xs, us, hown, hx⟩, hnx⟩ := hrel
    have hk6 : (0 : Int) ≤ (k : Int) := by omega
    by_cases hlt : k < len
    · obtain ⟨b, off, rfl, hb, hl, hm, hts, hc⟩ := (H.out.next hnx).cells (by omega)
      have ht : ts[k]? = some ts[k] := List.getElem?_eq_getElem (by omega)
      have HS : Hid (ts.take (k + 1) = ts.take k ++ [ts[k]]) := Lib.hid (List.take_succ_eq_append_getElem (by omega))
      obtain ⟨c0, c1, c2, c3, ⟨a', n, c, c4, hz⟩, m0, m1, m2⟩ := hc k _ ht
      have hzt := HTOT.out _ (List.getElem_mem (by omega : k < ts.length))
      clear m0 m1 m2
      generalize ts[k] = t at c0 c1 c2 c3 hz HS hzt
      obtain ⟨⟨s, p, o⟩, r, zs⟩ := t
      simp only at c0 c1 c2 c3 hz hzt
      have hn : n ≤ 1048576 := by have := hz.len; omega
      have D := Lib.hid (toStep s p o r a' n c zs wr hz hn)
      have hlt2 : (k : Int) < (len : Int) := by omega
      clear ht hts hc hm hz hl
      go_wp2_with fail
      refine D.out.mono ?_
      rintro e wn ⟨u, rfl, ou, hbn⟩
      have B := hnx.trans (hbn.mono hnx.size)
      have O := hown.kept (grown_of_below hbn) (.inr (by simp [Value.ownBlock]))
      have hgt : w.heap.size < wr.heap.size := (World.ownsRow.lt hown w.heap.size (by simp [Value.ownBlock])).2
      have HIN : Hid (Inn (w.heap.size + 1) wn (ts.take k ++ [((s, p, o), r, zs)]) (us ++ [u])) := Lib.hid (Inn.snoc (hx.out.2.next hbn) (fun v hv j hj => (hx.out.2.lt v hv j hj).2) hgt ou)
      obtain ⟨ua, uc, rfl, _⟩ := ou.is
      clear hbn hown hnx c0 c1 c2 c3 c4 D ou
      have hxl : xs.length = len * 5 := O.1
      have e0 : wn.cell? ⟨w.heap.size, k * 5, none⟩ = some (xs[k * 5]'(by omega)) := by rw [O.cellAt _ (by omega), List.getElem?_eq_getElem (by omega)]
      have e1 : wn.cell? ⟨w.heap.size, k * 5 + 1, none⟩ = some (xs[k * 5 + 1]'(by omega)) := by rw [O.cellAt _ (by omega), List.getElem?_eq_getElem (by omega)]
      have e2 : wn.cell? ⟨w.heap.size, k * 5 + 2, none⟩ = some (xs[k * 5 + 2]'(by omega)) := by rw [O.cellAt _ (by omega), List.getElem?_eq_getElem (by omega)]
      have e3 : wn.cell? ⟨w.heap.size, k * 5 + 3, none⟩ = some (xs[k * 5 + 3]'(by omega)) := by rw [O.cellAt _ (by omega), List.getElem?_eq_getElem (by omega)]
      have e4 : wn.cell? ⟨w.heap.size, k * 5 + 4, none⟩ = some (xs[k * 5 + 4]'(by omega)) := by rw [O.cellAt _ (by omega), List.getElem?_eq_getElem (by omega)]
      have f0 := O.frozenAt (k * 5)
      have f1 := O.frozenAt (k * 5 + 1)
      have f2 := O.frozenAt (k * 5 + 2)
      have f3 := O.frozenAt (k * 5 + 3)
      have f4 := O.frozenAt (k * 5 + 4)
      have O1 := (O.stored (k * 5) (.string s)).1
      have O2 := (O1.stored (k * 5 + 1) (.string p)).1
      have O3 := (O2.stored (k * 5 + 2) (.string o)).1
      have O4 := (O3.stored (k * 5 + 3) (.int .i64 r)).1
      have O5 := (O4.stored (k * 5 + 4) (.slice ua zs.length uc)).1
      have HX : Hid ((((((xs.set (k * 5) (.string s)).set (k * 5 + 1) (.string p)).set (k * 5 + 2) (.string o)).set (k * 5 + 3) (.int .i64 r)).set (k * 5 + 4) (.slice ua zs.length uc)).take ((k + 1) * 5) = flat5 (ts.take (k + 1)) (us ++ [.slice ua zs.length uc])) := Lib.hid (by
        rw [HS.out, flat5_snoc _ _ _ _ hx.out.2.1]; exact set5 _ _ _ _ _ hx.out.1 (by omega))
      have B3 := ((((B.setCell (p := ⟨w.heap.size, k * 5, none⟩) (Nat.le_refl _) (.string s)).setCell (p := ⟨w.heap.size, k * 5 + 1, none⟩) (Nat.le_refl _) (.string p)).setCell (p := ⟨w.heap.size, k * 5 + 2, none⟩) (Nat.le_refl _) (.string o)).setCell (p := ⟨w.heap.size, k * 5 + 3, none⟩) (Nat.le_refl _) (.int .i64 r)).setCell (p := ⟨w.heap.size, k * 5 + 4, none⟩) (Nat.le_refl _) (.slice ua zs.length uc)
      have HI2 := Lib.hid (((((HIN.out.set (Nat.lt_succ_self _) (k * 5) (.string s)).set (Nat.lt_succ_self _) (k * 5 + 1) (.string p)).set (Nat.lt_succ_self _) (k * 5 + 2) (.string o)).set (Nat.lt_succ_self _) (k * 5 + 3) (.int .i64 r)).set (Nat.lt_succ_self _) (k * 5 + 4) (.slice ua zs.length uc))
      rw [← HS.out] at HI2
      generalize xs[k * 5]'(by omega) = z0 at e0
      generalize xs[k * 5 + 1]'(by omega) = z1 at e1
      generalize xs[k * 5 + 2]'(by omega) = z2 at e2
      generalize xs[k * 5 + 3]'(by omega) = z3 at e3
      generalize xs[k * 5 + 4]'(by omega) = z4 at e4
      have O6 := Lib.hid O5
      clear O O1 O2 O3 O4 O5 hxl B HIN
      go_wp2_with fail
      go_roundw
      case rel => exact ⟨k + 1, by omega, by go_num, ⟨_, _, O6.out, Lib.hid ⟨HX.out, HI2.out⟩⟩, B3⟩
      case measure => simp [intOf]; omega
    · obtain rfl : k = len := by omega
      have e : ts.take k = ts := List.take_of_length_le (by rw [HT.out]; exact Nat.le_refl _)
      have HX : Hid (xs = flat5 ts us ∧ Inn (w.heap.size + 1) wr ts us) := Lib.hid (by
        have := hx.out
        have hxl : xs.length = k * 5 := hown.1
        rw [e, List.take_of_length_le (by omega)] at this
        exact this)
      go_wp2_with fail
      go_ret
      exact ⟨rfl, ⟨us, by rw [← HX.out.1]; exact hown, HX.out.2⟩, hnx⟩
end Go.Proofs.Ytonikgmplgcplaa
