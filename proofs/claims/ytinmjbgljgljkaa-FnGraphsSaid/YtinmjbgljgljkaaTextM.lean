/- The text of a graph: plain functions. -/
import Derived.Test.YtinmjbgljgljkaaRise
import Derived.Test.YtinmjbgljgljkaaTri2
import Derived.Test.YtinmjbgljgljkaaGraph
import Derived.Test.YtinmjbgljgljkaaBuildB
namespace Go.Proofs.Ytinmjbgljgljkaa
def lineT (t : Tri3) : List UInt8 := triText t.1.data.toList t.2.1.data.toList t.2.2.data.toList ++ [10]
def lines (ts : List Tri3) : List UInt8 := ts.flatMap lineT
def graphTextL (ts : List Tri3) : List UInt8 := if graphOk ts then lines ts else []
theorem lines_snoc (ts : List Tri3) (t : Tri3) : lines (ts ++ [t]) = lines ts ++ lineT t := by unfold lines; rw [List.flatMap_append]; simp
theorem triText_len (s p o : ByteArray) : (triText s.data.toList p.data.toList o.data.toList).length ≤ s.size + p.size + o.size + 4 := by
  unfold triText
  split
  · simp; omega
  · simp
theorem lines_len {ts : List Tri3} (h : Sm ts) : (lines ts).length ≤ ts.length * 7000000 := by
  induction ts with
  | nil => simp [lines]
  | cons t r ih =>
    have ih := ih fun u hu => h u (List.mem_cons_of_mem _ hu)
    have ht := h t (List.mem_cons_self ..)
    have hl := triText_len t.1 t.2.1 t.2.2
    have e : lines (t :: r) = lineT t ++ lines r := by simp [lines]
    have e2 : (lineT t).length = (triText t.1.data.toList t.2.1.data.toList t.2.2.data.toList).length + 1 := by simp [lineT]
    rw [e, List.length_append, List.length_cons, e2]
    omega
theorem graphOk_most {ts : List Tri3} (h : graphOk ts = true) : ts.length ≤ 80 := by
  unfold graphOk at h
  simp only [Bool.and_eq_true, decide_eq_true_eq] at h
  exact h.1
theorem lines_take {ts : List Tri3} (h : Sm ts) (hg : graphOk ts = true) (k : Nat) : (lines (ts.take k)).length ≤ 560000000 := by
  have a := lines_len (ts := ts.take k) fun t ht => h t (List.mem_of_mem_take ht)
  have b := graphOk_most hg
  have c : (ts.take k).length ≤ ts.length := by rw [List.length_take]; omega
  omega
open Go.RowKit Go.WideShapes
set_option maxRecDepth 100000 in
set_option maxHeartbeats 1600000 in
theorem implGraphText (a : Option Addr) (len cap : Nat) (ts : List Tri3) (w : World) (h : IsTris w a len cap ts) (hsm : Sm ts) :
    Calls Try.prog 17 #[.slice a len cap] w fun e w' => e = .returned (.string (bs (graphTextL ts))) ∧ Below w.heap.size w w' := by
  have hlen : len ≤ 9223372036854775807 := by
    rcases h with ⟨_, rfl, _, _⟩ | ⟨_, _, h1, h2, _⟩
    · omega
    · unfold maxLen at h2; omega
  have C := implGraphOk a len cap ts w h hsm
  obtain ⟨q, hq⟩ : ∃ q, graphTextL ts = q := ⟨_, rfl⟩
  rw [hq]
  unfold graphTextL at hq
  cases hg : graphOk ts
  · rw [hg] at C hq
    have D := Lib.hid C
    have HQ := Lib.hid hq
    clear C h hsm hg hq
    go_enter Try.func17, Try.ntmps17
    go_wp2_with fail
    refine D.out.mono ?_
    rintro e w1 ⟨rfl, hb1⟩
    go_wp2_with fail
    go_ret
    exact ⟨by rw [← HQ.out]; rfl, hb1⟩
  · rw [hg] at C hq
    have D := Lib.hid C
    have HQ : Hid (lines ts = q) := Lib.hid hq
    have HL := Lib.hid (lines_take hsm hg)
    have HI := Lib.hid h
    have HM := Lib.hid hsm
    have HT := Lib.hid h.len
    clear C h hsm hg hq
    go_enter Try.func17, Try.ntmps17
    go_wp2_with fail
    refine D.out.mono ?_
    rintro e w1 ⟨rfl, hb1⟩
    have hz := hb1.size
    have N0 := bldNew w1
    have B0 : Below w.heap.size w _ := hb1.alloc hz (.cells #[.pointer none, .slice none 0 0] 59)
    clear D
    go_wp2_with fail
    go_loopw [11] (fun i wr => ∃ k : Nat, k ≤ len ∧ i = .int .i64 k ∧ Hid (Bld w1.heap.size w1.heap.size (lines (ts.take k)) wr) ∧ Below w.heap.size w wr) (fun i _ => len - (intOf i).toNat)
    case atStart => exact ⟨0, Nat.zero_le _, rfl, Lib.hid N0, B0⟩
    case round =>
      obtain ⟨k, hk, rfl, hbd, hnx⟩ := hrel
      have hbl := hbd.out.lt
      by_cases hlt : k < len
      · obtain ⟨b, off, rfl, hb, hl, hm, hts, hc⟩ := HI.out.cells (by omega)
        have ht : ts[k]? = some ts[k] := List.getElem?_eq_getElem (by omega)
        have HK : Hid (ts.take (k + 1) = ts.take k ++ [ts[k]]) := Lib.hid (List.take_succ_eq_append_getElem (by omega))
        obtain ⟨s1, s2, s3⟩ := HM.out ts[k] (List.getElem_mem _)
        obtain ⟨c0, c1, c2, m0, m1, m2⟩ := hc k _ ht
        clear m0 m1 m2
        rw [← hnx.cell (p := ⟨b, _, none⟩) hb] at c0 c1 c2
        generalize ts[k] = t at c0 c1 c2 HK s1 s2 s3
        have HN : Hid (lines (ts.take (k + 1)) = lines (ts.take k) ++ lineT t) := Lib.hid (by rw [HK.out, lines_snoc])
        obtain ⟨l, hll⟩ : ∃ l, lines (ts.take k) = l := ⟨_, rfl⟩
        have hln := HL.out k
        rw [hll] at hbd HN hln
        have T1 := implTripleText t.1 t.2.1 t.2.2 s1 s2 s3
        obtain ⟨x, hx⟩ : ∃ x, bs (triText t.1.data.toList t.2.1.data.toList t.2.2.data.toList) = x := ⟨_, rfl⟩
        have hxs : x.size ≤ 6291460 := by rw [← hx, bs_size]; have := triText_len t.1 t.2.1 t.2.2; omega
        have HX : Hid (lineT t = x.data.toList ++ [10]) := Lib.hid (by rw [← hx, bs_toList]; rfl)
        rw [hx] at T1
        have E := Lib.hid T1
        have T0 := Box.new wr (.string t.1) (.string t.2.1) (.string t.2.2) 33
        have P0 := bldKeep hbd.out (World.grownBy_alloc wr (.cells #[.string t.1, .string t.2.1, .string t.2.2] 33) none)
        have B1 := hnx.alloc hnx.size (.cells #[.string t.1, .string t.2.1, .string t.2.2] 33)
        obtain ⟨e0, e1, e2⟩ := T0.cells
        clear HK ht hts hc hm hll hx T1 hbd
        go_wp2_with fail
        refine (E.out _).mono ?_
        rintro e w2 ⟨rfl, hb2⟩
        have P1 := bldKeep P0 (grown_of_below hb2)
        have B2 := B1.trans (hb2.mono B1.size)
        clear P0 B1 hb2 e0 e1 e2 T0 hnx c0 c1 c2
        have z2 := P1.lt
        have hz1 : w.heap.size ≤ w1.heap.size := hz
        go_wp2_with fail
        refine (bldText w1.heap.size w1.heap.size l x _ P1 (by omega) (by omega)).mono ?_
        rintro e w3 ⟨⟨nn, rfl⟩, P2, hb3, _⟩
        have B3 := B2.trans (hb3.mono hz)
        clear P1 B2 hb3 z2
        have z3 := P2.lt
        go_wp2_with fail
        refine (bldByte w1.heap.size w1.heap.size (l ++ x.data.toList) 10 _ P2 (by rw [List.length_append, size_len]; omega) (by omega)).mono ?_
        rintro e w4 ⟨rfl, P3, hb4⟩
        have B4 := B3.trans (hb4.mono hz)
        clear P2 B3 hb4 z3
        go_wp2_with fail
        go_roundw
        case rel => exact ⟨k + 1, by omega, by go_num, Lib.hid (by rw [HN.out, HX.out, ← List.append_assoc]; exact P3), B4⟩
        case measure => simp [intOf]; omega
      · have HF : Hid (lines (ts.take k) = q) := Lib.hid (by rw [← HQ.out, List.take_of_length_le (by rw [HT.out]; omega)])
        have P := hbd.out
        rw [HF.out] at P
        go_wp2_with fail
        refine (bldString _ _ q _ P (by omega)).mono ?_
        rintro e w2 ⟨rfl, hb2⟩
        have B2 := hnx.trans (hb2.mono hz)
        go_wp2_with fail
        go_ret
        exact ⟨rfl, B2⟩
open Go.RowKit Go.WideShapes
theorem line_text (y x : ByteArray) : y ++ x ++ { data := #[10] } = bs (y.data.toList ++ (x.data.toList ++ [10])) := by
  apply bs_eq
  simp
set_option maxRecDepth 100000 in
set_option maxHeartbeats 1600000 in
theorem specGraphText (a : Option Addr) (len cap : Nat) (ts : List Tri3) (w : World) (h : IsTris w a len cap ts) (hsm : Sm ts) :
    Calls Try.prog 19 #[.slice a len cap] w fun e w' => e = .returned (.string (bs (graphTextL ts))) ∧ Below w.heap.size w w' := by
  have hlen : len ≤ 9223372036854775807 := by
    rcases h with ⟨_, rfl, _, _⟩ | ⟨_, _, h1, h2, _⟩
    · omega
    · unfold maxLen at h2; omega
  have C : ∀ wr, Below w.heap.size w wr → Calls Try.prog 21 #[.slice a len cap] wr fun e w' => e = .returned (.bool (graphOk ts)) ∧ Below wr.heap.size wr w' := fun wr hb => specGraphOk a len cap ts wr (h.next hb) hsm
  obtain ⟨q, hq⟩ : ∃ q, graphTextL ts = q := ⟨_, rfl⟩
  rw [hq]
  unfold graphTextL at hq
  cases hg : graphOk ts
  · rw [hg] at hq
    simp only [hg] at C
    have D := Lib.hid C
    have HQ := Lib.hid hq
    clear C h hsm hg hq
    go_enter Try.func19, Try.ntmps19
    go_wp2_with fail
    refine wp_loop_rounds 1 ?_
    rw [rounds_succ]
    go_wp2_with fail
    refine (D.out _ (Below.refl _ _)).mono ?_
    rintro e w1 ⟨rfl, hb1⟩
    go_wp2_with fail
    go_ret
    exact ⟨by rw [← HQ.out]; rfl, hb1⟩
  · rw [hg] at hq
    simp only [hg] at C
    have D := Lib.hid C
    have HQ : Hid (lines ts = q) := Lib.hid hq
    have HL := Lib.hid (lines_take hsm hg)
    have HI := Lib.hid h
    have HM := Lib.hid hsm
    have HT := Lib.hid h.len
    clear C h hsm hg hq
    go_enter Try.func19, Try.ntmps19
    go_wp2_with fail
    go_loopw [3, 4] (fun v i wr => ∃ k : Nat, k ≤ len ∧ i = .int .i64 k ∧ v = .string (bs (lines (ts.take k))) ∧ Below w.heap.size w wr) (fun _ i _ => len - (intOf i).toNat)
    case atStart => exact ⟨0, Nat.zero_le _, rfl, rfl, Below.refl _ _⟩
    case round =>
      obtain ⟨k, hk, rfl, rfl, hnx⟩ := hrel
      by_cases hlt : k < len
      · obtain ⟨b, off, rfl, hb, hl, hm, hts, hc⟩ := HI.out.cells (by omega)
        have ht : ts[k]? = some ts[k] := List.getElem?_eq_getElem (by omega)
        have HK : Hid (ts.take (k + 1) = ts.take k ++ [ts[k]]) := Lib.hid (List.take_succ_eq_append_getElem (by omega))
        obtain ⟨s1, s2, s3⟩ := HM.out ts[k] (List.getElem_mem _)
        obtain ⟨c0, c1, c2, m0, m1, m2⟩ := hc k _ ht
        clear m0 m1 m2
        generalize ts[k] = t at c0 c1 c2 HK s1 s2 s3
        have HN : Hid (lines (ts.take (k + 1)) = lines (ts.take k) ++ lineT t) := Lib.hid (by rw [HK.out, lines_snoc])
        obtain ⟨y, hy⟩ : ∃ y, bs (lines (ts.take k)) = y := ⟨_, rfl⟩
        have hys : y.size ≤ 560000000 := by rw [← hy, bs_size]; exact HL.out k
        have hyl : y.data.toList = lines (ts.take k) := by rw [← hy, bs_toList]
        rw [hy]
        have T1 := specTripleText t.1 t.2.1 t.2.2 s1 s2 s3
        obtain ⟨x, hx⟩ : ∃ x, bs (triText t.1.data.toList t.2.1.data.toList t.2.2.data.toList) = x := ⟨_, rfl⟩
        have hxs : x.size ≤ 6291460 := by rw [← hx, bs_size]; have := triText_len t.1 t.2.1 t.2.2; omega
        have HR : Hid (y ++ x ++ { data := #[10] } = bs (lines (ts.take (k + 1)))) := Lib.hid (by rw [line_text, HN.out, hyl, ← hx, bs_toList]; rfl)
        rw [hx] at T1
        have E := Lib.hid T1
        clear HK HN ht hts hc hm hyl hy hx T1
        go_wp2_with fail
        refine (D.out _ hnx).mono ?_
        rintro e w1 ⟨rfl, hb1⟩
        have B1 := hnx.trans (hb1.mono hnx.size)
        clear hb1 hnx
        rw [← B1.cell (p := ⟨b, _, none⟩) hb] at c0 c1 c2
        go_wp2_with fail
        refine (E.out _).mono ?_
        rintro e w2 ⟨rfl, hb2⟩
        have B2 := B1.trans (hb2.mono B1.size)
        clear hb2 B1 c0 c1 c2
        go_wp2_with fail
        go_roundw
        case rel => exact ⟨k + 1, by omega, by go_num, by rw [← HR.out], B2⟩
        case measure => simp [intOf]; omega
      · have HF : Hid (lines (ts.take k) = q) := Lib.hid (by rw [← HQ.out, List.take_of_length_le (by rw [HT.out]; omega)])
        go_wp2_with fail
        refine (D.out _ hnx).mono ?_
        rintro e w1 ⟨rfl, hb1⟩
        have B1 := hnx.trans (hb1.mono hnx.size)
        go_wp2_with fail
        go_ret
        exact ⟨by rw [← HF.out]; rfl, B1⟩
end Go.Proofs.Ytinmjbgljgljkaa
