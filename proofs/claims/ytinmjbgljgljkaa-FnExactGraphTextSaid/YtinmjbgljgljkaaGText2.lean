/- The contract of GraphText of the specification. -/
import Derived.Test.YtinmjbgljgljkaaTextM
import Derived.Test.YtinmjbgljgljkaaGraph2
namespace Go.Proofs.Ytinmjbgljgljkaa
open Go.RowKit Go.WideShapes
theorem line_text (y x : ByteArray) : y ++ x ++ { data := #[10] } = bs (y.data.toList ++ (x.data.toList ++ [10])) := by
  apply bs_eq
  simp
set_option maxRecDepth 100000 in
set_option maxHeartbeats 1600000 in
theorem specGraphText (a : Option Addr) (len cap : Nat) (ts : List Tri3) (w : World) (h : IsTris w a len cap ts) (hsm : Sm ts) :
    Calls Try.prog 19 #[.slice a len cap] w fun e w' => e = .returned (.string (bs (graphTextL ts))) ∧ Below w.heap.size w w' := by
  have hlen : len ≤ 9223372036854775807 := by
    rcases h with ⟨_, rfl, _, _⟩ | ⟨_, _, h1, h2, _⟩
    · omega
    · unfold maxLen at h2; omega
  have C : ∀ wr, Below w.heap.size w wr → Calls Try.prog 21 #[.slice a len cap] wr fun e w' => e = .returned (.bool (graphOk ts)) ∧ Below wr.heap.size wr w' := fun wr hb => specGraphOk a len cap ts wr (h.next hb) hsm
  obtain ⟨q, hq⟩ : ∃ q, graphTextL ts = q := ⟨_, rfl⟩
  rw [hq]
  unfold graphTextL at hq
  cases hg : graphOk ts
  · rw [hg] at hq
    simp only [hg] at C
    have D := Lib.hid C
    have HQ := Lib.hid hq
    clear C h hsm hg hq
    go_enter Try.func19, Try.ntmps19
    go_wp2_with fail
    refine wp_loop_rounds 1 ?_
    rw [rounds_succ]
    go_wp2_with fail
    refine (D.out _ (Below.refl _ _)).mono ?_
    rintro e w1 ⟨rfl, hb1⟩
    go_wp2_with fail
    go_ret
    exact ⟨by rw [← HQ.out]; rfl, hb1⟩
  · rw [hg] at hq
    simp only [hg] at C
    have D := Lib.hid C
    have HQ : Hid (lines ts = q) := Lib.hid hq
    have HL := Lib.hid (lines_take hsm hg)
    have HI := Lib.hid h
    have HM := Lib.hid hsm
    have HT := Lib.hid h.len
    clear C h hsm hg hq
    go_enter Try.func19, Try.ntmps19
    go_wp2_with fail
    go_loopw [3, 4] (fun v i wr => ∃ k : Nat, k ≤ len ∧ i = .int .i64 k ∧ v = .string (bs (lines (ts.take k))) ∧ Below w.heap.size w wr) (fun _ i _ => len - (intOf i).toNat)
    case atStart => exact ⟨0, Nat.zero_le _, rfl, rfl, Below.refl _ _⟩
    case round =>
      obtain ⟨k, hk, rfl, rfl, hnx⟩ := hrel
      by_cases hlt : k < len
      · obtain ⟨b, off, rfl, hb, hl, hm, hts, hc⟩ := HI.out.cells (by omega)
        have ht : ts[k]? = some ts[k] := List.getElem?_eq_getElem (by omega)
        have HK : Hid (ts.take (k + 1) = ts.take k ++ [ts[k]]) := Lib.hid (List.take_succ_eq_append_getElem (by omega))
        obtain ⟨s1, s2, s3⟩ := HM.out ts[k] (List.getElem_mem _)
        obtain ⟨c0, c1, c2, m0, m1, m2⟩ := hc k _ ht
        clear m0 m1 m2
        generalize ts[k] = t at c0 c1 c2 HK s1 s2 s3
        have HN : Hid (lines (ts.take (k + 1)) = lines (ts.take k) ++ lineT t) := Lib.hid (by rw [HK.out, lines_snoc])
        obtain ⟨y, hy⟩ : ∃ y, bs (lines (ts.take k)) = y := ⟨_, rfl⟩
        have hys : y.size ≤ 560000000 := by rw [← hy, bs_size]; exact HL.out k
        have hyl : y.data.toList = lines (ts.take k) := by rw [← hy, bs_toList]
        rw [hy]
        have T1 := specTripleText t.1 t.2.1 t.2.2 s1 s2 s3
        obtain ⟨x, hx⟩ : ∃ x, bs (triText t.1.data.toList t.2.1.data.toList t.2.2.data.toList) = x := ⟨_, rfl⟩
        have hxs : x.size ≤ 6291460 := by rw [← hx, bs_size]; have := triText_len t.1 t.2.1 t.2.2; omega
        have HR : Hid (y ++ x ++ { data := #[10] } = bs (lines (ts.take (k + 1)))) := Lib.hid (by rw [line_text, HN.out, hyl, ← hx, bs_toList]; rfl)
        rw [hx] at T1
        have E := Lib.hid T1
        clear HK HN ht hts hc hm hyl hy hx T1
        go_wp2_with fail
        refine (D.out _ hnx).mono ?_
        rintro e w1 ⟨rfl, hb1⟩
        have B1 := hnx.trans (hb1.mono hnx.size)
        clear hb1 hnx
        rw [← B1.cell (p := ⟨b, _, none⟩) hb] at c0 c1 c2
        go_wp2_with fail
        refine (E.out _).mono ?_
        rintro e w2 ⟨rfl, hb2⟩
        have B2 := B1.trans (hb2.mono B1.size)
        clear hb2 B1 c0 c1 c2
        go_wp2_with fail
        go_roundw
        case rel => exact ⟨k + 1, by omega, by go_num, by rw [← HR.out], B2⟩
        case measure => simp [intOf]; omega
      · have HF : Hid (lines (ts.take k) = q) := Lib.hid (by rw [← HQ.out, List.take_of_length_le (by rw [HT.out]; omega)])
        go_wp2_with fail
        refine (D.out _ hnx).mono ?_
        rintro e w1 ⟨rfl, hb1⟩
        have B1 := hnx.trans (hb1.mono hnx.size)
        go_wp2_with fail
        go_ret
        exact ⟨by rw [← HF.out]; rfl, B1⟩
end Go.Proofs.Ytinmjbgljgljkaa
