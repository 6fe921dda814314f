/- What is drawn to be filled: a row and a pattern; what filling leaves. -/
import Derived.Test.YtapcbhpkbdlinaaDrawR
import Derived.Test.YtapcbhpkbdlinaaDrawQ
import Derived.Test.YtapcbhpkbdlinaaFill3
namespace Go.Proofs.Ytapcbhpkbdlinaa
open Go.RowKit Go.WideShapes
theorem seen_or : ∀ (ts : List Pre2) (x : ByteArray), (∃ t ∈ ts, seen ts x = t.2) ∨ (seen ts x = x ∧ ∀ t ∈ ts, t.1 ≠ x)
  | [], x => .inr ⟨rfl, fun t ht => by cases ht⟩
  | u :: r, x => by
    unfold seen
    by_cases h : u.1 = x
    · rw [if_pos h]; exact .inl ⟨u, List.mem_cons_self .., rfl⟩
    · rw [if_neg h]
      rcases seen_or r x with ⟨t, ht, e⟩ | ⟨e, hn⟩
      · exact .inl ⟨t, List.mem_cons_of_mem _ ht, e⟩
      · refine .inr ⟨e, fun t ht => ?_⟩
        rcases List.mem_cons.1 ht with rfl | ht
        · exact h
        · exact hn t ht
theorem row_pairs {ts : List Pre2} (h : rowOk ts = true) : ∀ t ∈ ts, pairT t = true := by
  unfold rowOk at h
  simp only [Bool.and_eq_true] at h
  exact gUpto_mem h.2
theorem filled_none {ts : List Pre2} (h : rowOk ts = true) (x : ByteArray) : ∀ t ∈ ts, seen ts x ≠ t.1 := by
  intro t ht e
  rcases seen_or ts x with ⟨u, hu, e2⟩ | ⟨e2, hn⟩
  · have h1 := row_pairs h t ht
    have h2 := row_pairs h u hu
    unfold pairT at h1 h2
    simp only [Bool.and_eq_true] at h1 h2
    rw [← e, e2] at h1
    have h3 := h1.1
    have h4 := h2.2
    unfold isVarK at h3
    unfold isValK at h4
    simp only [Bool.or_eq_true, decide_eq_true_eq] at h3 h4
    omega
  · exact hn t ht (by rw [← e, e2])
theorem seen_one {ts : List Pre2} (h : rowOk ts = true) {i : Nat} {t : Pre2} (ht : ts[i]? = some t) : seen ts t.1 = t.2 :=
  seen_at ts t.1 i t ht rfl fun j u hj hu e => by
    have := asc_ok h j i u t hj hu ht
    unfold lessP at this
    rw [e, ltb_irrefl] at this
    cases this
theorem seen_seen {ts : List Pre2} (h : rowOk ts = true) (x : ByteArray) : seen ts (seen ts x) = seen ts x := seen_no ts _ fun t ht e => filled_none h x t ht e.symm
theorem bl_ne {a b : ByteArray} (h : a ≠ b) : (a.toList == b.toList) = false := by
  rw [beq_eq_false_iff_ne, ByteArray.toList_eq, ByteArray.toList_eq]; exact fun e => h (data_inj e)
theorem own_baseW {B C : Nat} {w : World} {v : Value} {ts : List Pre2} (h : OwnP B w v ts) (hb : C ≤ B) : OwnP C w v ts := by
  refine ⟨h.1, h.2.imp id ?_⟩
  rintro ⟨g, c, cur, h1, h2, h3⟩
  exact ⟨g, c, cur, h1, by omega, h3⟩
set_option maxRecDepth 100000 in
set_option maxHeartbeats 800000 in
theorem drawFilled (w : World) (a : Option Addr) (len cap : Nat) (zs : List Int) (hrow : Frame.IsRow .u8 w a len cap zs) :
    Calls Try.prog 36 #[.slice a len cap] w fun e w' => ∃ (v : Value) (ts : List Pre2) (s p o : ByteArray), e = .returned (.tuple #[v, .agg #[.string s, .string p, .string o]]) ∧ SmW ts ∧ s.size ≤ 20 ∧ p.size ≤ 20 ∧ o.size ≤ 20 ∧ OwnP w.heap.size w' v ts ∧ w.grownBy w' none := by
  have R0 := Box.new w (.string ⟨#[]⟩) (.string ⟨#[]⟩) (.string ⟨#[]⟩) 23
  have G0 := World.grownBy_alloc w (.cells #[.string ⟨#[]⟩, .string ⟨#[]⟩, .string ⟨#[]⟩] 23) none
  have hrow' := isRow_grown hrow G0
  obtain ⟨W, hW⟩ : ∃ W, w.alloc (.cells #[.string ⟨#[]⟩, .string ⟨#[]⟩, .string ⟨#[]⟩] 23) = W := ⟨_, rfl⟩
  have hz : W.heap.size = w.heap.size + 1 := by rw [← hW]; simp
  rw [hW] at R0 G0 hrow'
  have HW := Lib.hid hW
  clear hrow hW
  go_enter Try.func36, Try.ntmps36
  go_wp2_with fail
  rw [HW.out]
  refine (rdOpen _ _ _ _ _ hrow').mono ?_
  rintro e w1 ⟨rfl, hr1, hg1⟩
  rw [hz] at hr1
  have R1 := R0.grown hg1 (by simp)
  have G1 := G0.trans hg1
  clear R0 G0 hrow' HW
  have l1 := hr1.2.1
  go_wp2_with fail
  refine (rdRow _ _ _ hr1).mono ?_
  rintro e w2 ⟨v, ts, rfl, hS, hO, hr2, hg2⟩
  have R2 := R1.grown hg2 (by simp)
  have G2 : w.grownBy w2 none := G1.andThen hg2 (by intro j hj; simp at hj; omega)
  have hlt := fun j hj => (World.ownsRow.lt hO j hj).1
  clear R1 G1 hg2 hr1
  go_wp2_with fail
  refine (rdPattern _ _ _ hr2).mono ?_
  rintro e w3 ⟨s, p, o, hs, hp, ho, rfl, hr3, hg3⟩
  have R3 := R2.grown hg3 (by simp)
  have G3 : w.grownBy w3 none := G2.andThen hg3 (by intro j hj; simp at hj; omega)
  have O3 : OwnP w1.heap.size w3 v ts := World.ownsRow.kept hO hg3 (by
    rcases hob : Value.ownBlock v with _ | j
    · exact .inl rfl
    · refine .inr ?_
      have := hlt j hob
      intro e
      simp at e
      omega)
  have HO := Lib.hid O3
  have hbw : w.heap.size < w1.heap.size := by omega
  obtain ⟨d0, d1, d2⟩ := R3.cells
  obtain ⟨k0, k1, k2⟩ := R3.free
  clear hO hg1 hg3 hr2 hr3 R2 G2 O3 hlt
  go_wp2_with fail
  refine bodyPost_ret (v := .tuple #[v, .agg #[.string s, .string p, .string o]]) (by simp [results, Try.results36, go_sem, *]) rfl ⟨v, ts, s, p, o, rfl, hS, hs, hp, ho, ?_, ?_⟩
  · exact own_baseW (own_keepW (g := w.heap.size) (own_keepW (g := w.heap.size) (own_keepW (g := w.heap.size) HO.out hbw (grownBy_set (World.grownBy.refl _ _) rfl _)) hbw (grownBy_set (World.grownBy.refl _ _) rfl _)) hbw (grownBy_set (World.grownBy.refl _ _) rfl _)) (by omega)
  · exact grown_setNew (grown_setNew (grown_setNew G3 (by simp) _) (by simp) _) (by simp) _
end Go.Proofs.Ytapcbhpkbdlinaa
