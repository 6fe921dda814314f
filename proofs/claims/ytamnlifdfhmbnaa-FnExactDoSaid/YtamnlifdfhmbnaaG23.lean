/- What the exact law of Do needs of its contracts. -/
import Derived.Test.YtamnlifdfhmbnaaG22
import Derived.Test.YtamnlifdfhmbnaaG02
namespace Go.Proofs.Ytamnlifdfhmbnaa
open Go.RowKit Go.WideShapes
theorem cells_set3 {g : Nat} {a b c : Value} {T : TypeId} {W : World} (h : Holds g (g + 1) W (Cells g #[a, b, c] T)) (x y z : Value) : Holds g (g + 1) (((W.setCell ⟨g, 0, none⟩ x).setCell ⟨g, 1, none⟩ y).setCell ⟨g, 2, none⟩ z) (Cells g #[x, y, z] T) :=
  ⟨cells_lives _ _ _, by rw [size_s3]; exact h.le, by have := h.now; unfold Cells at this ⊢; simp [World.setCell, Array.getElem?_modify, this]⟩
theorem exSzDop (r : Int) (s p o : ByteArray) (w : World) (hs : s.size ≤ maxLen) (hp : p.size ≤ maxLen) (ho : o.size ≤ maxLen) (left : Int) (h0 : 0 ≤ left) (h1 : left ≤ 1048576) :
    Calls Try.prog 28 #[.agg #[.int .i64 r, .string s, .string p, .string o], .int .i64 left] w fun e w' => ∃ n : Int, e = .returned (.int .i64 n) ∧ (n = -1 ∨ (0 ≤ n ∧ n ≤ left ∧ s.size + p.size + o.size ≤ 1048576)) ∧ Below w.heap.size w w' := by
  unfold maxLen at hs hp ho
  refine (szDop r s p o left h0 h1 (by omega) (by omega) (by omega) w).mono ?_
  rintro e w' ⟨rfl, hb⟩
  refine ⟨_, rfl, ?_, hb⟩
  by_cases h : (s.size : Int) + p.size + o.size ≤ left
  · rw [szT_yes h]; right; omega
  · rw [szT_no h]; left; rfl
theorem dk_shape2 {l s : List Pre2} {o : List OpV} {c : Int} {w w' : World} {e : Ending} {N1 N2 N3 : Nat} (h : DkPost2 l s o c w e w') (h1 : l.length = N1) (h2 : s.length = N2) (h3 : o.length = N3) :
    ∃ x0 y0 x1 y1 x2 y2, e = .returned (.tuple #[.agg #[.slice x0 N1 y0, .slice x1 N2 y1, .slice x2 N3 y2], .int .i64 c]) ∧ Holds w.heap.size w'.heap.size w' (OwnDk w.heap.size w'.heap.size (.slice x0 N1 y0) (.slice x1 N2 y1) (.slice x2 N3 y2) l s o) ∧ Below w.heap.size w w' := by
  subst h1 h2 h3; exact h
theorem do_most (l s : List Pre2) (o : List OpV) (op : OpV) {n : Nat} (hs : s.length = n) (hl : SmAllPrFi l) (hsm : SmAllPrFi s) (ho : SmAllOp o) (m1 : op.2.1.size ≤ maxLen) (m2 : op.2.2.1.size ≤ maxLen) (m3 : op.2.2.2.size ≤ 1048576) (hn : n ≤ 1048576) :
    ((doL l s o op).length ≤ 1048576 ∧ (doS l s o).length ≤ 1048576 ∧ (doO l s o op).length ≤ 1048576) ∧ SmAllPrFi (doL l s o op) ∧ SmAllPrFi (doS l s o) ∧ SmAllOp (doO l s o op) := by
  unfold doL doS doO actL actO
  by_cases hd : diskOk l s o = true
  · rw [if_pos hd, if_pos hd, if_pos hd]
    obtain ⟨_, hol, _, hfl⟩ := diskOk_parts hd
    have hl4 := fitsF_iff.1 (filesOk_iff.1 hfl).2.2
    have hd1 := doF_len l op
    have hd2 := doF_tot l op
    by_cases hc : codeD l o op = 0
    · rw [if_pos hc, if_pos hc]
      refine ⟨⟨by omega, by omega, by rw [List.length_append, List.length_singleton]; omega⟩, doF_small (fun r hr => (hl r hr).1) m1 m2 (by unfold maxLen; omega), hsm, fun t ht => ?_⟩
      rcases List.mem_append.1 ht with h | h
      · exact ho t h
      · rw [List.mem_singleton.1 h]; exact ⟨m1, m2, by unfold maxLen; omega⟩
    · rw [if_neg hc, if_neg hc]; exact ⟨⟨by omega, by omega, by omega⟩, hl, hsm, ho⟩
  · rw [if_neg hd, if_neg hd, if_neg hd]
    exact ⟨⟨by simp, by simp, by simp⟩, (fun t ht => by cases ht), (fun t ht => by cases ht), (fun t ht => by cases ht)⟩
end Go.Proofs.Ytamnlifdfhmbnaa
