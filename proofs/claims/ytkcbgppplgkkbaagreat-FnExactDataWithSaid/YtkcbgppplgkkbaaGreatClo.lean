/- A copy of a slice of triples: the program's and the specification's way. -/
import Derived.Test.YtkcbgppplgkkbaaGreatExK
import Derived.Test.YtkcbgppplgkkbaaGreatFlat
import Derived.Test.YtkcbgppplgkkbaaGreatMarkO
import Derived.Laws.AppendOwnNone
import Derived.Lib.SliceRun
import Derived.Maps.AppendAt
import Derived.Deep.RegionHeld3
namespace Go.Proofs.YtkcbgppplgkkbaaGreat
open Go.RowKit Go.WideShapes Go.Maps
theorem own_emptyN {g : Nat} {w : World} (h : Cells g #[] 31 w) : OwnT g w (.slice (some ⟨g, 0, none⟩) 0 0) [] := ⟨rfl, .inr ⟨g, 0, #[], rfl, Nat.le_refl _, h, Nat.le_refl _, by unfold maxLen; omega, rfl, rfl⟩⟩
theorem ownC_atN {B j : Nat} {w : World} {v : Value} {ts : List Tri3} (h : OwnT B w v ts) (hv : v.ownBlock = some j) : Holds j (j + 1) w (OwnC j (j + 1) v ts) := by
  have hlt := (World.ownsRow.lt h j hv).2
  refine ⟨ownC_lives, hlt, ?_, fun i hi => by rw [hv] at hi; cases hi; exact Nat.lt_succ_self _⟩
  obtain ⟨h1, h2⟩ := h
  refine ⟨h1, ?_⟩
  rcases h2 with h2 | ⟨g, cap, cur, e, _, r⟩
  · exact .inl h2
  · subst e
    cases hv
    exact .inr ⟨g, cap, cur, rfl, Nat.le_refl _, r⟩
/-- 'append([]T{}, x...)' at a step of a region that draws its order. -/
theorem upon_copyN {o : Oper} {a : Act} {w : World} {Q : Exit → Act → World → Prop} {K : Act → World → Prop} (s x : Operand)
    (ho : o.op = .call { callee := .builtin .append, args := #[s, x], argTypes := #[42, 42] }) (g : Nat) (hs : a.eval s = .slice (some ⟨g, 0, none⟩) 0 0) (hA : Cells g #[] 31 w)
    (ad : Option Addr) (n c : Nat) (ts : List Tri3) (hx : a.eval x = .slice ad n c) (h : IsTris w ad n c ts) (hl : n ≤ 1048576)
    (k : ∀ (v' : Value) (w' : World) (j : Nat), j = g ∨ j = w.heap.size → v'.ownBlock = some j → Holds j (j + 1) w' (OwnC j (j + 1) v' ts) → Turn g (g + 1) w w' → K (a.put o.dst v') w') : Oper.wp Tryz.prog o a w K Q := by
  obtain ⟨i0, hi, hz0, hz1, hz2⟩ := info_parts infoTri
  have O0 := own_emptyN hA
  have hg : g < w.heap.size := (World.ownsRow.lt O0 g rfl).2
  rcases h with ⟨rfl, rfl, rfl, rfl⟩ | ⟨y, rfl, h1, h2, h3, h4⟩
  · have hrun := run_append_owned_none (P := Tryz.prog) (w := w) g 42 o.type 31 i0 3 Tryz.underlying42 hi _ 0 _ O0
    unfold Oper.wp
    simp [execOp, ho, resolve, invoke, builtin, hs, hx, hrun, Result.andThen]
    exact k _ _ g (.inl rfl) rfl (ownC_atN O0 rfl) ⟨rfl, rfl, rfl, Nat.le_refl _, fun _ _ _ => rfl⟩
  · have F : ∀ (j : Nat) (u : Value), (flat ts)[j]? = some u → w.cell? (y.add j) = some u := by
      intro j u hu
      have hj : j < ts.length * 3 := by rw [← flat_len]; exact (List.getElem?_eq_some_iff.1 hu).1
      have hk : j / 3 < ts.length := by omega
      obtain ⟨f0, f1, f2⟩ := flat_at ts (j / 3) _ (List.getElem?_eq_getElem hk)
      obtain ⟨c0, c1, c2, _⟩ := h4 (j / 3) _ (List.getElem?_eq_getElem hk)
      obtain e | e | e : j = 3 * (j / 3) ∨ j = 3 * (j / 3) + 1 ∨ j = 3 * (j / 3) + 2 := by omega
      · rw [e] at hu ⊢; rw [Nat.mul_comm] at hu; rw [c0, ← hu, f0]
      · rw [e] at hu ⊢; rw [Nat.mul_comm] at hu; rw [c1, ← hu, f1]
      · rw [e] at hu ⊢; rw [Nat.mul_comm] at hu; rw [c2, ← hu, f2]
    obtain ⟨v', w', hr, ho1, hg1, _, hat⟩ := run_append_own_at (P := Tryz.prog) (w := w) g 42 o.type 31 i0 (.agg #[.string ⟨#[]⟩, .string ⟨#[]⟩, .string ⟨#[]⟩]) 3 48 Tryz.underlying42 hi hz0 hz1 hz2 rfl (by decide) _ 0 _ O0 y n c (flat ts) (by rw [flat_len, h3]) F (flat_one _) (by unfold maxLen; omega) (by omega) (by omega)
    have O1 : OwnT g w' v' ts := by unfold OwnT; rw [h3]; simpa [show flat ([] : List Tri3) = [] from rfl] using ho1
    unfold Oper.wp
    simp [execOp, ho, resolve, invoke, builtin, hs, hx, hr, Result.andThen]
    have T : Turn g (g + 1) w w' := .of_grown hg1 (fun j hj => by simp [Value.ownBlock] at hj; omega)
    rcases hat with e | e
    · exact k _ _ g (.inl rfl) e (ownC_atN O1 e) T
    · exact k _ _ w.heap.size (.inr rfl) e (ownC_atN O1 e) T
theorem wpList_copyN {ops : Array Oper} {rest : List Oper} {o : Oper} {a : Act} {w : World} {Q : Exit → Act → World → Prop} (hgd : o.guard = none) (s x : Operand)
    (ho : o.op = .call { callee := .builtin .append, args := #[s, x], argTypes := #[42, 42] }) (g : Nat) (hs : a.eval s = .slice (some ⟨g, 0, none⟩) 0 0) (hA : Cells g #[] 31 w)
    (ad : Option Addr) (n c : Nat) (ts : List Tri3) (hx : a.eval x = .slice ad n c) (h : IsTris w ad n c ts) (hl : n ≤ 1048576)
    (k : ∀ (v' : Value) (w' : World) (j : Nat), Hid (j = g ∨ j = w.heap.size) → Holds j (j + 1) w' (OwnC j (j + 1) v' ts) → Turn g (g + 1) w w' → wpList Tryz.prog ops Q rest (a.put o.dst v') w') : wpList Tryz.prog ops Q (o :: rest) a w :=
  wpList_plain hgd fun _ hK => upon_copyN s x ho g hs hA ad n c ts hx h hl fun v' w' j h1 _ h3 h4 => hK _ _ (k v' w' j (Lib.hid h1) h3 h4)
set_option maxRecDepth 100000 in
set_option maxHeartbeats 1600000 in
theorem implCloneN (a : Option Addr) (len cap : Nat) (ts : List Tri3) (w : World) (h : IsTris w a len cap ts) (hl : len ≤ 1048576) :
    Calls Tryz.prog 42 #[.slice a len cap] w fun e w' => ∃ v, e = .returned v ∧ OwnT w.heap.size w' v ts ∧ Below w.heap.size w w' := by
  obtain ⟨i0, hi, hz0, hz1, hz2⟩ := info_parts infoTri
  have q22 : ∀ (w : World) (a : Option Addr) (n c n' c' : Nat), (binOp .eql 42 (.slice a n c) (.slice none n' c')).run Tryz.prog w = .ok (.bool a.isNone) w := fun w a n c n' c' => Lib.run_eql_slice_nil w _ _ a n c n' c' Tryz.underlying42
  rcases h with ⟨rfl, rfl, rfl, rfl⟩ | ⟨x, rfl, h1, h2, h3, h4⟩
  · go_enter Tryz.func42, Tryz.ntmps42
    go_wp2_with fail
    go_ret
    exact ⟨_, rfl, World.ownsRow_nil .., Below.refl _ _⟩
  have O0 : OwnT w.heap.size (w.alloc (.cells #[] 31)) (.slice (some ⟨w.heap.size, 0, none⟩) 0 0) [] := World.ownsRow_lit (size := 3) (e := 31) w #[] 0 (Nat.le_refl _) (by decide) rfl
  have BA := (Below.refl w.heap.size w).alloc (Nat.le_refl _) (.cells #[] 31)
  have F : ∀ (j : Nat) (u : Value), (flat ts)[j]? = some u → (w.alloc (.cells #[] 31)).cell? (x.add j) = some u := by
    intro j u hu
    have hj : j < ts.length * 3 := by rw [← flat_len]; exact (List.getElem?_eq_some_iff.1 hu).1
    have hk : j / 3 < ts.length := by omega
    obtain ⟨f0, f1, f2⟩ := flat_at ts (j / 3) _ (List.getElem?_eq_getElem hk)
    obtain ⟨c0, c1, c2, _⟩ := h4 (j / 3) _ (List.getElem?_eq_getElem hk)
    have hc : w.cell? (x.add j) = some u := by
      obtain e | e | e : j = 3 * (j / 3) ∨ j = 3 * (j / 3) + 1 ∨ j = 3 * (j / 3) + 2 := by omega
      · rw [e] at hu ⊢; rw [Nat.mul_comm] at hu; rw [c0, ← hu, f0]
      · rw [e] at hu ⊢; rw [Nat.mul_comm] at hu; rw [c1, ← hu, f1]
      · rw [e] at hu ⊢; rw [Nat.mul_comm] at hu; rw [c2, ← hu, f2]
    exact Lib.cell?_alloc_some _ hc
  have HL := Lib.hid h3
  have HF := Lib.hid F
  have HO := Lib.hid O0
  clear h4 F O0 h1 h2 h3
  go_enter Tryz.func42, Tryz.ntmps42
  go_wp2_with (at_builtin; refine wpList_append_own _ rfl _ _ 42 rfl w.heap.size 31 i0 (.agg #[.string ⟨#[]⟩, .string ⟨#[]⟩, .string ⟨#[]⟩]) 3 48 Tryz.underlying42 hi hz0 hz1 hz2 rfl (by decide) _ _ _ rfl HO.out x len _ (flat ts) rfl (by rw [flat_len, HL.out]) HF.out (fun v hv => by unfold flat at hv; obtain ⟨t, _, h⟩ := List.mem_flatMap.1 hv; simp at h; rcases h with rfl | rfl | rfl <;> rfl) ?h63a ?h48a ?hbsa ?_)
  case h63a => rw [List.length_nil]; unfold maxLen; omega
  case h48a => rw [List.length_nil]; omega
  case hbsa => simp only [World.size_alloc]; omega
  intro v1 w1 hown1 hg1 _
  have O1 : OwnT w.heap.size w1 v1 ts := by unfold OwnT; rw [HL.out]; simpa [show flat ([] : List Tri3) = [] from rfl] using hown1
  have B1 : Below w.heap.size w w1 := BA.grown hg1 BA.size (fun j hj => by simp [Value.ownBlock] at hj; omega)
  have HO1 := Lib.hid O1
  clear hown1 hg1 HO HF O1
  go_wp2_with fail
  go_ret
  exact ⟨_, rfl, HO1.out, B1⟩
end Go.Proofs.YtkcbgppplgkkbaaGreat
