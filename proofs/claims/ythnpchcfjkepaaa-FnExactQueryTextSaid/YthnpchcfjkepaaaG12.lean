/- A slice's cells, one by one: its front and its back. -/
import Derived.Test.YthnpchcfjkepaaaG03
import Derived.Test.YthnpchcfjkepaaaG01
import Derived.Test.YthnpchcfjkepaaaG10
import Derived.Test.YthnpchcfjkepaaaG09
import Derived.Laws.AppendOwnNone
import Derived.Lib.SliceRun
import Derived.Maps.AppendAt
import Derived.Deep.RegionHeld3
import Derived.Test.YthnpchcfjkepaaaG11
import Derived.Test.YthnpchcfjkepaaaG08
import Derived.Deep.RegionWith
namespace Go.Proofs.Ythnpchcfjkepaaa
open Go.RowKit Go.WideShapes
theorem flat_append (a b : List Tri3) : flat (a ++ b) = flat a ++ flat b := by simp [flat]
theorem flat_one (a : List Tri3) : ∀ u ∈ flat a, u.oneCell' = true := by
  intro u hu
  unfold flat at hu
  obtain ⟨t, _, hu⟩ := List.mem_flatMap.1 hu
  simp only [List.mem_cons, List.not_mem_nil, or_false] at hu
  rcases hu with rfl | rfl | rfl <;> rfl
theorem flat_split (ts : List Tri3) (k : Nat) : flat ts = flat (ts.take k) ++ flat (ts.drop k) := by rw [← flat_append, List.take_append_drop]
/-- A slice's cells, one by one. -/
theorem IsTris.flatAt {w : World} {b off len cap : Nat} {ts : List Tri3} (h : IsTris w (some ⟨b, off, none⟩) len cap ts) (j : Nat) (u : Value) (hj : (flat ts)[j]? = some u) : w.cell? ⟨b, off + j, none⟩ = some u := by
  have hl := h.len
  have hjl : j < ts.length * 3 := by rw [← flat_len]; exact (List.getElem?_eq_some_iff.1 hj).1
  rcases h with ⟨h, _⟩ | ⟨x, hx, h1, h2, h3, h4⟩
  · cases h
  · cases hx
    obtain ⟨q, r, hr, rfl⟩ : ∃ q r, r < 3 ∧ j = q * 3 + r := ⟨j / 3, j % 3, by omega, by omega⟩
    have hq : q < ts.length := by omega
    have e := List.getElem?_eq_getElem hq
    obtain ⟨c0, c1, c2, _⟩ := h4 q _ e
    rw [add_plain] at c0 c1 c2
    obtain ⟨f0, f1, f2⟩ := flat_at ts q _ e
    have hm : r = 0 ∨ r = 1 ∨ r = 2 := by omega
    rcases hm with rfl | rfl | rfl
    · rw [Nat.add_zero, f0] at hj; rw [← hj, ← c0, Nat.mul_comm 3 q]; rfl
    · rw [f1] at hj; rw [← hj, ← c1, Nat.mul_comm 3 q]
    · rw [f2] at hj; rw [← hj, ← c2, Nat.mul_comm 3 q]
theorem IsTris.front {w : World} {b off len cap : Nat} {ts : List Tri3} (h : IsTris w (some ⟨b, off, none⟩) len cap ts) (k : Nat) : ∀ (j : Nat) (u : Value), (flat (ts.take k))[j]? = some u → w.cell? ((⟨b, off, none⟩ : Addr).add j) = some u := by
  intro j u hj
  rw [add_plain]
  refine h.flatAt j u ?_
  rw [flat_split ts k, List.getElem?_append_left (List.getElem?_eq_some_iff.1 hj).1]
  exact hj
theorem IsTris.back {w : World} {b off len cap : Nat} {ts : List Tri3} (h : IsTris w (some ⟨b, off, none⟩) len cap ts) (k : Nat) (hk : k ≤ ts.length) : ∀ (j : Nat) (u : Value), (flat (ts.drop k))[j]? = some u → w.cell? ((⟨b, off + k * 3, none⟩ : Addr).add j) = some u := by
  intro j u hj
  rw [add_plain, Nat.add_assoc]
  refine h.flatAt (k * 3 + j) u ?_
  have e : (flat (ts.take k)).length = k * 3 := by rw [flat_len, List.length_take, Nat.min_eq_left hk]
  rw [flat_split ts k, List.getElem?_append_right (by omega), e, Nat.add_sub_cancel_left]
  exact hj
theorem tris_news {w : World} {x : Addr} {ts : List Tri3} (h4 : ∀ (i : Nat) (t : Tri3), ts[i]? = some t → TriAt w x i t) (j : Nat) (u : Value) (hj : (flat ts)[j]? = some u) : w.cell? (x.add j) = some u := by
  have hjl : j < ts.length * 3 := by rw [← flat_len]; exact (List.getElem?_eq_some_iff.1 hj).1
  obtain ⟨q, r, hr, rfl⟩ : ∃ q r, r < 3 ∧ j = q * 3 + r := ⟨j / 3, j % 3, by omega, by omega⟩
  have e := List.getElem?_eq_getElem (show q < ts.length by omega)
  obtain ⟨c0, c1, c2, _⟩ := h4 q _ e
  obtain ⟨f0, f1, f2⟩ := flat_at ts q _ e
  have hm : r = 0 ∨ r = 1 ∨ r = 2 := by omega
  rcases hm with rfl | rfl | rfl
  · rw [Nat.add_zero, f0] at hj; rw [← hj, ← c0, Nat.mul_comm 3 q]; rfl
  · rw [f1] at hj; rw [← hj, ← c1, Nat.mul_comm 3 q]
  · rw [f2] at hj; rw [← hj, ← c2, Nat.mul_comm 3 q]
theorem own_some {B : Nat} {w : World} {v : Value} {ts : List Tri3} (h : OwnT B w v ts) (h0 : 0 < ts.length) : ∃ g c, v = .slice (some ⟨g, 0, none⟩) ts.length c := by
  rcases h.2 with ⟨_, e⟩ | ⟨g, c, cur, rfl, _⟩
  · omega
  · exact ⟨g, c, rfl⟩
end Go.Proofs.Ythnpchcfjkepaaa
/- A copy of a slice of triples: the program's and the specification's way. -/
namespace Go.Proofs.Ythnpchcfjkepaaa
open Go.RowKit Go.WideShapes Go.Maps
theorem own_emptyN {g : Nat} {w : World} (h : Cells g #[] 34 w) : OwnT g w (.slice (some ⟨g, 0, none⟩) 0 0) [] := ⟨rfl, .inr ⟨g, 0, #[], rfl, Nat.le_refl _, h, Nat.le_refl _, by unfold maxLen; omega, rfl, rfl⟩⟩
theorem ownC_atN {B j : Nat} {w : World} {v : Value} {ts : List Tri3} (h : OwnT B w v ts) (hv : v.ownBlock = some j) : Holds j (j + 1) w (OwnC j (j + 1) v ts) := by
  have hlt := (World.ownsRow.lt h j hv).2
  refine ⟨ownC_lives, hlt, ?_, fun i hi => by rw [hv] at hi; cases hi; exact Nat.lt_succ_self _⟩
  obtain ⟨h1, h2⟩ := h
  refine ⟨h1, ?_⟩
  rcases h2 with h2 | ⟨g, cap, cur, e, _, r⟩
  · exact .inl h2
  · subst e
    cases hv
    exact .inr ⟨g, cap, cur, rfl, Nat.le_refl _, r⟩
/-- 'append([]T{}, x...)' at a step of a region that draws its order. -/
theorem upon_copyN {o : Oper} {a : Act} {w : World} {Q : Exit → Act → World → Prop} {K : Act → World → Prop} (s x : Operand)
    (ho : o.op = .call { callee := .builtin .append, args := #[s, x], argTypes := #[26, 26] }) (g : Nat) (hs : a.eval s = .slice (some ⟨g, 0, none⟩) 0 0) (hA : Cells g #[] 34 w)
    (ad : Option Addr) (n c : Nat) (ts : List Tri3) (hx : a.eval x = .slice ad n c) (h : IsTris w ad n c ts) (hl : n ≤ 1048576)
    (k : ∀ (v' : Value) (w' : World) (j : Nat), j = g ∨ j = w.heap.size → v'.ownBlock = some j → Holds j (j + 1) w' (OwnC j (j + 1) v' ts) → Turn g (g + 1) w w' → K (a.put o.dst v') w') : Oper.wp Try.prog o a w K Q := by
  obtain ⟨i0, hi, hz0, hz1, hz2⟩ := info_parts infoTri
  have O0 := own_emptyN hA
  have hg : g < w.heap.size := (World.ownsRow.lt O0 g rfl).2
  rcases h with ⟨rfl, rfl, rfl, rfl⟩ | ⟨y, rfl, h1, h2, h3, h4⟩
  · have hrun := run_append_owned_none (P := Try.prog) (w := w) g 26 o.type 34 i0 3 Try.underlying26 hi _ 0 _ O0
    unfold Oper.wp
    simp [execOp, ho, resolve, invoke, builtin, hs, hx, hrun, Result.andThen]
    exact k _ _ g (.inl rfl) rfl (ownC_atN O0 rfl) ⟨rfl, rfl, rfl, Nat.le_refl _, fun _ _ _ => rfl⟩
  · have F : ∀ (j : Nat) (u : Value), (flat ts)[j]? = some u → w.cell? (y.add j) = some u := by
      intro j u hu
      have hj : j < ts.length * 3 := by rw [← flat_len]; exact (List.getElem?_eq_some_iff.1 hu).1
      have hk : j / 3 < ts.length := by omega
      obtain ⟨f0, f1, f2⟩ := flat_at ts (j / 3) _ (List.getElem?_eq_getElem hk)
      obtain ⟨c0, c1, c2, _⟩ := h4 (j / 3) _ (List.getElem?_eq_getElem hk)
      obtain e | e | e : j = 3 * (j / 3) ∨ j = 3 * (j / 3) + 1 ∨ j = 3 * (j / 3) + 2 := by omega
      · rw [e] at hu ⊢; rw [Nat.mul_comm] at hu; rw [c0, ← hu, f0]
      · rw [e] at hu ⊢; rw [Nat.mul_comm] at hu; rw [c1, ← hu, f1]
      · rw [e] at hu ⊢; rw [Nat.mul_comm] at hu; rw [c2, ← hu, f2]
    obtain ⟨v', w', hr, ho1, hg1, _, hat⟩ := run_append_own_at (P := Try.prog) (w := w) g 26 o.type 34 i0 (.agg #[.string ⟨#[]⟩, .string ⟨#[]⟩, .string ⟨#[]⟩]) 3 48 Try.underlying26 hi hz0 hz1 hz2 rfl (by decide) _ 0 _ O0 y n c (flat ts) (by rw [flat_len, h3]) F (flat_one _) (by unfold maxLen; omega) (by omega) (by omega)
    have O1 : OwnT g w' v' ts := by unfold OwnT; rw [h3]; simpa [show flat ([] : List Tri3) = [] from rfl] using ho1
    unfold Oper.wp
    simp [execOp, ho, resolve, invoke, builtin, hs, hx, hr, Result.andThen]
    have T : Turn g (g + 1) w w' := .of_grown hg1 (fun j hj => by simp [Value.ownBlock] at hj; omega)
    rcases hat with e | e
    · exact k _ _ g (.inl rfl) e (ownC_atN O1 e) T
    · exact k _ _ w.heap.size (.inr rfl) e (ownC_atN O1 e) T
theorem wpList_copyN {ops : Array Oper} {rest : List Oper} {o : Oper} {a : Act} {w : World} {Q : Exit → Act → World → Prop} (hgd : o.guard = none) (s x : Operand)
    (ho : o.op = .call { callee := .builtin .append, args := #[s, x], argTypes := #[26, 26] }) (g : Nat) (hs : a.eval s = .slice (some ⟨g, 0, none⟩) 0 0) (hA : Cells g #[] 34 w)
    (ad : Option Addr) (n c : Nat) (ts : List Tri3) (hx : a.eval x = .slice ad n c) (h : IsTris w ad n c ts) (hl : n ≤ 1048576)
    (k : ∀ (v' : Value) (w' : World) (j : Nat), Hid (j = g ∨ j = w.heap.size) → Holds j (j + 1) w' (OwnC j (j + 1) v' ts) → Turn g (g + 1) w w' → wpList Try.prog ops Q rest (a.put o.dst v') w') : wpList Try.prog ops Q (o :: rest) a w :=
  wpList_plain hgd fun _ hK => upon_copyN s x ho g hs hA ad n c ts hx h hl fun v' w' j h1 _ h3 h4 => hK _ _ (k v' w' j (Lib.hid h1) h3 h4)
end Go.Proofs.Ythnpchcfjkepaaa
/- DataOk of both sides: what a right dataset is. -/
namespace Go.Proofs.Ythnpchcfjkepaaa
open Go.RowKit Go.WideShapes
def namT (r : NamV) : Bool := decide (kindL r.1.data.toList = 1) && (graphOk r.2 && decide (0 < r.2.length))
def lessN (t u : NamV) : Bool := Op.bytesLess t.1.toList u.1.toList
/-- A right dataset. -/
def dataOk (rs : List NamV) : Bool := decide (rs.length ≤ 6) && gUpto namT lessN rs rs.length
theorem SmN.sm {rs : List NamV} (h : SmN rs) {r : NamV} (hr : r ∈ rs) : Sm r.2 := fun t ht => by have := (h r hr).2 t ht; omega
end Go.Proofs.Ythnpchcfjkepaaa
