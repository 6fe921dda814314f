/- Pairs in a slice, cell by cell; a copy of them. -/
import Derived.Test.YtbhlenjcahonnaaGreatJExactSolutions13
import Derived.Test.YtbhlenjcahonnaaGreatJExactSolutions04
import Derived.Test.YtbhlenjcahonnaaGreatJExactSolutions01
import Derived.Test.YtbhlenjcahonnaaGreatJExactSolutions14
import Derived.Test.YtbhlenjcahonnaaGreatJExactSolutions22
namespace Go.Proofs.YtbhlenjcahonnaaGreat
open Go.RowKit Go.WideShapes
theorem flatP_append (a b : List Pre2) : flatP (a ++ b) = flatP a ++ flatP b := by simp [flatP]
theorem flatP_one (a : List Pre2) : ∀ u ∈ flatP a, u.oneCell' = true := by
  intro u hu
  unfold flatP at hu
  obtain ⟨t, _, hu⟩ := List.mem_flatMap.1 hu
  simp only [List.mem_cons, List.not_mem_nil, or_false] at hu
  rcases hu with rfl | rfl <;> rfl
theorem flatP_split (ts : List Pre2) (k : Nat) : flatP ts = flatP (ts.take k) ++ flatP (ts.drop k) := by rw [← flatP_append, List.take_append_drop]
/-- A slice's cells, one by one. -/
theorem IsPres.flatAt {w : World} {b off len cap : Nat} {ts : List Pre2} (h : IsPres w (some ⟨b, off, none⟩) len cap ts) (j : Nat) (u : Value) (hj : (flatP ts)[j]? = some u) : w.cell? ⟨b, off + j, none⟩ = some u := by
  have hl := h.len
  have hjl : j < ts.length * 2 := by rw [← flatP_len]; exact (List.getElem?_eq_some_iff.1 hj).1
  rcases h with ⟨h, _⟩ | ⟨x, hx, h1, h2, h3, h4⟩
  · cases h
  · cases hx
    obtain ⟨q, r, hr, rfl⟩ : ∃ q r, r < 2 ∧ j = q * 2 + r := ⟨j / 2, j % 2, by omega, by omega⟩
    have hq : q < ts.length := by omega
    have e := List.getElem?_eq_getElem hq
    obtain ⟨c0, c1, _⟩ := h4 q _ e
    rw [add_plain] at c0 c1
    obtain ⟨f0, f1⟩ := flatP_at ts q _ e
    have hm : r = 0 ∨ r = 1 := by omega
    rcases hm with rfl | rfl
    · rw [Nat.add_zero, f0] at hj; rw [← hj, ← c0, Nat.mul_comm 2 q]; rfl
    · rw [f1] at hj; rw [← hj, ← c1, Nat.mul_comm 2 q]
theorem IsPres.front {w : World} {b off len cap : Nat} {ts : List Pre2} (h : IsPres w (some ⟨b, off, none⟩) len cap ts) (k : Nat) : ∀ (j : Nat) (u : Value), (flatP (ts.take k))[j]? = some u → w.cell? ((⟨b, off, none⟩ : Addr).add j) = some u := by
  intro j u hj
  rw [add_plain]
  refine h.flatAt j u ?_
  rw [flatP_split ts k, List.getElem?_append_left (List.getElem?_eq_some_iff.1 hj).1]
  exact hj
theorem IsPres.back {w : World} {b off len cap : Nat} {ts : List Pre2} (h : IsPres w (some ⟨b, off, none⟩) len cap ts) (k : Nat) (hk : k ≤ ts.length) : ∀ (j : Nat) (u : Value), (flatP (ts.drop k))[j]? = some u → w.cell? ((⟨b, off + k * 2, none⟩ : Addr).add j) = some u := by
  intro j u hj
  rw [add_plain, Nat.add_assoc]
  refine h.flatAt (k * 2 + j) u ?_
  have e : (flatP (ts.take k)).length = k * 2 := by rw [flatP_len, List.length_take, Nat.min_eq_left hk]
  rw [flatP_split ts k, List.getElem?_append_right (by omega), e, Nat.add_sub_cancel_left]
  exact hj
theorem pres_news {w : World} {x : Addr} {ts : List Pre2} (h4 : ∀ (i : Nat) (t : Pre2), ts[i]? = some t → PreAt w x i t) (j : Nat) (u : Value) (hj : (flatP ts)[j]? = some u) : w.cell? (x.add j) = some u := by
  have hjl : j < ts.length * 2 := by rw [← flatP_len]; exact (List.getElem?_eq_some_iff.1 hj).1
  obtain ⟨q, r, hr, rfl⟩ : ∃ q r, r < 2 ∧ j = q * 2 + r := ⟨j / 2, j % 2, by omega, by omega⟩
  have e := List.getElem?_eq_getElem (show q < ts.length by omega)
  obtain ⟨c0, c1, _⟩ := h4 q _ e
  obtain ⟨f0, f1⟩ := flatP_at ts q _ e
  have hm : r = 0 ∨ r = 1 := by omega
  rcases hm with rfl | rfl
  · rw [Nat.add_zero, f0] at hj; rw [← hj, ← c0, Nat.mul_comm 2 q]; rfl
  · rw [f1] at hj; rw [← hj, ← c1, Nat.mul_comm 2 q]
set_option maxRecDepth 100000 in
set_option maxHeartbeats 1600000 in
theorem clonePair (a : Option Addr) (len cap : Nat) (ts : List Pre2) (w : World) (h : IsPres w a len cap ts) (hl : len ≤ 1048576) :
    Calls Tryz.prog 78 #[.slice a len cap] w (CopyPostP ts w) := by
  have q28 : ∀ (w : World) (a : Option Addr) (n c n' c' : Nat), (binOp .eql 31 (.slice a n c) (.slice none n' c')).run Tryz.prog w = .ok (.bool a.isNone) w := fun w a n c n' c' => Lib.run_eql_slice_nil w _ _ a n c n' c' Tryz.underlying31
  obtain ⟨i0, hi, hz0, hz1, hz2⟩ := info_parts infoPair
  rcases h with ⟨rfl, rfl, rfl, rfl⟩ | ⟨x, rfl, h1, h2, h3, h4⟩
  · go_enter Tryz.func78, Tryz.ntmps78
    go_wp2_with fail
    go_ret
    exact ⟨_, rfl, ⟨rfl, .inl ⟨rfl, rfl⟩⟩, Below.refl _ _⟩
  · have A := Lib.hid (fun j u hj => pres_news h4 j u hj)
    have H3 := Lib.hid h3
    have HF := Lib.hid (flatP_one ts)
    clear h4 h3
    go_enter Tryz.func78, Tryz.ntmps78
    go_wp2_with (at_builtin; refine wpList_append_own _ rfl _ _ 31 rfl w.heap.size 34 i0 (.agg #[.string ⟨#[]⟩, .string ⟨#[]⟩]) 2 32 Tryz.underlying31 hi hz0 hz1 hz2 rfl (by decide) _ _ _ rfl (World.ownsRow_made w #[] 0 (Nat.le_refl _) (Nat.zero_le _) (by simp)) x len cap (flatP ts) rfl ?qc1 ?qc2 ?qc3 ?qc4 ?qc5 ?qc6 ?_)
    case qc1 => rw [flatP_len, H3.out]
    case qc2 => exact fun j u hj => Lib.cell?_alloc_some _ (A.out j u hj)
    case qc3 => exact HF.out
    case qc4 => unfold maxLen; omega
    case qc5 => omega
    case qc6 => simp
    intro v' w1 hown hgrow _
    go_wp2_with fail
    go_ret
    exact ⟨v', rfl, by unfold OwnP; rw [H3.out]; simpa using hown, ((Below.refl _ w).alloc (Nat.le_refl _) _).grown hgrow (by simp) (by intro k hk; simp [Value.ownBlock] at hk; omega)⟩
end Go.Proofs.YtbhlenjcahonnaaGreat
/- The exact laws' sizes of rows and of texts, and their own copy of texts. -/
namespace Go.Proofs.YtbhlenjcahonnaaGreat
open Go.RowKit Go.WideShapes
def SmRows (len : Nat) (rs : List RowV) : Prop := len + totR rs ≤ 1048576 ∧ ∀ r ∈ rs, ∀ t ∈ r, t.1.size + t.2.size ≤ 1048576
def SzPostRs (left : Int) (len : Nat) (rs : List RowV) (w : World) (e : Ending) (w' : World) : Prop :=
  ∃ n : Int, e = .returned (.int .i64 n) ∧ (n = -1 ∨ (0 ≤ n ∧ n ≤ left ∧ SmRows len rs)) ∧ Below w.heap.size w w'
def SmStrs (len : Nat) (ts : List ByteArray) : Prop := len ≤ 1048576 ∧ ∀ t ∈ ts, t.size ≤ 1048576
def SzPostT (left : Int) (len : Nat) (ts : List ByteArray) (w : World) (e : Ending) (w' : World) : Prop :=
  ∃ n : Int, e = .returned (.int .i64 n) ∧ (n = -1 ∨ (0 ≤ n ∧ n ≤ left ∧ SmStrs len ts)) ∧ Below w.heap.size w w'
end Go.Proofs.YtbhlenjcahonnaaGreat
