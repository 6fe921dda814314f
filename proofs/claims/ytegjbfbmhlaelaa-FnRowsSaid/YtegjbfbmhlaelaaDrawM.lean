/- What is drawn to be merged: two rows; a row that may be twice itself. -/
import Derived.Test.YtegjbfbmhlaelaaDrawR
import Derived.Test.YtegjbfbmhlaelaaMrgC
namespace Go.Proofs.Ytegjbfbmhlaelaa
open Go.RowKit Go.WideShapes
theorem own_baseM {B C : Nat} {w : World} {v : Value} {ts : List Pre2} (h : OwnP B w v ts) (hb : C ≤ B) : OwnP C w v ts := by
  refine ⟨h.1, h.2.imp id ?_⟩
  rintro ⟨g, c, cur, h1, h2, h3⟩
  exact ⟨g, c, cur, h1, by omega, h3⟩
theorem own_apart {B g : Nat} {w w' : World} {v : Value} {ts : List Pre2} (h : OwnP B w v ts) (hg : w.grownBy w' (some g)) (hB : g < B) : OwnP B w' v ts := by
  have hlt := fun j hj => (World.ownsRow.lt h j hj).1
  refine World.ownsRow.kept h hg ?_
  rcases hob : Value.ownBlock v with _ | j
  · exact .inl rfl
  · refine .inr fun e => ?_
    have := hlt j hob
    simp at e
    omega
theorem smW_max {ts : List Pre2} (h : SmW ts) : ∀ t ∈ ts, t.1.size ≤ maxLen ∧ t.2.size ≤ maxLen := fun t ht => by have := h.2 t ht; unfold maxLen; omega
set_option maxRecDepth 100000 in
set_option maxHeartbeats 800000 in
theorem drawMerged (w : World) (a : Option Addr) (len cap : Nat) (zs : List Int) (hrow : Frame.IsRow .u8 w a len cap zs) :
    Calls Try.prog 19 #[.slice a len cap] w fun e w' => ∃ (v u : Value) (ts us : List Pre2), e = .returned (.tuple #[v, u]) ∧ SmW ts ∧ SmW us ∧ OwnP w.heap.size w' v ts ∧ OwnP w.heap.size w' u us ∧ w.grownBy w' none := by
  have HR := Lib.hid hrow
  clear hrow
  go_enter Try.func19, Try.ntmps19
  go_wp2_with fail
  refine (rdOpen _ _ _ _ _ HR.out).mono ?_
  rintro e w1 ⟨rfl, hr1, hg1⟩
  have l1 := hr1.2.1
  have hz1 := hg1.size
  go_wp2_with fail
  refine (rdRow _ _ _ hr1).mono ?_
  rintro e w2 ⟨v, ts, rfl, hS, hO, hr2, hg2⟩
  have G2 : w.grownBy w2 none := hg1.andThen hg2 (by intro j hj; simp at hj; omega)
  obtain ⟨a1, c1, rfl, _⟩ := hO.is (smW_max hS)
  have hz2 := hg2.size
  clear hg1 hg2 hr1
  go_wp2_with fail
  refine (rdRow _ _ _ hr2).mono ?_
  rintro e w3 ⟨u, us, rfl, kS, kO, hr3, hg3⟩
  have G3 : w.grownBy w3 none := G2.andThen hg3 (by intro j hj; simp at hj; omega)
  have O3 := Lib.hid (own_baseM (own_apart hO hg3 l1) (by omega : w.heap.size ≤ w1.heap.size))
  have K3 := Lib.hid (own_baseM kO (by omega : w.heap.size ≤ w2.heap.size))
  obtain ⟨a2, c2, rfl, _⟩ := kO.is (smW_max kS)
  clear hg3 hr2 hr3 G2 hO kO
  go_wp2_with fail
  go_ret2
  exact ⟨_, _, ts, us, rfl, hS, kS, O3.out, K3.out, G3⟩
set_option maxRecDepth 100000 in
set_option maxHeartbeats 800000 in
theorem drawRowOk (w : World) (a : Option Addr) (len cap : Nat) (zs : List Int) (hrow : Frame.IsRow .u8 w a len cap zs) :
    Calls Try.prog 20 #[.slice a len cap] w fun e w' => ∃ (v : Value) (ts : List Pre2), e = .returned v ∧ ts.length ≤ 8 ∧ (∀ t ∈ ts, t.1.size ≤ 6 ∧ t.2.size ≤ 6) ∧ OwnP w.heap.size w' v ts ∧ w.grownBy w' none := by
  obtain ⟨i0, hi, hz0, hzs, hzb⟩ := info_parts infoPair
  have HR := Lib.hid hrow
  clear hrow
  go_enter Try.func20, Try.ntmps20
  go_wp2_with fail
  refine (rdOpen _ _ _ _ _ HR.out).mono ?_
  rintro e w1 ⟨rfl, hr1, hg1⟩
  have l1 := hr1.2.1
  have hz1 := hg1.size
  go_wp2_with fail
  refine (rdRow _ _ _ hr1).mono ?_
  rintro e w2 ⟨v, ts, rfl, hS, hO, hr2, hg2⟩
  have G2 : w.grownBy w2 none := hg1.andThen hg2 (by intro j hj; simp at hj; omega)
  obtain ⟨a1, c1, rfl, _⟩ := hO.is (smW_max hS)
  have hz2 := hg2.size
  clear hg1 hg2 hr1
  go_wp2_with fail
  refine (rdOnce _ _ _ hr2 6 (by omega) (by omega)).mono ?_
  rintro e w3 ⟨b, rfl, hr3, hg3⟩
  have G3 : w.grownBy w3 none := G2.andThen hg3 (by intro j hj; simp at hj; omega)
  have o3 := own_apart hO hg3 l1
  have hz3 := hg3.size
  clear hg3 hr2 hr3 G2 hO
  cases b
  · have O3 := Lib.hid (own_baseM o3 (by omega : w.heap.size ≤ w1.heap.size))
    clear o3
    go_wp2_with fail
    go_ret
    exact ⟨_, ts, rfl, by have := hS.1; omega, hS.2, O3.out, G3⟩
  · have i3 := o3.is (smW_max hS)
    obtain ⟨a', c', e', i3⟩ := i3
    cases e'
    have O3 := Lib.hid o3
    have hl4 := hS.1
    rcases i3 with ⟨rfl, h0, rfl, rfl⟩ | ⟨x, rfl, h1, h2, h3, h4⟩
    · clear o3
      go_wp2_with (at_builtin; refine wpList_append_own_none rfl _ _ 24 rfl w1.heap.size 86 i0 2 Try.underlying24 hi _ _ _ rfl O3.out rfl ?_)
      go_wp2_with fail
      go_ret
      exact ⟨_, [], rfl, by simp, by simp, own_baseM O3.out (by omega), G3⟩
    · have A := Lib.hid (fun j u hj => pres_news h4 j u hj)
      unfold OwnP at o3 O3
      have hlt := fun j hj => (World.ownsRow.lt o3 j hj).1
      clear o3 h4 h3
      go_wp2_with (at_builtin; refine wpList_append_own _ rfl _ _ 24 rfl w1.heap.size 86 i0 (.agg #[.string ⟨#[]⟩, .string ⟨#[]⟩]) 2 32 Try.underlying24 hi hz0 hzs hzb rfl (by decide) _ _ _ rfl O3.out x ts.length c1 (flatP ts) rfl ?qc1 A.out (flatP_one ts) ?qc4 ?qc5 ?qc6 ?_)
      case qc1 => rw [flatP_len]
      case qc4 => unfold maxLen; omega
      case qc5 => omega
      case qc6 => omega
      intro v' w4 hown hgrow _
      have O4 : Hid (OwnP w.heap.size w4 v' (ts ++ ts)) := Lib.hid (by
        refine own_baseM (B := w1.heap.size) ?_ (by omega)
        unfold OwnP
        rw [flatP_append, List.length_append]
        exact hown)
      have G4 := G3.andThen hgrow (by intro j hj; have := hlt j hj; omega)
      obtain ⟨a4, c4, rfl, _⟩ := O4.out.is (fun t ht => by
        rcases List.mem_append.1 ht with h | h <;> exact smW_max hS t h)
      clear hown hgrow
      go_wp2_with fail
      go_ret
      exact ⟨_, ts ++ ts, rfl, by rw [List.length_append]; omega, fun t ht => by rcases List.mem_append.1 ht with h | h <;> exact hS.2 t h, O4.out, G4⟩
end Go.Proofs.Ytegjbfbmhlaelaa
