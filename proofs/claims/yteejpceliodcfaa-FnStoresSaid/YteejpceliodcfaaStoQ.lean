/- The store of a graph: the program's and the specification's. -/
import Derived.Test.YteejpceliodcfaaStoC
import Derived.Test.YteejpceliodcfaaStoP
import Derived.Test.YteejpceliodcfaaGraph
import Derived.Test.YteejpceliodcfaaMarkO
import Derived.Laws.AppendOwnNone
namespace Go.Proofs.Yteejpceliodcfaa
open Go.RowKit Go.WideShapes
/-- Three slices that the call owns, each behind the one ahead. -/
def Own3 (B : Nat) (w : World) (v1 v2 v3 : Value) (t1 t2 t3 : List Tri3) : Prop :=
  ∃ B1 B2, B ≤ B1 ∧ B1 ≤ B2 ∧ OwnT B w v1 t1 ∧ OwnT B1 w v2 t2 ∧ OwnT B2 w v3 t3 ∧ (∀ j, v1.ownBlock = some j → j < B1) ∧ (∀ j, v2.ownBlock = some j → j < B2)
theorem Own3.base {B C : Nat} {w : World} {v1 v2 v3 : Value} {t1 t2 t3 : List Tri3} (h : Own3 B w v1 v2 v3 t1 t2 t3) (hc : C ≤ B) : Own3 C w v1 v2 v3 t1 t2 t3 := by
  obtain ⟨B1, B2, h1, h2, o1, o2, o3, s1, s2⟩ := h
  exact ⟨B1, B2, Nat.le_trans hc h1, h2, own_base o1 hc, o2, o3, s1, s2⟩
theorem Own3.next {B : Nat} {w w' : World} {v1 v2 v3 : Value} {t1 t2 t3 : List Tri3} (h : Own3 B w v1 v2 v3 t1 t2 t3) (hb : w.grownBy w' none) : Own3 B w' v1 v2 v3 t1 t2 t3 := by
  obtain ⟨B1, B2, h1, h2, o1, o2, o3, s1, s2⟩ := h
  exact ⟨B1, B2, h1, h2, own_next o1 hb, own_next o2 hb, own_next o3 hb, s1, s2⟩
theorem own_set {B : Nat} {w : World} {v : Value} {ts : List Tri3} (h : OwnT B w v ts) {g : Nat} (hg : g < B) (j : Nat) (u : Value) : OwnT B (w.setCell ⟨g, j, none⟩ u) v ts :=
  World.ownsRow.kept h (grown_set (World.grownBy.refl w (some g)) j u) (by
    rcases hv : v.ownBlock with _ | i
    · exact .inl rfl
    · exact .inr (fun e => by cases e; have := (World.ownsRow.lt h g hv).1; omega))
theorem Own3.set {B : Nat} {w : World} {v1 v2 v3 : Value} {t1 t2 t3 : List Tri3} (h : Own3 B w v1 v2 v3 t1 t2 t3) {g : Nat} (hg : g < B) (j : Nat) (u : Value) : Own3 B (w.setCell ⟨g, j, none⟩ u) v1 v2 v3 t1 t2 t3 := by
  obtain ⟨B1, B2, h1, h2, o1, o2, o3, s1, s2⟩ := h
  exact ⟨B1, B2, h1, h2, own_set o1 hg j u, own_set o2 (by omega) j u, own_set o3 (by omega) j u, s1, s2⟩
theorem Own3.set3 {B : Nat} {w : World} {v1 v2 v3 : Value} {t1 t2 t3 : List Tri3} (h : Own3 B w v1 v2 v3 t1 t2 t3) {g : Nat} (hg : g < B) (x y z : Value) : Own3 B (((w.setCell ⟨g, 0, none⟩ x).setCell ⟨g, 1, none⟩ y).setCell ⟨g, 2, none⟩ z) v1 v2 v3 t1 t2 t3 :=
  ((h.set hg 0 x).set hg 1 y).set hg 2 z
theorem Own3.nil (B : Nat) (w : World) : Own3 B w (.slice none 0 0) (.slice none 0 0) (.slice none 0 0) [] [] [] :=
  have o : ∀ C, OwnT C w (.slice none 0 0) [] := fun C => ⟨rfl, .inl ⟨rfl, rfl⟩⟩
  ⟨B, B, Nat.le_refl _, Nat.le_refl _, o _, o _, o _, (fun j h => by cases h), (fun j h => by cases h)⟩
theorem own_slice {B : Nat} {w : World} {v : Value} {ts : List Tri3} (h : OwnT B w v ts) : ∃ a n c, v = .slice a n c := by
  rcases h.2 with ⟨rfl, _⟩ | ⟨g, c, cur, rfl, _⟩
  · exact ⟨_, _, _, rfl⟩
  · exact ⟨_, _, _, rfl⟩
theorem Own3.slices {B : Nat} {w : World} {v1 v2 v3 : Value} {t1 t2 t3 : List Tri3} (h : Own3 B w v1 v2 v3 t1 t2 t3) : (∃ a n c, v1 = .slice a n c) ∧ (∃ a n c, v2 = .slice a n c) ∧ (∃ a n c, v3 = .slice a n c) := by
  obtain ⟨B1, B2, h1, h2, o1, o2, o3, s1, s2⟩ := h
  exact ⟨own_slice o1, own_slice o2, own_slice o3⟩
theorem below_s3 {B : Nat} {w w' : World} (h : Below B w w') (g : Nat) (hg : B ≤ g) (x y z : Value) : Below B w (((w'.setCell ⟨g, 0, none⟩ x).setCell ⟨g, 1, none⟩ y).setCell ⟨g, 2, none⟩ z) :=
  Below.setCell (Below.setCell (Below.setCell h (p := ⟨g, 0, none⟩) hg x) (p := ⟨g, 1, none⟩) hg y) (p := ⟨g, 2, none⟩) hg z
def st0 (ts : List Tri3) : List Tri3 := if graphOk ts = true then ts else []
def st1 (ts : List Tri3) : List Tri3 := if graphOk ts = true then sortH 1 ts else []
def st2 (ts : List Tri3) : List Tri3 := if graphOk ts = true then sortH 2 ts else []
def StorePost (ts : List Tri3) (w : World) (e : Ending) (w' : World) : Prop := ∃ v1 v2 v3, e = .returned (.tuple #[.agg #[v1, v2, v3], .bool (graphOk ts)]) ∧ Own3 w.heap.size w' v1 v2 v3 (st0 ts) (st1 ts) (st2 ts) ∧ Below w.heap.size w w'
theorem graph_nodup {ts : List Tri3} (h : graphOk ts = true) : ts.Nodup := (graphOk_iff.1 h).2.2.nodup
set_option maxRecDepth 100000 in
set_option maxHeartbeats 1600000 in
theorem implStoreOf (a : Option Addr) (len cap : Nat) (ts : List Tri3) (w : World) (h : IsTris w a len cap ts) (hs : Sm ts) (hl : len ≤ 1048576) :
    Calls Try.prog 22 #[.slice a len cap] w (StorePost ts w) := by
  have B0 := (Below.refl w.heap.size w).alloc (Nat.le_refl _) (.cells #[.slice none 0 0, .slice none 0 0, .slice none 0 0] 39)
  have X0 := Box.new w (.slice none 0 0) (.slice none 0 0) (.slice none 0 0) 39
  have C' := implGraphOk a len cap ts _ (h.next B0) hs
  unfold StorePost
  cases hq : graphOk ts
  all_goals
    rw [hq] at C'
    have C := Lib.hid C'
    clear C'
  · have HS : Hid (st0 ts = [] ∧ st1 ts = [] ∧ st2 ts = []) := Lib.hid (by unfold st0 st1 st2; rw [hq]; simp)
    clear hq
    go_enter Try.func22, Try.ntmps22
    go_wp2_with fail
    refine C.out.mono ?_
    rintro e w1 ⟨rfl, hb1⟩
    have X1 := X0.next hb1
    have B1 := Lib.hid (B0.trans (hb1.mono B0.size))
    obtain ⟨a0, a1, a2⟩ := X1.cells
    obtain ⟨f0, f1, f2⟩ := X1.free
    clear hb1 X0 B0
    go_wp2_with fail
    refine bodyPost_ret (v := .tuple #[.agg #[.slice none 0 0, .slice none 0 0, .slice none 0 0], .bool false]) (by simp [results, Try.results22, go_sem, *]) rfl ⟨_, _, _, rfl, ?_, below_s3 B1.out _ (Nat.le_refl _) _ _ _⟩
    rw [HS.out.1, HS.out.2.1, HS.out.2.2]
    exact Own3.nil _ _
  · have HS : Hid (st0 ts = ts ∧ st1 ts = sortH 1 ts ∧ st2 ts = sortH 2 ts) := Lib.hid (by unfold st0 st1 st2; rw [hq]; simp)
    have ND := Lib.hid (graph_nodup hq)
    have H := Lib.hid h
    clear hq h
    go_enter Try.func22, Try.ntmps22
    go_wp2_with fail
    refine C.out.mono ?_
    rintro e w1 ⟨rfl, hb1⟩
    have X1 := X0.next hb1
    have B1 := B0.trans (hb1.mono B0.size)
    have hz1 := X1.lt
    clear hb1 X0 B0
    have C2 := Lib.hid (cloneTri a len cap ts _ (H.out.next B1) hl)
    go_wp2_with fail
    refine C2.out.mono ?_
    rintro e w2 ⟨v2, rfl, o2, hb2⟩
    have X2 := X1.next hb2
    have B2 := B1.trans (hb2.mono B1.size)
    have hz2 := hb2.size
    have s2 := fun j hj => (World.ownsRow.lt o2 j hj).2
    have C3 := Lib.hid (implSortedPos a len cap ts _ (H.out.next B2) hl)
    clear hb2 C2 X1 B1
    go_wp2_with fail
    refine C3.out.mono ?_
    rintro e w3 ⟨v3, rfl, o3, hb3⟩
    have X3 := X2.next hb3
    have B3 := B2.trans (hb3.mono B2.size)
    have hz3 := hb3.size
    have s3 := fun j hj => (World.ownsRow.lt o3 j hj).2
    have o23 := own_next o2 (grown_of_below hb3)
    have C4 := Lib.hid (implSortedOsp a len cap ts _ (H.out.next B3) hl)
    clear hb3 C3 X2 B2 o2
    go_wp2_with fail
    refine C4.out.mono ?_
    rintro e w4 ⟨v4, rfl, o4, hb4⟩
    have X4 := X3.next hb4
    have B4 := B3.trans (hb4.mono B3.size)
    have O4 : Hid (Own3 (w.heap.size + 1) w4 v2 v3 v4 ts (sortH 1 ts) (sortH 2 ts)) := Lib.hid ⟨w2.heap.size, w3.heap.size, by omega, hz3, own_base (own_next o23 (grown_of_below hb4)) (by omega), own_next o3 (grown_of_below hb4), o4, s2, s3⟩
    obtain ⟨a0, a1, a2⟩ := X4.cells
    obtain ⟨f0, f1, f2⟩ := X4.free
    clear C4 X3 B3 o23 o3 o4 s2 s3
    clear hb4
    obtain ⟨⟨p2, n2, k2, rfl⟩, ⟨p3, n3, k3, rfl⟩, ⟨p4, n4, k4, rfl⟩⟩ := O4.out.slices
    go_wp2_with fail
    refine bodyPost_ret (v := .tuple #[.agg #[.slice p2 n2 k2, .slice p3 n3 k3, .slice p4 n4 k4], .bool true]) (by simp [results, Try.results22, go_sem, *]) rfl ⟨_, _, _, rfl, ?_, below_s3 B4 _ (Nat.le_refl _) _ _ _⟩
    rw [HS.out.1, HS.out.2.1, HS.out.2.2]
    exact Own3.base (Own3.set3 O4.out (Nat.lt_succ_self _) _ _ _) (Nat.le_succ _)
set_option maxRecDepth 100000 in
set_option maxHeartbeats 1600000 in
theorem specStoreOf (a : Option Addr) (len cap : Nat) (ts : List Tri3) (w : World) (h : IsTris w a len cap ts) (hs : Sm ts) (hl : len ≤ 1048576) :
    Calls Try.prog 23 #[.slice a len cap] w (StorePost ts w) := by
  have B0 := (Below.refl w.heap.size w).alloc (Nat.le_refl _) (.cells #[.slice none 0 0, .slice none 0 0, .slice none 0 0] 39)
  have X0 := Box.new w (.slice none 0 0) (.slice none 0 0) (.slice none 0 0) 39
  have C' := specGraphOk a len cap ts _ (h.next B0) hs
  unfold StorePost
  cases hq : graphOk ts
  all_goals
    rw [hq] at C'
    have C := Lib.hid C'
    clear C'
  · have HS : Hid (st0 ts = [] ∧ st1 ts = [] ∧ st2 ts = []) := Lib.hid (by unfold st0 st1 st2; rw [hq]; simp)
    clear hq
    go_enter Try.func23, Try.ntmps23
    go_wp2_with fail
    refine C.out.mono ?_
    rintro e w1 ⟨rfl, hb1⟩
    have X1 := X0.next hb1
    have B1 := Lib.hid (B0.trans (hb1.mono B0.size))
    obtain ⟨a0, a1, a2⟩ := X1.cells
    obtain ⟨f0, f1, f2⟩ := X1.free
    clear hb1 X0 B0
    go_wp2_with fail
    refine bodyPost_ret (v := .tuple #[.agg #[.slice none 0 0, .slice none 0 0, .slice none 0 0], .bool false]) (by simp [results, Try.results23, go_sem, *]) rfl ⟨_, _, _, rfl, ?_, below_s3 B1.out _ (Nat.le_refl _) _ _ _⟩
    rw [HS.out.1, HS.out.2.1, HS.out.2.2]
    exact Own3.nil _ _
  · have HS : Hid (st0 ts = ts ∧ st1 ts = sortH 1 ts ∧ st2 ts = sortH 2 ts) := Lib.hid (by unfold st0 st1 st2; rw [hq]; simp)
    have ND := Lib.hid (graph_nodup hq)
    have H := Lib.hid h
    clear hq h
    go_enter Try.func23, Try.ntmps23
    go_wp2_with fail
    refine C.out.mono ?_
    rintro e w1 ⟨rfl, hb1⟩
    have X1 := X0.next hb1
    have B1 := B0.trans (hb1.mono B0.size)
    have hz1 := X1.lt
    clear hb1 X0 B0
    obtain ⟨i0, hi, hz0, hz1', hz2'⟩ := info_parts infoTri
    have HO : Hid (OwnT w1.heap.size (w1.alloc (.cells #[] 46)) (.slice (some ⟨w1.heap.size, 0, none⟩) 0 0) []) := Lib.hid (World.ownsRow_lit (size := 3) (e := 46) w1 #[] 0 (Nat.le_refl _) (by decide) rfl)
    have BA := B1.alloc B1.size (.cells #[] 46)
    have XA := X1.alloc (.cells #[] 46)
    have R := fun (v2 : Value) (w2 : World) (o2 : OwnT w1.heap.size w2 v2 ts) (hb2 : Below w1.heap.size w1 w2) => (⟨own_base o2 (Nat.le_refl _), X1.next hb2, B1.trans (hb2.mono B1.size), fun j hj => (World.ownsRow.lt o2 j hj).2, hb2.size⟩ : OwnT w1.heap.size w2 v2 ts ∧ Box w2 w.heap.size (.slice none 0 0) (.slice none 0 0) (.slice none 0 0) 39 ∧ Below w.heap.size w w2 ∧ (∀ j, v2.ownBlock = some j → j < w2.heap.size) ∧ w1.heap.size ≤ w2.heap.size)
    have RH := Lib.hid R
    have HI := H.out.next B1
    have BE1 : Below w1.heap.size w1 (w1.alloc (.cells #[] 46)) := (Below.refl _ _).alloc (Nat.le_refl _) _
    have HE1 := Lib.hid BE1
    clear R X1 B1 BA XA BE1
    rcases HI with ⟨rfl, rfl, rfl, hnil⟩ | ⟨x, rfl, h1, h2, h3, h4⟩
    case' inl =>
      have HN := Lib.hid hnil
      clear hnil
      go_wp2_with (at_builtin; refine wpList_append_own_none rfl _ _ 27 rfl w1.heap.size 46 i0 3 Try.underlying27 hi _ _ _ rfl HO.out rfl ?_)
      obtain ⟨o2, X2, B2, s2, hz2⟩ := RH.out _ _ (by rw [HN.out]; exact HO.out) HE1.out
      generalize hW : w1.alloc (.cells #[] 46) = w2 at o2 X2 B2 s2 hz2 ⊢
      generalize (Value.slice (some ⟨w1.heap.size, 0, none⟩) 0 0) = v2 at o2 s2 ⊢
      clear hW HN HO HE1 RH
    case' inr =>
      have A := Lib.hid (fun j u hj => tris_news h4 j u hj)
      have H3 := Lib.hid h3
      clear h4 h3
      go_wp2_with (at_builtin; refine wpList_append_own _ rfl _ _ 27 rfl w1.heap.size 46 i0 (.agg #[.string ⟨#[]⟩, .string ⟨#[]⟩, .string ⟨#[]⟩]) 3 48 Try.underlying27 hi hz0 hz1' hz2' rfl (by decide) _ _ _ rfl HO.out x len cap (flat ts) rfl ?qc1 ?qc2 (flat_one _) ?qc4 ?qc5 ?qc6 ?_)
      case qc1 => rw [flat_len, H3.out]
      case qc2 => exact fun j u hj => Lib.cell?_alloc_some _ (A.out j u hj)
      case qc4 => rw [List.length_nil]; unfold maxLen; omega
      case qc5 => rw [List.length_nil]; omega
      case qc6 => simp
      intro v2 w2 hown hgrow _
      obtain ⟨o2, X2, B2, s2, hz2⟩ := RH.out v2 w2 (by unfold OwnT; rw [H3.out]; simpa [flat] using hown) (HE1.out.grown hgrow HE1.out.size (by intro k hk; simp [Value.ownBlock] at hk; omega))
      clear hown hgrow A H3 HO HE1 RH h1 h2
    all_goals
      have C3 := Lib.hid (specSorted1 _ _ _ ts _ (H.out.next B2) hl)
      go_wp2_with fail
      refine C3.out.mono ?_
      rintro e w3 ⟨v3, rfl, o3, hb3⟩
      have HR3 : Hid (insH 1 ts = sortH 1 ts) := Lib.hid (insH_is ND.out)
      rw [HR3.out] at o3
      have X3 := X2.next hb3
      have B3 := B2.trans (hb3.mono B2.size)
      have hz3 := hb3.size
      have s3 := fun j hj => (World.ownsRow.lt o3 j hj).2
      have o23 := own_next o2 (grown_of_below hb3)
      have C4 := Lib.hid (specSorted2 _ _ _ ts _ (H.out.next B3) hl)
      clear hb3 C3 X2 B2 o2
      go_wp2_with fail
      refine C4.out.mono ?_
      rintro e w4 ⟨v4, rfl, o4, hb4⟩
      have HR4 : Hid (insH 2 ts = sortH 2 ts) := Lib.hid (insH_is ND.out)
      rw [HR4.out] at o4
      have X4 := X3.next hb4
      have B4 := B3.trans (hb4.mono B3.size)
      have O4 : Hid (Own3 (w.heap.size + 1) w4 v2 v3 v4 ts (sortH 1 ts) (sortH 2 ts)) := Lib.hid ⟨w2.heap.size, w3.heap.size, by omega, hz3, own_base (own_next o23 (grown_of_below hb4)) (by omega), own_next o3 (grown_of_below hb4), o4, s2, s3⟩
      obtain ⟨a0, a1, a2⟩ := X4.cells
      obtain ⟨f0, f1, f2⟩ := X4.free
      clear C4 X3 B3 o23 o3 o4 s2 s3
      clear hb4
      obtain ⟨⟨p2, n2, k2, rfl⟩, ⟨p3, n3, k3, rfl⟩, ⟨p4, n4, k4, rfl⟩⟩ := O4.out.slices
      go_wp2_with fail
      refine bodyPost_ret (v := .tuple #[.agg #[.slice p2 n2 k2, .slice p3 n3 k3, .slice p4 n4 k4], .bool true]) (by simp [results, Try.results23, go_sem, *]) rfl ⟨_, _, _, rfl, ?_, below_s3 B4 _ (Nat.le_refl _) _ _ _⟩
      rw [HS.out.1, HS.out.2.1, HS.out.2.2]
      exact Own3.base (Own3.set3 O4.out (Nat.lt_succ_self _) _ _ _) (Nat.le_succ _)
end Go.Proofs.Yteejpceliodcfaa
