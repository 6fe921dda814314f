/- When a query is right: plain facts. -/
import Derived.Test.YthnpchcfjkepaaaG35
import Derived.Test.YthnpchcfjkepaaaG18
import Derived.Test.YthnpchcfjkepaaaG28
import Derived.Test.YthnpchcfjkepaaaG10
import Derived.Test.YthnpchcfjkepaaaG33
import Derived.Test.YthnpchcfjkepaaaG32
namespace Go.Proofs.Ythnpchcfjkepaaa
open Go.RowKit Go.WideShapes Go.Maps
theorem addAllS_nil_nodup (l : List Txt) : (addAllS [] l).Nodup := by
  suffices h : ∀ (us ts : List Txt), ts.Nodup → (addAllS ts us).Nodup from h l [] List.nodup_nil
  intro us
  induction us with
  | nil => intro ts h; exact h
  | cons u us ih =>
    intro ts h
    refine ih _ ?_
    unfold addS
    split
    · exact h
    · rename_i hn
      exact List.nodup_append.2 ⟨h, by simp, fun a ha b hb => by simp at hb; subst hb; exact fun e => hn (e ▸ ha)⟩
theorem addAllS_full : ∀ (us ts : List Txt), (addAllS ts us).length = ts.length + us.length ↔ us.Nodup ∧ ∀ u ∈ us, u ∉ ts
  | [], ts => by simp [addAllS]
  | u :: us, ts => by
    show (addAllS (addS ts u) us).length = _ ↔ _
    have hl := addAllS_len us (addS ts u)
    by_cases hin : u ∈ ts
    · have e : addS ts u = ts := by unfold addS; rw [if_pos hin]
      rw [e] at hl ⊢
      rw [List.length_cons]
      exact ⟨fun h => by omega, fun h => absurd hin (h.2 u (by simp))⟩
    · have e : addS ts u = ts ++ [u] := by unfold addS; rw [if_neg hin]
      have ih := addAllS_full us (ts ++ [u])
      rw [e]
      rw [List.length_append, List.length_singleton] at ih
      rw [List.length_cons, show ts.length + (us.length + 1) = ts.length + 1 + us.length from by omega, ih, List.nodup_cons]
      constructor
      · rintro ⟨h1, h2⟩
        refine ⟨⟨fun hu => h2 u hu (by simp), h1⟩, fun v hv => ?_⟩
        rcases List.mem_cons.1 hv with rfl | hv
        · exact hin
        · exact fun hc => h2 v hv (by simp [hc])
      · rintro ⟨⟨h1, h2⟩, h3⟩
        refine ⟨h2, fun v hv hc => ?_⟩
        rcases List.mem_append.1 hc with hc | hc
        · exact h3 v (by simp [hv]) hc
        · obtain rfl := List.mem_singleton.1 hc
          exact h1 hv
theorem addAllS_same (l : List Txt) : (addAllS [] l).length = l.length ↔ l.Nodup := by
  have := addAllS_full l []
  simpa using this
def distS (l : List Txt) : Bool := decide ((addAllS [] l).length = l.length)
def queryOk (vs : List ByteArray) (t1 t2 : List Tri3) : Bool :=
  decide (0 < t1.length) && (bgpOk t1 && (bgpOk t2 && (decide (1 ≤ vs.length) && (decide (vs.length ≤ 4) && (distS (txts vs) && subS (addAllS [] (allVars t1 ++ allVars t2)) (txts vs))))))
theorem allVars_app {t1 t2 : List Tri3} {u : Txt} : u ∈ allVars (t1 ++ t2) ↔ u ∈ addAllS [] (allVars t1 ++ allVars t2) := by
  have e : varWords (t1 ++ t2) = varWords t1 ++ varWords t2 := by simp [varWords]
  unfold allVars
  rw [e, putAllS_mem, addAllS_mem]
  simp only [List.mem_append, putAllS_mem, List.not_mem_nil, false_or]
theorem queryOk_is {vs : List ByteArray} {t1 t2 : List Tri3} (h1 : 0 < t1.length) (hb1 : bgpOk t1 = true) (hb2 : bgpOk t2 = true) (hl : 1 ≤ vs.length) (hl4 : vs.length ≤ 4) :
    queryOk vs t1 t2 = true ↔ (txts vs).Nodup ∧ ∀ v ∈ txts vs, v ∈ allVars (t1 ++ t2) := by
  unfold queryOk distS subS
  rw [hb1, hb2]
  simp only [h1, hl, hl4, decide_true, Bool.true_and, Bool.and_eq_true, decide_eq_true_eq, List.all_eq_true, addAllS_same, allVars_app]
theorem queryOk_vs {vs : List ByteArray} {t1 t2 : List Tri3} (h : queryOk vs t1 t2 = true) : 0 < t1.length ∧ bgpOk t1 = true ∧ bgpOk t2 = true ∧ 1 ≤ vs.length ∧ vs.length ≤ 4 := by
  unfold queryOk at h
  simp only [Bool.and_eq_true, decide_eq_true_eq] at h
  exact ⟨h.1, h.2.1, h.2.2.1, h.2.2.2.1, h.2.2.2.2.1⟩
theorem txts_bs (l : List Txt) : txts (l.map bs) = l := by
  unfold txts
  rw [List.map_map]
  conv => rhs; rw [← List.map_id l]
  apply List.map_congr_left
  intro t _
  simp [bs]
theorem hasB_mem (vs : List ByteArray) (x : ByteArray) : hasB vs x = decide (x.data.toList ∈ txts vs) := by
  rw [Bool.eq_iff_iff, decide_eq_true_eq]
  unfold hasB txts
  rw [List.any_eq_true, List.mem_map]
  constructor
  · rintro ⟨y, hy, e⟩
    rw [beq_iff_eq, ByteArray.toList_eq, ByteArray.toList_eq] at e
    exact ⟨y, hy, e⟩
  · rintro ⟨y, hy, e⟩
    exact ⟨y, hy, by rw [beq_iff_eq, ByteArray.toList_eq, ByteArray.toList_eq]; exact e⟩
theorem txts_take (vs : List ByteArray) (k : Nat) : txts (vs.take k) = (txts vs).take k := by unfold txts; rw [List.map_take]
end Go.Proofs.Ythnpchcfjkepaaa
/- A slice of texts that came in: what its cells hold. -/
namespace Go.Proofs.Ythnpchcfjkepaaa
open Go.ChangeShapes Go.WideShapes Go.ChangeAt Go.RowKit
def StrAt (w : World) (x : Addr) (i : Nat) (t : ByteArray) : Prop := w.cell? (x.add i) = some (.string t) ∧ t.size ≤ maxLen
theorem open_strs {H : Type} {enc : TypeId × Value → H} {P : Program} {w : World} {base : Nat} {spare : Nat → Bool} {held : Bool} {t e : TypeId} {fuel : Nat} {a : Option Addr} {len cap : Nat} {x : DataW H × List MemPlace}
    (ht : P.underlying t = some (.slice e)) (hC : P.cellsOf e = 1) (he : P.underlying e = some .string)
    (h : DataW.trod enc P w base spare held fuel t [.slice a len cap] = some x) : ∃ ts, IsStrs w a len cap ts ∧ ∀ t ∈ ts, t.size ≤ maxLen := by
  rcases Deep.open_slice ht h with ⟨hcs, _⟩ | ⟨x, len', cap', m, n, D, Pl, hcs, _, hl, hm, hmm, _, hi⟩
  · simp only [List.cons.injEq, Value.slice.injEq, and_true] at hcs
    exact ⟨[], .inl ⟨hcs.1, hcs.2.1, hcs.2.2, rfl⟩, by simp⟩
  · simp only [List.cons.injEq, Value.slice.injEq, and_true] at hcs
    obtain ⟨rfl, rfl, rfl⟩ := hcs
    have hlm : len ≤ m := by rw [hmm]; split <;> omega
    obtain ⟨ts, hts, hq⟩ := list_of (Q := StrAt w x) len fun i hil => by
      obtain ⟨cs, hc, htr⟩ := hi i (by omega)
      rw [hC] at hc
      obtain ⟨_, hcl, hat⟩ := World.cells?_some hc
      match cs, hcl with
      | [v], _ =>
        obtain ⟨s, hs, _, hsz⟩ := DataW.trod_string he htr
        have := hat 0 (by omega)
        rw [Deep.add_add, Nat.mul_one, Nat.add_zero] at this
        simp only [List.cons.injEq, and_true] at hs
        subst hs
        exact ⟨s, this.trans rfl, hsz⟩
    refine ⟨ts, .inr ⟨x, rfl, hl, hm, hts, fun i t hi => (hq i t hi).1⟩, fun t ht => ?_⟩
    obtain ⟨i, hi⟩ := List.mem_iff_getElem?.1 ht
    exact (hq i t hi).2
end Go.Proofs.Ythnpchcfjkepaaa
/- The exact laws' steps at slices of texts, told by where things lie. -/
namespace Go.Proofs.Ythnpchcfjkepaaa
open Go.ChangeShapes Go.WideShapes Go.ChangeAt Go.RowKit
theorem turn_set (w : World) (g i : Nat) (v : Value) : Turn g (g + 1) w (w.setCell ⟨g, i, none⟩ v) := ⟨rfl, rfl, rfl, by simp [World.setCell], fun k _ hd => Below.heap_setCell _ _ _ _ (by show k ≠ g; omega)⟩
theorem open_strs_one {H : Type} {enc : TypeId × Value → H} {P : Program} {w : World} {base : Nat} {spare : Nat → Bool} {held : Bool} {t e : TypeId} {fuel : Nat} {c : Value} {x : DataW H × List MemPlace}
    (ht : P.underlying t = some (.slice e)) (hC : P.cellsOf e = 1) (he : P.underlying e = some .string)
    (h : DataW.trod enc P w base spare held fuel t [c] = some x) : ∃ a len cap ts, c = .slice a len cap ∧ IsStrs w a len cap ts ∧ ∀ t ∈ ts, t.size ≤ maxLen := by
  have h' := h
  rcases Deep.open_slice ht h with ⟨hcs, _⟩ | ⟨x, len', cap', m, n, D, Pl, hcs, _⟩
  · obtain rfl : c = .slice none 0 0 := by simpa using hcs
    obtain ⟨ts, hts⟩ := open_strs ht hC he h'
    exact ⟨_, _, _, ts, rfl, hts⟩
  · obtain rfl : c = .slice (some x) len' cap' := by simpa using hcs
    obtain ⟨ts, hts⟩ := open_strs ht hC he h'
    exact ⟨_, _, _, ts, rfl, hts⟩
theorem open_tris_q {H : Type} {enc : TypeId × Value → H} {P : Program} {w : World} {base : Nat} {spare : Nat → Bool} {held : Bool} {t e : TypeId} {f0 f1 f2 : Field} {fuel : Nat} {c : Value} {x : DataW H × List MemPlace}
    (ht : P.underlying t = some (.slice e)) (he : P.underlying e = some (.struct #[f0, f1, f2])) (hC : P.cellsOf e = 3)
    (h0 : P.underlying f0.type = some .string ∧ f0.offset = 0 ∧ P.cellsOf f0.type = 1) (h1 : P.underlying f1.type = some .string ∧ f1.offset = 1 ∧ P.cellsOf f1.type = 1) (h2 : P.underlying f2.type = some .string ∧ f2.offset = 2 ∧ P.cellsOf f2.type = 1)
    (h : DataW.trod enc P w base spare held fuel t [c] = some x) : ∃ a len cap ts, c = .slice a len cap ∧ IsTris w a len cap ts := by
  have h' := h
  rcases Deep.open_slice ht h with ⟨hcs, _⟩ | ⟨x, len', cap', m, n, D, Pl, hcs, _⟩
  · obtain rfl : c = .slice none 0 0 := by simpa using hcs
    obtain ⟨ts, hts⟩ := open_tris ht he hC h0 h1 h2 h'
    exact ⟨_, _, _, ts, rfl, hts⟩
  · obtain rfl : c = .slice (some x) len' cap' := by simpa using hcs
    obtain ⟨ts, hts⟩ := open_tris ht he hC h0 h1 h2 h'
    exact ⟨_, _, _, ts, rfl, hts⟩
/-- The call owns a slice of these texts, between B and C. -/
def OwnSC (B C : Nat) (v : Value) (ts : List ByteArray) (w : World) : Prop := OwnS B w v ts ∧ ∀ j, v.ownBlock = some j → j < C
theorem ownSC_lives {B C : Nat} {v : Value} {ts : List ByteArray} : Lives B C (OwnSC B C v ts) := row_lives
theorem OwnSC.read {B C : Nat} {w : World} {a : Option Addr} {n c : Nat} {ts : List ByteArray} (h : OwnSC B C (.slice a n c) ts w) (hl : ts.length = n) : IsStrs w a n c ts := by
  subst hl
  obtain ⟨x, y, e, i⟩ := h.1.is
  simp only [Value.slice.injEq, true_and] at e
  obtain ⟨rfl, rfl⟩ := e
  exact i
theorem exToS (a : Option Addr) (n c : Nat) (ts : List ByteArray) (w : World) (h : IsStrs w a n c ts) (hs : n ≤ 1048576) (hl : ts.length = n) :
    Calls Try.prog 42 #[.slice a n c] w fun e w' => ∃ a' c', e = .returned (.slice a' n c') ∧ Holds w.heap.size w'.heap.size w' (OwnSC w.heap.size w'.heap.size (.slice a' n c') ts) ∧ Below w.heap.size w w' :=
  (toStrs a n c ts w h hs).mono fun e w' ⟨v, he, ho, hb⟩ => by
    subst hl
    have H : Holds w.heap.size w'.heap.size w' (OwnSC w.heap.size w'.heap.size v ts) := ⟨ownSC_lives, Nat.le_refl _, ho, fun j hj => (World.ownsRow.lt ho j hj).2⟩
    rcases ho.2 with ⟨rfl, e0⟩ | ⟨g, c, cur, rfl, _⟩
    · exact ⟨none, 0, by rw [he, e0], by rw [e0]; exact H, hb⟩
    · exact ⟨_, _, he, H, hb⟩
end Go.Proofs.Ythnpchcfjkepaaa
