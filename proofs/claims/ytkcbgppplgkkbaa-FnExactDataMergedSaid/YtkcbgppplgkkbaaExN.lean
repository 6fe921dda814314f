/- The exact laws' steps at slices of named graphs, told by where things lie. -/
import Derived.Test.YtkcbgppplgkkbaaExK
import Derived.Test.YtkcbgppplgkkbaaNamC
import Derived.Test.YtkcbgppplgkkbaaNamE
import Derived.Test.YtkcbgppplgkkbaaNamZ
namespace Go.Proofs.Ytkcbgppplgkkbaa
open Go.RowKit Go.WideShapes
def SmAllN (rs : List NamV) : Prop := ∀ r ∈ rs, r.1.size ≤ maxLen ∧ SmAll r.2
theorem IsNams.small {w : World} {a : Option Addr} {len cap : Nat} {rs : List NamV} (h : IsNams w a len cap rs) : SmAllN rs := by
  rcases h with ⟨_, _, _, rfl⟩ | ⟨x, _, _, _, _, h4⟩
  · intro r hr; simp at hr
  · intro r hr
    obtain ⟨i, hi⟩ := List.mem_iff_getElem?.1 hr
    obtain ⟨b, n, c, _, _, hp, hs⟩ := h4 i r hi
    exact ⟨hs, hp.small⟩
/-- The call owns a slice of these graphs, each graph in a block of its own. -/
def OwnNs (B : Nat) (w : World) (v : Value) (ts : List NamV) : Prop :=
  ∃ us, w.ownsRow B 43 2 v ts.length (flatN ts us) ∧ InnN B w ts us ∧ ∀ u ∈ us, ∀ j, u.ownBlock = some j → v.ownBlock ≠ some j
theorem InnN.base {B C : Nat} {w : World} {ts : List NamV} {us : List Value} (h : InnN B w ts us) (hc : C ≤ B) : InnN C w ts us := ⟨h.1, fun i u t hu ht => ownTN_base (h.2.1 i u t hu ht) hc, h.2.2⟩
theorem OwnN.ns {B : Nat} {w : World} {len : Nat} {ts : List NamV} (h : OwnN B w len ts) (hl : ts.length = len) : OwnNs B w (.slice (some ⟨B, 0, none⟩) len len) ts := by
  subst hl
  obtain ⟨us, ho, hi⟩ := h
  refine ⟨us, ho, hi.base (Nat.le_succ _), fun u hu j hj e => ?_⟩
  have := (hi.lt u hu j hj).1
  simp only [Value.ownBlock, Option.some.injEq] at e
  omega
theorem OwnNs.is {B : Nat} {w : World} {v : Value} {ts : List NamV} (h : OwnNs B w v ts) (hm : SmAllN ts) : ∃ a c, v = .slice a ts.length c ∧ IsNams w a ts.length c ts := by
  obtain ⟨us, ho, hi, _⟩ := h
  have h0 := ho
  obtain ⟨hln, hc⟩ := ho
  rcases hc with ⟨e, e2⟩ | ⟨g, cap, cur, e, _, _, h1, h2, _⟩
  · exact ⟨none, 0, by rw [e, e2], .inl ⟨rfl, e2, rfl, List.length_eq_zero_iff.1 e2⟩⟩
  · subst e
    refine ⟨_, _, rfl, .inr ⟨_, rfl, h1, h2, rfl, fun i t ht => ?_⟩⟩
    have hil : i < ts.length := (List.getElem?_eq_some_iff.1 ht).1
    have hu : us[i]? = some (us[i]'(by have := hi.1; omega)) := List.getElem?_eq_getElem _
    obtain ⟨f0, f1⟩ := flatN_at ts us hi.1 i t _ ht hu
    have oi := hi.2.1 i _ t hu ht
    obtain ⟨m0, ms⟩ := hm t (List.mem_of_getElem? ht)
    obtain ⟨a', c', ev, ii⟩ := oi.is ms
    rw [ev] at f1
    have e : ∀ j, (⟨g, 0, none⟩ : Addr).add (2 * i + j) = ⟨g, i * 2 + j, none⟩ := fun j => by rw [add_plain, Nat.zero_add, show 2 * i + j = i * 2 + j from by omega]
    have e0 : (⟨g, 0, none⟩ : Addr).add (2 * i) = ⟨g, i * 2, none⟩ := e 0
    refine ⟨a', t.2.length, c', ?_, ?_, ii, m0⟩
    · rw [e0]; exact (h0.cellAt _ (by omega)).trans f0
    · rw [e]; exact (h0.cellAt _ (by omega)).trans f1
/-- .. and all of it lies below C. -/
def OwnNC (B C : Nat) (v : Value) (ts : List NamV) (w : World) : Prop :=
  ∃ us, (w.ownsRow B 43 2 v ts.length (flatN ts us) ∧ ∀ j, v.ownBlock = some j → j < C) ∧ us.length = ts.length ∧
    (∀ (i : Nat) (u : Value) (t : NamV), us[i]? = some u → ts[i]? = some t → OwnC B C u t.2 w) ∧ us.Pairwise (fun u v => ∀ j, u.ownBlock = some j → v.ownBlock ≠ some j) ∧ ∀ u ∈ us, ∀ j, u.ownBlock = some j → v.ownBlock ≠ some j
theorem ownNC_lives {B C : Nat} {v : Value} {ts : List NamV} : Lives B C (OwnNC B C v ts) := by
  rintro w w' he ⟨us, h1, h2, h3, h4, h5⟩
  exact ⟨us, row_lives w w' he h1, h2, fun i u t hu ht => ownC_lives w w' he (h3 i u t hu ht), h4, h5⟩
theorem OwnNC.ns {B C : Nat} {v : Value} {ts : List NamV} {w : World} (h : OwnNC B C v ts w) : OwnNs B w v ts := by
  obtain ⟨us, h1, h2, h3, h4, h5⟩ := h
  exact ⟨us, h1.1, ⟨h2, fun i u t hu ht => (h3 i u t hu ht).1, h4⟩, h5⟩
theorem ownNC_new {w w' : World} {v : Value} {ts : List NamV} (h : OwnNs w.heap.size w' v ts) : Holds w.heap.size w'.heap.size w' (OwnNC w.heap.size w'.heap.size v ts) := by
  obtain ⟨us, h1, h2, h3⟩ := h
  exact ⟨ownNC_lives, Nat.le_refl _, us, ⟨h1, fun j hj => (World.ownsRow.lt h1 j hj).2⟩, h2.1, fun i u t hu ht => ⟨h2.2.1 i u t hu ht, fun j hj => (World.ownsRow.lt (h2.2.1 i u t hu ht) j hj).2⟩, h2.2.2, h3⟩
theorem OwnNC.read {B C : Nat} {w : World} {a : Option Addr} {n c : Nat} {ts : List NamV} (h : OwnNC B C (.slice a n c) ts w) (hm : SmAllN ts) (hl : ts.length = n) : IsNams w a n c ts := by
  subst hl
  obtain ⟨x, y, e, i⟩ := h.ns.is hm
  simp only [Value.slice.injEq, true_and] at e
  obtain ⟨rfl, rfl⟩ := e
  exact i
theorem exToN (a : Option Addr) (n c : Nat) (ts : List NamV) (w : World) (h : IsNams w a n c ts) (hs : n + totN ts ≤ 1048576) (hl : ts.length = n) :
    Calls Try.prog 8 #[.slice a n c] w fun e w' => ∃ a' c', e = .returned (.slice a' n c') ∧ Holds w.heap.size w'.heap.size w' (OwnNC w.heap.size w'.heap.size (.slice a' n c') ts) ∧ Below w.heap.size w w' :=
  (toNams a n c ts w h hs).mono fun _ _ ⟨he, ho, hb⟩ => ⟨_, _, he, ownNC_new (ho.ns hl), hb⟩
end Go.Proofs.Ytkcbgppplgkkbaa
