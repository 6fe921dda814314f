/- The exact laws' own comparison of two slices of named graphs. -/
import Derived.Test.YthnpchcfjkepaaaG10
import Derived.Deep.RegionHeld3
namespace Go.Proofs.Ythnpchcfjkepaaa
open Go.RowKit Go.WideShapes
end Go.Proofs.Ythnpchcfjkepaaa
/- The exact laws' own size of a slice of named graphs. -/
namespace Go.Proofs.Ythnpchcfjkepaaa
open Go.RowKit Go.WideShapes
def SzPostNW (left : Int) (len : Nat) (ts : List Tri3) (w : World) (e : Ending) (w' : World) : Prop :=
  ∃ n : Int, e = .returned (.int .i64 n) ∧ (n = -1 ∨ (0 ≤ n ∧ n + len ≤ left ∧ Small len ts)) ∧ Below w.heap.size w w'
set_option maxRecDepth 100000 in
set_option maxHeartbeats 1600000 in
theorem szTriSN (a : Option Addr) (len cap : Nat) (ts : List Tri3) (w : World) (h : IsTris w a len cap ts) (left : Int) (h0 : 0 ≤ left) (h1 : left ≤ 1048576) (hlen : len ≤ 9223372036854775807) :
    Calls Try.prog 37 #[.slice a len cap, .int .i64 left] w (SzPostNW left len ts w) := by
  by_cases g : left - len < 0
  · clear h
    go_enter Try.func37, Try.ntmps37
    go_wp2_with fail
    go_ret
    exact ⟨-1, rfl, .inl rfl, Below.refl _ _⟩
  by_cases hz : len = 0
  · subst hz
    have hts : ts = [] := by
      rcases h with ⟨_, _, _, h⟩ | ⟨x, _, _, _, h, _⟩
      · exact h
      · exact List.length_eq_zero_iff.1 h
    subst hts
    clear h g
    go_enter Try.func37, Try.ntmps37
    go_wp2_with fail
    refine wp_loop_rounds 1 ?_
    rw [rounds_succ]
    go_wp2_with fail
    go_ret
    exact ⟨left, by simp, .inr ⟨h0, by simp, by omega, by simp⟩, Below.refl _ _⟩
  · obtain ⟨b, off, rfl, hb, hl, hm, hts, hc⟩ := h.cells (by omega)
    unfold maxLen at hm hc
    have HC := Lib.hid hc
    have HT := Lib.hid hts
    clear hc h
    go_enter Try.func37, Try.ntmps37
    go_wp2_with fail
    go_loopw [1, 5] (fun l i wr => ∃ k : Nat, k ≤ len ∧ i = .int .i64 k ∧ (∃ q : Int, 0 ≤ q ∧ q + len ≤ left ∧ l = .int .i64 q) ∧ Hid (∀ t ∈ ts.take k, t.1.size + t.2.1.size + t.2.2.size ≤ 1048576) ∧ Below w.heap.size w wr) (fun _ i _ => len - (intOf i).toNat)
    case atStart => exact ⟨0, Nat.zero_le _, rfl, ⟨_, by omega, by omega, rfl⟩, Lib.hid (by simp), Below.refl _ _⟩
    case round =>
      obtain ⟨k, hk, rfl, ⟨q, hq0, hq1, rfl⟩, hsm, hnx⟩ := hrel
      by_cases hlt : k < len
      · have ht : ts[k]? = some ts[k] := List.getElem?_eq_getElem (by omega)
        have HS : Hid (ts.take (k + 1) = ts.take k ++ [ts[k]]) := Lib.hid (List.take_succ_eq_append_getElem (by omega))
        obtain ⟨c0, c1, c2, w0, w1, w2⟩ := HC.out k _ ht
        rw [← hnx.cell (p := ⟨b, _, none⟩) hb] at c0 c1 c2
        generalize ts[k] = t at c0 c1 c2 w0 w1 w2 HS
        clear ht
        have SZ := szTri t.1 t.2.1 t.2.2 q hq0 (by omega) w0 w1 w2
        by_cases hs : (t.1.size : Int) + t.2.1.size + t.2.2.size ≤ q
        · rw [szT_yes hs] at SZ
          have D := Lib.hid SZ
          have HN : Hid (∀ t ∈ ts.take (k + 1), t.1.size + t.2.1.size + t.2.2.size ≤ 1048576) := Lib.hid (by
            rw [HS.out]
            intro u hu
            rcases List.mem_append.1 hu with hu | hu
            · exact hsm.out u hu
            · obtain rfl : u = t := by simpa using hu
              omega)
          have hn0 : ¬ q - t.1.size - t.2.1.size - t.2.2.size < 0 := by omega
          clear SZ
          go_wp2_with fail
          refine (D.out _).mono ?_
          rintro e wn ⟨rfl, hbn⟩
          have B := hnx.trans (hbn.mono hnx.size)
          clear hbn hnx c0 c1 c2
          go_wp2_with fail
          go_roundw
          case rel => exact ⟨k + 1, by omega, by go_num, ⟨_, by omega, by omega, rfl⟩, HN, B⟩
          case measure => simp [intOf]; omega
        · rw [szT_no hs] at SZ
          have D := Lib.hid SZ
          clear SZ
          go_wp2_with fail
          refine (D.out _).mono ?_
          rintro e wn ⟨rfl, hbn⟩
          have B := hnx.trans (hbn.mono hnx.size)
          clear hbn hnx c0 c1 c2
          go_wp2_with fail
          go_ret
          exact ⟨-1, rfl, .inl rfl, B⟩
      · go_wp2_with fail
        go_ret
        exact ⟨q, rfl, .inr ⟨hq0, hq1, by omega, by have := hsm.out; rwa [List.take_of_length_le (by rw [HT.out]; omega)] at this⟩, hnx⟩
def SzPostRN (left : Int) (n : Nat) (s : ByteArray) (ts : List Tri3) (w : World) (e : Ending) (w' : World) : Prop :=
  ∃ m : Int, e = .returned (.int .i64 m) ∧ (m = -1 ∨ (0 ≤ m ∧ m + n ≤ left ∧ Small n ts ∧ (s.size : Int) ≤ left)) ∧ Below w.heap.size w w'
/-- Short texts, in names and graphs. -/
def SmN (rs : List NamV) : Prop := ∀ r ∈ rs, r.1.size ≤ 1048576 ∧ ∀ t ∈ r.2, t.1.size + t.2.1.size + t.2.2.size ≤ 1048576
def SzPostN (left : Int) (len : Nat) (rs : List NamV) (w : World) (e : Ending) (w' : World) : Prop :=
  ∃ n : Int, e = .returned (.int .i64 n) ∧ (n = -1 ∨ (0 ≤ n ∧ n + totN rs + len ≤ left ∧ SmN rs)) ∧ Below w.heap.size w w'
end Go.Proofs.Ythnpchcfjkepaaa
/- The exact laws' steps at slices of named graphs, told by where things lie. -/
namespace Go.Proofs.Ythnpchcfjkepaaa
open Go.RowKit Go.WideShapes
def SmAllN (rs : List NamV) : Prop := ∀ r ∈ rs, r.1.size ≤ maxLen ∧ SmAll r.2
theorem IsNams.small {w : World} {a : Option Addr} {len cap : Nat} {rs : List NamV} (h : IsNams w a len cap rs) : SmAllN rs := by
  rcases h with ⟨_, _, _, rfl⟩ | ⟨x, _, _, _, _, h4⟩
  · intro r hr; simp at hr
  · intro r hr
    obtain ⟨i, hi⟩ := List.mem_iff_getElem?.1 hr
    obtain ⟨b, n, c, _, _, hp, hs⟩ := h4 i r hi
    exact ⟨hs, hp.small⟩
/-- The call owns a slice of these graphs, each graph in a block of its own. -/
def OwnNs (B : Nat) (w : World) (v : Value) (ts : List NamV) : Prop :=
  ∃ us, w.ownsRow B 31 2 v ts.length (flatN ts us) ∧ InnN B w ts us ∧ ∀ u ∈ us, ∀ j, u.ownBlock = some j → v.ownBlock ≠ some j
theorem InnN.base {B C : Nat} {w : World} {ts : List NamV} {us : List Value} (h : InnN B w ts us) (hc : C ≤ B) : InnN C w ts us := ⟨h.1, fun i u t hu ht => ownTN_base (h.2.1 i u t hu ht) hc, h.2.2⟩
theorem OwnN.ns {B : Nat} {w : World} {len : Nat} {ts : List NamV} (h : OwnN B w len ts) (hl : ts.length = len) : OwnNs B w (.slice (some ⟨B, 0, none⟩) len len) ts := by
  subst hl
  obtain ⟨us, ho, hi⟩ := h
  refine ⟨us, ho, hi.base (Nat.le_succ _), fun u hu j hj e => ?_⟩
  have := (hi.lt u hu j hj).1
  simp only [Value.ownBlock, Option.some.injEq] at e
  omega
theorem OwnNs.is {B : Nat} {w : World} {v : Value} {ts : List NamV} (h : OwnNs B w v ts) (hm : SmAllN ts) : ∃ a c, v = .slice a ts.length c ∧ IsNams w a ts.length c ts := by
  obtain ⟨us, ho, hi, _⟩ := h
  have h0 := ho
  obtain ⟨hln, hc⟩ := ho
  rcases hc with ⟨e, e2⟩ | ⟨g, cap, cur, e, _, _, h1, h2, _⟩
  · exact ⟨none, 0, by rw [e, e2], .inl ⟨rfl, e2, rfl, List.length_eq_zero_iff.1 e2⟩⟩
  · subst e
    refine ⟨_, _, rfl, .inr ⟨_, rfl, h1, h2, rfl, fun i t ht => ?_⟩⟩
    have hil : i < ts.length := (List.getElem?_eq_some_iff.1 ht).1
    have hu : us[i]? = some (us[i]'(by have := hi.1; omega)) := List.getElem?_eq_getElem _
    obtain ⟨f0, f1⟩ := flatN_at ts us hi.1 i t _ ht hu
    have oi := hi.2.1 i _ t hu ht
    obtain ⟨m0, ms⟩ := hm t (List.mem_of_getElem? ht)
    obtain ⟨a', c', ev, ii⟩ := oi.is ms
    rw [ev] at f1
    have e : ∀ j, (⟨g, 0, none⟩ : Addr).add (2 * i + j) = ⟨g, i * 2 + j, none⟩ := fun j => by rw [add_plain, Nat.zero_add, show 2 * i + j = i * 2 + j from by omega]
    have e0 : (⟨g, 0, none⟩ : Addr).add (2 * i) = ⟨g, i * 2, none⟩ := e 0
    refine ⟨a', t.2.length, c', ?_, ?_, ii, m0⟩
    · rw [e0]; exact (h0.cellAt _ (by omega)).trans f0
    · rw [e]; exact (h0.cellAt _ (by omega)).trans f1
/-- .. and all of it lies below C. -/
def OwnNC (B C : Nat) (v : Value) (ts : List NamV) (w : World) : Prop :=
  ∃ us, (w.ownsRow B 31 2 v ts.length (flatN ts us) ∧ ∀ j, v.ownBlock = some j → j < C) ∧ us.length = ts.length ∧
    (∀ (i : Nat) (u : Value) (t : NamV), us[i]? = some u → ts[i]? = some t → OwnC B C u t.2 w) ∧ us.Pairwise (fun u v => ∀ j, u.ownBlock = some j → v.ownBlock ≠ some j) ∧ ∀ u ∈ us, ∀ j, u.ownBlock = some j → v.ownBlock ≠ some j
theorem ownNC_lives {B C : Nat} {v : Value} {ts : List NamV} : Lives B C (OwnNC B C v ts) := by
  rintro w w' he ⟨us, h1, h2, h3, h4, h5⟩
  exact ⟨us, row_lives w w' he h1, h2, fun i u t hu ht => ownC_lives w w' he (h3 i u t hu ht), h4, h5⟩
theorem OwnNC.ns {B C : Nat} {v : Value} {ts : List NamV} {w : World} (h : OwnNC B C v ts w) : OwnNs B w v ts := by
  obtain ⟨us, h1, h2, h3, h4, h5⟩ := h
  exact ⟨us, h1.1, ⟨h2, fun i u t hu ht => (h3 i u t hu ht).1, h4⟩, h5⟩
theorem ownNC_new {w w' : World} {v : Value} {ts : List NamV} (h : OwnNs w.heap.size w' v ts) : Holds w.heap.size w'.heap.size w' (OwnNC w.heap.size w'.heap.size v ts) := by
  obtain ⟨us, h1, h2, h3⟩ := h
  exact ⟨ownNC_lives, Nat.le_refl _, us, ⟨h1, fun j hj => (World.ownsRow.lt h1 j hj).2⟩, h2.1, fun i u t hu ht => ⟨h2.2.1 i u t hu ht, fun j hj => (World.ownsRow.lt (h2.2.1 i u t hu ht) j hj).2⟩, h2.2.2, h3⟩
theorem OwnNC.read {B C : Nat} {w : World} {a : Option Addr} {n c : Nat} {ts : List NamV} (h : OwnNC B C (.slice a n c) ts w) (hm : SmAllN ts) (hl : ts.length = n) : IsNams w a n c ts := by
  subst hl
  obtain ⟨x, y, e, i⟩ := h.ns.is hm
  simp only [Value.slice.injEq, true_and] at e
  obtain ⟨rfl, rfl⟩ := e
  exact i
end Go.Proofs.Ythnpchcfjkepaaa
