/- A slice of named graphs that came in: what its cells hold (two each: a text, a slice of triples). -/
import Derived.Test.YtnjphlaohihbaaaGreatG03
import Derived.Test.YtnjphlaohihbaaaGreatG09
import Derived.Deep.Strs
import Derived.Deep.RegionHeld3
import Derived.Deep.RegionWith
namespace Go.Proofs.YtnjphlaohihbaaaGreat
open Go.ChangeShapes Go.WideShapes Go.ChangeAt Go.RowKit
namespace NamK
theorem open_tris_one {H : Type} {enc : TypeId × Value → H} {P : Program} {w : World} {base : Nat} {spare : Nat → Bool} {held : Bool} {t e : TypeId} {f0 f1 f2 : Field} {fuel : Nat} {c : Value} {x : DataW H × List MemPlace}
    (ht : P.underlying t = some (.slice e)) (he : P.underlying e = some (.struct #[f0, f1, f2])) (hC : P.cellsOf e = 3)
    (h0 : P.underlying f0.type = some .string ∧ f0.offset = 0 ∧ P.cellsOf f0.type = 1) (h1 : P.underlying f1.type = some .string ∧ f1.offset = 1 ∧ P.cellsOf f1.type = 1) (h2 : P.underlying f2.type = some .string ∧ f2.offset = 2 ∧ P.cellsOf f2.type = 1)
    (h : DataW.trod enc P w base spare held fuel t [c] = some x) : ∃ a len cap ts, c = .slice a len cap ∧ IsTris w a len cap ts := by
  have h' := h
  rcases Deep.open_slice ht h with ⟨hcs, _⟩ | ⟨x, len', cap', m, n, D, Pl, hcs, _⟩
  · obtain rfl : c = .slice none 0 0 := by simpa using hcs
    obtain ⟨ts, hts⟩ := open_tris ht he hC h0 h1 h2 h'
    exact ⟨_, _, _, ts, rfl, hts⟩
  · obtain rfl : c = .slice (some x) len' cap' := by simpa using hcs
    obtain ⟨ts, hts⟩ := open_tris ht he hC h0 h1 h2 h'
    exact ⟨_, _, _, ts, rfl, hts⟩
theorem tris_maxl {w : World} {a : Option Addr} {len cap : Nat} {ts : List Tri3} (h : IsTris w a len cap ts) : len ≤ 9223372036854775807 := by
  rcases h with ⟨_, rfl, _, _⟩ | ⟨_, _, h1, h2, _⟩
  · omega
  · unfold maxLen at h2; omega
theorem own_set {B : Nat} {w : World} {v : Value} {ts : List Tri3} (h : OwnT B w v ts) {g : Nat} (hg : g < B) (j : Nat) (u : Value) : OwnT B (w.setCell ⟨g, j, none⟩ u) v ts :=
  World.ownsRow.kept h (grown_set (World.grownBy.refl w (some g)) j u) (by
    rcases hv : v.ownBlock with _ | i
    · exact .inl rfl
    · exact .inr (fun e => by cases e; have := (World.ownsRow.lt h g hv).1; omega))
theorem own_slice {B : Nat} {w : World} {v : Value} {ts : List Tri3} (h : OwnT B w v ts) : ∃ a n c, v = .slice a n c := by
  rcases h.2 with ⟨rfl, _⟩ | ⟨g, c, cur, rfl, _⟩
  · exact ⟨_, _, _, rfl⟩
  · exact ⟨_, _, _, rfl⟩
/-- Block g holds just these two cells. -/
def Box2 (w : World) (g : Nat) (x y : Value) (T : TypeId) : Prop := w.heap[g]? = some (.cells #[x, y] T (0, 0))
theorem Box2.lt {w : World} {g : Nat} {x y : Value} {T : TypeId} (h : Box2 w g x y T) : g < w.heap.size := by
  rcases Nat.lt_or_ge g w.heap.size with h1 | h1
  · exact h1
  · simp [Box2, Array.getElem?_eq_none h1] at h
theorem Box2.next {w w' : World} {g : Nat} {x y : Value} {T : TypeId} (h : Box2 w g x y T) (hb : Below w.heap.size w w') : Box2 w' g x y T := (hb.block g h.lt).trans h
theorem Box2.alloc {w : World} {g : Nat} {x y : Value} {T : TypeId} (h : Box2 w g x y T) (o : Obj) : Box2 (w.alloc o) g x y T := (Below.heap_alloc w o g h.lt).trans h
theorem Box2.new (w : World) (x y : Value) (T : TypeId) : Box2 (w.alloc (.cells #[x, y] T)) w.heap.size x y T := heap_alloc_new w _
theorem Box2.cells {w : World} {g : Nat} {x y : Value} {T : TypeId} (h : Box2 w g x y T) : w.cell? ⟨g, 0, none⟩ = some x ∧ w.cell? ⟨g, 1, none⟩ = some y := by
  unfold Box2 at h
  refine ⟨?_, ?_⟩ <;> simp [World.cell?, h]
theorem Box2.free {w : World} {g : Nat} {x y : Value} {T : TypeId} (h : Box2 w g x y T) : w.frozen? ⟨g, 0, none⟩ = false ∧ w.frozen? ⟨g, 1, none⟩ = false := by
  unfold Box2 at h
  refine ⟨?_, ?_⟩ <;> simp [World.frozen?, h]
theorem Box2.drew {w : World} {g : Nat} {x y : Value} {T : TypeId} (h : Box2 w g x y T) : Box2 w.drew g x y T := h
theorem Box2.far {w : World} {g : Nat} {x y : Value} {T : TypeId} (h : Box2 w g x y T) {a : Addr} (ha : g ≠ a.block) (u : Value) : Box2 (w.setCell a u) g x y T := (Below.heap_setCell w a u g ha).trans h
theorem Box2.set0 {w : World} {g : Nat} {x y : Value} {T : TypeId} (h : Box2 w g x y T) (u : Value) : Box2 (w.setCell ⟨g, 0, none⟩ u) g u y T := by
  unfold Box2 at h ⊢; simp [World.setCell, Array.getElem?_modify, h]
theorem Box2.set1 {w : World} {g : Nat} {x y : Value} {T : TypeId} (h : Box2 w g x y T) (u : Value) : Box2 (w.setCell ⟨g, 1, none⟩ u) g x u T := by
  unfold Box2 at h ⊢; simp [World.setCell, Array.getElem?_modify, h]
end NamK
abbrev NamV := ByteArray × List Tri3
def NamAt (w : World) (x : Addr) (i : Nat) (r : NamV) : Prop := ∃ a n c, w.cell? (x.add (2 * i)) = some (.string r.1) ∧ w.cell? (x.add (2 * i + 1)) = some (.slice a n c) ∧ IsTris w a n c r.2 ∧ r.1.size ≤ maxLen
/-- The slice is nil, or its cells hold these graphs. -/
def IsNams (w : World) (a : Option Addr) (len cap : Nat) (rs : List NamV) : Prop :=
  (a = none ∧ len = 0 ∧ cap = 0 ∧ rs = []) ∨
  ∃ x, a = some x ∧ len ≤ cap ∧ cap ≤ maxLen ∧ rs.length = len ∧ ∀ (i : Nat) (r : NamV), rs[i]? = some r → NamAt w x i r
theorem open_nams {H : Type} {enc : TypeId × Value → H} {P : Program} {w : World} {base : Nat} {spare : Nat → Bool} {held : Bool} {t T tS tT : TypeId} {g0 g1 : Field} {f0 f1 f2 : Field} {fuel : Nat} {a : Option Addr} {len cap : Nat} {x : DataW H × List MemPlace}
    (htt : P.underlying t = some (.slice T)) (hT : P.underlying T = some (.struct #[g0, g1])) (cT : P.cellsOf T = 2) (hg0 : P.underlying g0.type = some .string ∧ g0.offset = 0 ∧ P.cellsOf g0.type = 1) (hg1 : g1.type = tS ∧ g1.offset = 1 ∧ P.cellsOf tS = 1)
    (ht : P.underlying tS = some (.slice tT)) (he : P.underlying tT = some (.struct #[f0, f1, f2])) (hC : P.cellsOf tT = 3)
    (h0 : P.underlying f0.type = some .string ∧ f0.offset = 0 ∧ P.cellsOf f0.type = 1) (h1 : P.underlying f1.type = some .string ∧ f1.offset = 1 ∧ P.cellsOf f1.type = 1) (h2 : P.underlying f2.type = some .string ∧ f2.offset = 2 ∧ P.cellsOf f2.type = 1)
    (h : DataW.trod enc P w base spare held fuel t [.slice a len cap] = some x) : ∃ rs, IsNams w a len cap rs := by
  rcases Deep.open_slice htt h with ⟨hcs, _⟩ | ⟨x, len', cap', m, n, D, Pl, hcs, _, hl, hm, hmm, _, hi⟩
  · simp only [List.cons.injEq, Value.slice.injEq, and_true] at hcs
    exact ⟨[], .inl ⟨hcs.1, hcs.2.1, hcs.2.2, rfl⟩⟩
  · simp only [List.cons.injEq, Value.slice.injEq, and_true] at hcs
    obtain ⟨rfl, rfl, rfl⟩ := hcs
    have hlm : len ≤ m := by rw [hmm]; split <;> omega
    obtain ⟨rs, hrs, hq⟩ := list_of (Q := NamAt w x) len fun i hil => by
      obtain ⟨cs, hc, htr⟩ := hi i (by omega)
      rw [cT] at hc
      obtain ⟨_, hcl, hat⟩ := World.cells?_some hc
      obtain ⟨y0, y1, n, hx, _, k0, k1⟩ := trod_struct2 hT htr
      rw [hg0.2.1, hg0.2.2] at k0
      rw [hg1.1, hg1.2.1, hg1.2.2] at k1
      have ha : ∀ j, j < 2 → w.cell? (x.add (2 * i + j)) = cs[j]? := by
        intro j hj
        rw [← hat j hj, Deep.add_add, Nat.mul_comm]
      match cs, hcl, k0, k1, ha with
      | [c0, c1], _, k0, k1, ha =>
        simp at k0 k1
        obtain ⟨s, e0, _, w0⟩ := DataW.trod_string hg0.1 k0
        obtain ⟨b, n', c', ts, rfl, hts⟩ := NamK.open_tris_one ht he hC h0 h1 h2 k1
        simp only [List.cons.injEq, and_true] at e0
        subst e0
        exact ⟨(s, ts), b, n', c', ha 0 (by omega), ha 1 (by omega), hts, w0⟩
    exact ⟨rs, .inr ⟨x, rfl, hl, hm, hrs, hq⟩⟩
theorem IsNams.len {w : World} {a : Option Addr} {len cap : Nat} {rs : List NamV} (h : IsNams w a len cap rs) : rs.length = len := by
  rcases h with ⟨_, rfl, _, rfl⟩ | ⟨x, _, _, _, h, _⟩
  · rfl
  · exact h
theorem IsNams.maxl {w : World} {a : Option Addr} {len cap : Nat} {rs : List NamV} (h : IsNams w a len cap rs) : len ≤ 9223372036854775807 := by
  rcases h with ⟨_, rfl, _, _⟩ | ⟨_, _, h1, h2, _⟩
  · omega
  · unfold maxLen at h2; omega
theorem IsNams.next {w w' : World} {a : Option Addr} {len cap : Nat} {rs : List NamV} (h : IsNams w a len cap rs) (hb : Below w.heap.size w w') : IsNams w' a len cap rs := by
  have hg := grown_of_below hb
  rcases h with h | ⟨x, rfl, h1, h2, h3, h4⟩
  · exact .inl h
  · refine .inr ⟨x, rfl, h1, h2, h3, fun i r hi => ?_⟩
    obtain ⟨b, n, c, c0, c1, hp, hs⟩ := h4 i r hi
    exact ⟨b, n, c, hg.cell c0 (by simp), hg.cell c1 (by simp), hp.next hb, hs⟩
/-- The place of a slice that has an element, and its cells. -/
theorem IsNams.cells {w : World} {a : Option Addr} {len cap : Nat} {rs : List NamV} (h : IsNams w a len cap rs) (h0 : 0 < len) : ∃ b off, a = some ⟨b, off, none⟩ ∧ b < w.heap.size ∧ len ≤ cap ∧ cap ≤ maxLen ∧ rs.length = len ∧
    ∀ (i : Nat) (r : NamV), rs[i]? = some r → ∃ a n c, w.cell? ⟨b, off + i * 2, none⟩ = some (.string r.1) ∧ w.cell? ⟨b, off + i * 2 + 1, none⟩ = some (.slice a n c) ∧ IsTris w a n c r.2 ∧ r.1.size ≤ maxLen := by
  rcases h with ⟨_, rfl, _⟩ | ⟨x, rfl, h1, h2, h3, h4⟩
  · omega
  · obtain ⟨b, off, spot⟩ := x
    have ht : rs[0]? = some rs[0] := List.getElem?_eq_getElem (by omega)
    obtain ⟨_, _, _, hc, _⟩ := h4 0 _ ht
    obtain rfl : spot = none := by simpa [Addr.add] using World.cell?_spot hc
    refine ⟨b, off, rfl, by have := World.block_lt_of_cell? _ _ hc; simpa [Addr.add] using this, h1, h2, h3, fun i r hi => ?_⟩
    obtain ⟨a', n, c, c0, c1, hp, hs⟩ := h4 i r hi
    rw [add_plain] at c0 c1
    rw [Nat.mul_comm i 2]
    exact ⟨a', n, c, c0, by rw [Nat.add_assoc]; exact c1, hp, hs⟩
/-- How many triples all graphs have. -/
def totN (rs : List NamV) : Nat := (rs.map fun r => r.2.length).sum
theorem totN_snoc (rs : List NamV) (r : NamV) : totN (rs ++ [r]) = totN rs + r.2.length := by simp [totN]
theorem totN_mem : ∀ {rs : List NamV} {r : NamV}, r ∈ rs → r.2.length ≤ totN rs
  | s :: rs, r, h => by
    have e : totN (s :: rs) = s.2.length + totN rs := by simp [totN]
    rcases List.mem_cons.1 h with rfl | h
    · omega
    · have := totN_mem h; omega
theorem totN_take (rs : List NamV) (k : Nat) : totN (rs.take k) ≤ totN rs := by
  have e := List.take_append_drop k rs
  have e2 : totN (rs.take k ++ rs.drop k) = totN (rs.take k) + totN (rs.drop k) := by
    unfold totN
    rw [List.map_append, List.sum_append]
  rw [e] at e2
  omega
end Go.Proofs.YtnjphlaohihbaaaGreat
/- The exact laws' own size of a slice of named graphs. -/
namespace Go.Proofs.YtnjphlaohihbaaaGreat
open Go.RowKit Go.WideShapes
def SzPostNW (left : Int) (len : Nat) (ts : List Tri3) (w : World) (e : Ending) (w' : World) : Prop :=
  ∃ n : Int, e = .returned (.int .i64 n) ∧ (n = -1 ∨ (0 ≤ n ∧ n + len ≤ left ∧ Small len ts)) ∧ Below w.heap.size w w'
set_option maxRecDepth 100000 in
set_option maxHeartbeats 1600000 in
theorem szTriSN (a : Option Addr) (len cap : Nat) (ts : List Tri3) (w : World) (h : IsTris w a len cap ts) (left : Int) (h0 : 0 ≤ left) (h1 : left ≤ 1048576) (hlen : len ≤ 9223372036854775807) :
    Calls Tryz.prog 76 #[.slice a len cap, .int .i64 left] w (SzPostNW left len ts w) := by
  by_cases g : left - len < 0
  · clear h
    go_enter Tryz.func76, Tryz.ntmps76
    go_wp2_with fail
    go_ret
    exact ⟨-1, rfl, .inl rfl, Below.refl _ _⟩
  by_cases hz : len = 0
  · subst hz
    have hts : ts = [] := by
      rcases h with ⟨_, _, _, h⟩ | ⟨x, _, _, _, h, _⟩
      · exact h
      · exact List.length_eq_zero_iff.1 h
    subst hts
    clear h g
    go_enter Tryz.func76, Tryz.ntmps76
    go_wp2_with fail
    refine wp_loop_rounds 1 ?_
    rw [rounds_succ]
    go_wp2_with fail
    go_ret
    exact ⟨left, by simp, .inr ⟨h0, by simp, by omega, by simp⟩, Below.refl _ _⟩
  · obtain ⟨b, off, rfl, hb, hl, hm, hts, hc⟩ := h.cells (by omega)
    unfold maxLen at hm hc
    have HC := Lib.hid hc
    have HT := Lib.hid hts
    clear hc h
    go_enter Tryz.func76, Tryz.ntmps76
    go_wp2_with fail
    go_loopw [1, 5] (fun l i wr => ∃ k : Nat, k ≤ len ∧ i = .int .i64 k ∧ (∃ q : Int, 0 ≤ q ∧ q + len ≤ left ∧ l = .int .i64 q) ∧ Hid (∀ t ∈ ts.take k, t.1.size + t.2.1.size + t.2.2.size ≤ 1048576) ∧ Below w.heap.size w wr) (fun _ i _ => len - (intOf i).toNat)
    case atStart => exact ⟨0, Nat.zero_le _, rfl, ⟨_, by omega, by omega, rfl⟩, Lib.hid (by simp), Below.refl _ _⟩
    case round =>
      obtain ⟨k, hk, rfl, ⟨q, hq0, hq1, rfl⟩, hsm, hnx⟩ := hrel
      by_cases hlt : k < len
      · have ht : ts[k]? = some ts[k] := List.getElem?_eq_getElem (by omega)
        have HS : Hid (ts.take (k + 1) = ts.take k ++ [ts[k]]) := Lib.hid (List.take_succ_eq_append_getElem (by omega))
        obtain ⟨c0, c1, c2, w0, w1, w2⟩ := HC.out k _ ht
        rw [← hnx.cell (p := ⟨b, _, none⟩) hb] at c0 c1 c2
        generalize ts[k] = t at c0 c1 c2 w0 w1 w2 HS
        clear ht
        have SZ := szTri t.1 t.2.1 t.2.2 q hq0 (by omega) w0 w1 w2
        by_cases hs : (t.1.size : Int) + t.2.1.size + t.2.2.size ≤ q
        · rw [szT_yes hs] at SZ
          have D := Lib.hid SZ
          have HN : Hid (∀ t ∈ ts.take (k + 1), t.1.size + t.2.1.size + t.2.2.size ≤ 1048576) := Lib.hid (by
            rw [HS.out]
            intro u hu
            rcases List.mem_append.1 hu with hu | hu
            · exact hsm.out u hu
            · obtain rfl : u = t := by simpa using hu
              omega)
          have hn0 : ¬ q - t.1.size - t.2.1.size - t.2.2.size < 0 := by omega
          clear SZ
          go_wp2_with fail
          refine (D.out _).mono ?_
          rintro e wn ⟨rfl, hbn⟩
          have B := hnx.trans (hbn.mono hnx.size)
          clear hbn hnx c0 c1 c2
          go_wp2_with fail
          go_roundw
          case rel => exact ⟨k + 1, by omega, by go_num, ⟨_, by omega, by omega, rfl⟩, HN, B⟩
          case measure => simp [intOf]; omega
        · rw [szT_no hs] at SZ
          have D := Lib.hid SZ
          clear SZ
          go_wp2_with fail
          refine (D.out _).mono ?_
          rintro e wn ⟨rfl, hbn⟩
          have B := hnx.trans (hbn.mono hnx.size)
          clear hbn hnx c0 c1 c2
          go_wp2_with fail
          go_ret
          exact ⟨-1, rfl, .inl rfl, B⟩
      · go_wp2_with fail
        go_ret
        exact ⟨q, rfl, .inr ⟨hq0, hq1, by omega, by have := hsm.out; rwa [List.take_of_length_le (by rw [HT.out]; omega)] at this⟩, hnx⟩
def SzPostRN (left : Int) (n : Nat) (s : ByteArray) (ts : List Tri3) (w : World) (e : Ending) (w' : World) : Prop :=
  ∃ m : Int, e = .returned (.int .i64 m) ∧ (m = -1 ∨ (0 ≤ m ∧ m + n ≤ left ∧ Small n ts ∧ (s.size : Int) ≤ left)) ∧ Below w.heap.size w w'
set_option maxRecDepth 100000 in
set_option maxHeartbeats 1600000 in
theorem szNam (s : ByteArray) (a : Option Addr) (n c : Nat) (ts : List Tri3) (w : World) (h : IsTris w a n c ts) (hs : s.size ≤ maxLen) (left : Int) (h0 : 0 ≤ left) (h1 : left ≤ 1048576) :
    Calls Tryz.prog 51 #[.agg #[.string s, .slice a n c], .int .i64 left] w (SzPostRN left n s ts w) := by
  have B0 := (Below.refl w.heap.size w).alloc (Nat.le_refl _) (.cells #[.string s, .slice a n c] 74)
  have X0 := NamK.Box2.new w (.string s) (.slice a n c) 74
  have HH := Lib.hid h
  have m1 := NamK.tris_maxl h
  obtain ⟨y0, y1⟩ := X0.cells
  unfold maxLen at hs
  clear h
  by_cases g : left - (s.size : Int) < 0
  · go_enter Tryz.func51, Tryz.ntmps51
    go_wp2_with fail
    go_ret
    exact ⟨-1, rfl, .inl rfl, B0⟩
  have g1 : 0 ≤ left - (s.size : Int) := by omega
  have g2 : left - (s.size : Int) ≤ 1048576 := by omega
  have g3 := Lib.hid (show (s.size : Int) ≤ left by omega)
  go_enter Tryz.func51, Tryz.ntmps51
  go_wp2_with fail
  refine (szTriSN a n c ts _ (HH.out.next B0) (left - s.size) g1 g2 m1).mono ?_
  rintro e w1 ⟨k, rfl, hk, hb⟩
  have B1 := B0.trans (hb.mono B0.size)
  clear hb B0 X0 y0 y1
  rcases hk with rfl | ⟨p0, p1, ps⟩
  · go_wp2_with fail
    go_ret
    exact ⟨-1, rfl, .inl rfl, B1⟩
  have PS := Lib.hid ps
  have P1 := Lib.hid p1
  have p2 : ¬ k < 0 := by omega
  clear ps p1
  go_wp2_with fail
  go_ret
  exact ⟨k, rfl, .inr ⟨p0, by have := P1.out; omega, PS.out, g3.out⟩, B1⟩
/-- Short texts, in names and graphs. -/
def SmN (rs : List NamV) : Prop := ∀ r ∈ rs, r.1.size ≤ 1048576 ∧ ∀ t ∈ r.2, t.1.size + t.2.1.size + t.2.2.size ≤ 1048576
def SzPostN (left : Int) (len : Nat) (rs : List NamV) (w : World) (e : Ending) (w' : World) : Prop :=
  ∃ n : Int, e = .returned (.int .i64 n) ∧ (n = -1 ∨ (0 ≤ n ∧ n + totN rs + len ≤ left ∧ SmN rs)) ∧ Below w.heap.size w w'
set_option maxRecDepth 100000 in
set_option maxHeartbeats 1600000 in
theorem szNams (a : Option Addr) (len cap : Nat) (rs : List NamV) (w : World) (h : IsNams w a len cap rs) (left : Int) (h0 : 0 ≤ left) (h1 : left ≤ 1048576) (hlen : len ≤ 9223372036854775807) :
    Calls Tryz.prog 24 #[.slice a len cap, .int .i64 left] w (SzPostN left len rs w) := by
  by_cases g : left - len < 0
  · clear h
    go_enter Tryz.func24, Tryz.ntmps24
    go_wp2_with fail
    go_ret
    exact ⟨-1, rfl, .inl rfl, Below.refl _ _⟩
  have H := Lib.hid h
  have HL := Lib.hid h.len
  clear h
  go_enter Tryz.func24, Tryz.ntmps24
  go_wp2_with fail
  go_loopw [1, 5] (fun l i wr => ∃ k : Nat, k ≤ len ∧ i = .int .i64 k ∧ (∃ q : Int, 0 ≤ q ∧ q + totN (rs.take k) + len ≤ left ∧ l = .int .i64 q) ∧ Hid (SmN (rs.take k)) ∧ Below w.heap.size w wr) (fun _ i _ => len - (intOf i).toNat)
  case atStart => exact ⟨0, Nat.zero_le _, rfl, ⟨_, by omega, by simp [totN], rfl⟩, Lib.hid (by intro r hr; simp at hr), Below.refl _ _⟩
  case round =>
    obtain ⟨k, hk, rfl, ⟨q, hq0, hq1, rfl⟩, hsm, hnx⟩ := hrel
    have hk6 : (0 : Int) ≤ (k : Int) := by omega
    by_cases hlt : k < len
    · obtain ⟨b, off, rfl, hb, hl, hm, hts, hc⟩ := (H.out.next hnx).cells (by omega)
      have ht : rs[k]? = some rs[k] := List.getElem?_eq_getElem (by omega)
      have HS : Hid (rs.take (k + 1) = rs.take k ++ [rs[k]]) := Lib.hid (List.take_succ_eq_append_getElem (by omega))
      obtain ⟨a', n, c, c0, c1, hz, w0⟩ := hc k _ ht
      generalize rs[k] = r at hz HS c0 c1 w0
      have hzl := hz.len
      have D := Lib.hid (szNam r.1 a' n c r.2 wr hz w0 q hq0 (by omega))
      clear ht hts hc hz hm hl w0
      have hlt2 : (k : Int) < (len : Int) := by omega
      have HZ := Lib.hid hzl
      clear hzl
      go_wp2_with fail
      refine D.out.mono ?_
      rintro e wn ⟨m, rfl, hm, hbn⟩
      have B := hnx.trans (hbn.mono hnx.size)
      clear hbn hnx c0 c1
      rcases hm with rfl | ⟨hm0, hm1, hm2, hm4⟩
      · go_wp2_with fail
        go_ret
        exact ⟨-1, rfl, .inl rfl, B⟩
      · have hm3 : ¬ m < 0 := by omega
        have HN : Hid (SmN (rs.take (k + 1))) := Lib.hid (by
          rw [HS.out]
          intro u hu
          rcases List.mem_append.1 hu with hu | hu
          · exact hsm.out u hu
          · obtain rfl : u = r := by simpa using hu
            exact ⟨by omega, hm2.2⟩)
        have HT : Hid (totN (rs.take (k + 1)) = totN (rs.take k) + n) := Lib.hid (by rw [HS.out, totN_snoc, HZ.out])
        clear hm2 hm4
        go_wp2_with fail
        go_roundw
        case rel => exact ⟨k + 1, by omega, by go_num, ⟨m, hm0, by rw [HT.out]; omega, rfl⟩, HN, B⟩
        case measure => simp [intOf]; omega
    · obtain rfl : k = len := by omega
      go_wp2_with fail
      go_ret
      have e : rs.take k = rs := List.take_of_length_le (by rw [HL.out]; exact Nat.le_refl _)
      rw [e] at hq1
      exact ⟨q, rfl, .inr ⟨hq0, hq1, by have := hsm.out; rwa [e] at this⟩, hnx⟩
end Go.Proofs.YtnjphlaohihbaaaGreat
/- DataOk of both sides: what a right dataset is. -/
namespace Go.Proofs.YtnjphlaohihbaaaGreat
open Go.RowKit Go.WideShapes
def namT (r : NamV) : Bool := decide (kindL r.1.data.toList = 1) && (graphOk r.2 && decide (0 < r.2.length))
def lessN (t u : NamV) : Bool := Op.bytesLess t.1.toList u.1.toList
/-- A right dataset. -/
def dataOk (rs : List NamV) : Bool := decide (rs.length ≤ 6) && gUpto namT lessN rs rs.length
theorem SmN.sm {rs : List NamV} (h : SmN rs) {r : NamV} (hr : r ∈ rs) : Sm r.2 := fun t ht => by have := (h r hr).2 t ht; omega
end Go.Proofs.YtnjphlaohihbaaaGreat
