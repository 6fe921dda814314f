/- The law's kit for rows: what stays, what is marked. -/
import Derived.Test.YtiajdnhmjdfeeaaGreatG13
import Derived.Test.YtiajdnhmjdfeeaaGreatG12
import Derived.Deep.RegionHeld3
import Derived.Test.YtiajdnhmjdfeeaaGreatG10
namespace Go.Proofs.YtiajdnhmjdfeeaaGreat
open Go.RowKit Go.WideShapes
theorem ownsRow_same {w w' : World} {B : Nat} {e : TypeId} {size n : Nat} {v : Value} {xs : List Value} (h : w.ownsRow B e size v n xs) (hs : ∀ j, v.ownBlock = some j → w'.heap[j]? = w.heap[j]?) : w'.ownsRow B e size v n xs := by
  refine ⟨h.1, ?_⟩
  rcases h.2 with hn | ⟨g, cap, cur, rfl, hb, hgg, rest⟩
  · exact .inl hn
  · exact .inr ⟨g, cap, cur, rfl, hb, by rw [hs g rfl]; exact hgg, rest⟩
/-- Rows of the call's own whose blocks lie from B on and below C. -/
def OwnRsC (B C : Nat) (w : World) (v : Value) (rs : List RowV) : Prop := ∃ us, w.ownsRow B 50 1 v rs.length us ∧ InnR B w rs us ∧ (∀ u ∈ us, ∀ j, u.ownBlock = some j → v.ownBlock ≠ some j) ∧ (∀ j, v.ownBlock = some j → j < C) ∧ ∀ u ∈ us, ∀ j, u.ownBlock = some j → j < C
theorem OwnRsC.of {B : Nat} {w : World} {v : Value} {rs : List RowV} (h : OwnRs B w v rs) : OwnRsC B w.heap.size w v rs := by
  obtain ⟨us, h1, h2, h3⟩ := h
  exact ⟨us, h1, h2, h3, fun j hj => (World.ownsRow.lt h1 j hj).2, fun u hu j hj => (h2.lt u hu j hj).2⟩
theorem OwnRsC.own {B C : Nat} {w : World} {v : Value} {rs : List RowV} (h : OwnRsC B C w v rs) : OwnRs B w v rs := by
  obtain ⟨us, h1, h2, h3, _⟩ := h
  exact ⟨us, h1, h2, h3⟩
theorem OwnRsC.same {B C : Nat} {w w' : World} {v : Value} {rs : List RowV} (h : OwnRsC B C w v rs) (hs : ∀ j, B ≤ j → j < w.heap.size → w'.heap[j]? = w.heap[j]?) : OwnRsC B C w' v rs := by
  obtain ⟨us, h1, h2, h3, h4, h5⟩ := h
  refine ⟨us, ownsRow_same h1 (fun j hj => hs j (World.ownsRow.lt h1 j hj).1 (World.ownsRow.lt h1 j hj).2), ⟨h2.1, fun i u r hu hr => ?_, h2.2.2⟩, h3, h4, h5⟩
  have o := h2.2.1 i u r hu hr
  exact ownsRow_same o (fun j hj => hs j (World.ownsRow.lt o j hj).1 (World.ownsRow.lt o j hj).2)
theorem OwnRsC.next {B C : Nat} {w w' : World} {v : Value} {rs : List RowV} (h : OwnRsC B C w v rs) (hb : Below w.heap.size w w') : OwnRsC B C w' v rs := h.same fun j _ hj => hb.block j hj
theorem OwnRsC.moved {A B C D : Nat} {w w' : World} {v : Value} {rs : List RowV} (h : OwnRsC D C w v rs) (hb : BetwR A B w w') (hc : B ≤ D) : OwnRsC D C w' v rs := h.same fun j h1 h2 => hb.2 j (by omega) h2
theorem OwnRsC.grown {C D : Nat} {row : Option Nat} {w w' : World} {v : Value} {rs : List RowV} (h : OwnRsC D C w v rs) (hg : w.grownBy w' row) (hr : ∀ j, row = some j → j < D) : OwnRsC D C w' v rs := h.same fun j h1 h2 => hg.block j h2 (fun e => by have := hr j e.symm; omega)
theorem OwnS.moved {A B D : Nat} {w w' : World} {v : Value} {ts : List ByteArray} (h : OwnS D w v ts) (hb : BetwR A B w w') (hc : B ≤ D) : OwnS D w' v ts := ownsRow_same h fun j hj => hb.2 j (by have := (World.ownsRow.lt h j hj).1; omega) (World.ownsRow.lt h j hj).2
theorem OwnRsC.isN {B C : Nat} {w : World} {a : Option Addr} {n c : Nat} {rs : List RowV} (h : OwnRsC B C w (.slice a n c) rs) (hm : ∀ r ∈ rs, ∀ t ∈ r, t.1.size ≤ maxLen ∧ t.2.size ≤ maxLen) : IsRows w a n c rs := by
  obtain ⟨a', c', e, i⟩ := h.own.is hm
  simp only [Value.slice.injEq] at e
  obtain ⟨rfl, rfl, rfl⟩ := e
  exact i
set_option maxRecDepth 100000 in
theorem markRowsNil (w : World) (k0 : Nat) :
    Calls Tryz.prog 19 #[.slice none 0 0, .int .i64 k0] w fun e w' => e = .returned (.int .i64 k0) ∧ w' = w := by
  go_enter Tryz.func19, Tryz.ntmps19
  go_wp2_with fail
  go_loop [1, 5] (fun q i => q = .int .i64 k0 ∧ i = .int .i64 0) (fun _ i => 0)
  case atStart => exact ⟨rfl, rfl⟩
  case round =>
    obtain ⟨rfl, rfl⟩ := hrel
    go_wp2_with fail
    go_ret
    exact ⟨rfl, rfl⟩
/-- Marks in rows of the call's own, whatever these are. -/
theorem markRowsAny (B C : Nat) (v : Value) (rs : List RowV) (w : World) (h : OwnRsC B C w v rs) (hBw : B ≤ w.heap.size) (hl : rs.length + totR rs ≤ 1048576) (k0 : Nat) (hk0 : 0 < k0) (hk1 : k0 ≤ 4000000) :
    Calls Tryz.prog 19 #[v, .int .i64 k0] w fun e w' => e = .returned (.int .i64 ((k0 + 2 * totR rs : Nat) : Int)) ∧ OwnRsC B C w' v (marksRs k0 rs) ∧ BetwR B C w w' := by
  obtain ⟨us, h1, h2, h3, h4, h5⟩ := h
  rcases h1.2 with ⟨rfl, hn⟩ | ⟨g, cap, cur, rfl, _⟩
  · obtain rfl : rs = [] := List.length_eq_zero_iff.1 hn
    obtain rfl : us = [] := by have := h2.1; simpa using this
    refine (markRowsNil w k0).mono ?_
    rintro e w' ⟨rfl, rfl⟩
    exact ⟨by simp [totR], ⟨[], h1, h2, h3, h4, h5⟩, BetwR.refl _ _ _⟩
  · refine (markRows B C rs.length cap g rs us w h1 h2 (fun u hu j hj e => h3 u hu j hj (by rw [e]; rfl)) h5 hBw hl rfl k0 hk0 hk1).mono ?_
    rintro e w' ⟨rfl, q1, q2, q3⟩
    exact ⟨rfl, ⟨us, by rw [marksRs_len]; exact q1, q2, h3, h4, h5⟩, q3⟩
theorem marksRs_small : ∀ (rs : List RowV) (k0 : Nat), totR rs ≤ 1048576 → k0 + 2 * totR rs ≤ 40000000 → ∀ r ∈ marksRs k0 rs, ∀ t ∈ r, t.1.size ≤ maxLen ∧ t.2.size ≤ maxLen
  | [], _, _, _, r, hr => by simp [marksRs] at hr
  | s :: rs, k0, h1, h2, r, hr => by
    have e : totR (s :: rs) = s.length + totR rs := by simp [totR]
    rw [e] at h1 h2
    simp only [marksRs, List.mem_cons] at hr
    rcases hr with rfl | hr
    · exact marksPK_small k0 s.length (by omega) (by omega)
    · exact marksRs_small rs _ (by omega) (by omega) r hr
end Go.Proofs.YtiajdnhmjdfeeaaGreat
/- The exact laws' own comparison of two slices of rows; texts copied. -/
namespace Go.Proofs.YtiajdnhmjdfeeaaGreat
open Go.RowKit Go.WideShapes
set_option maxRecDepth 100000 in
set_option maxHeartbeats 1600000 in
theorem eqRows (a b : Option Addr) (la ca lb cb : Nat) (rs : List RowV) (w : World) (ha : IsRows w a la ca rs) (hb : IsRows w b lb cb rs) (hs : la + totR rs ≤ 1048576) :
    Calls Tryz.prog 14 #[.slice a la ca, .slice b lb cb] w fun e w' => e = .returned (.bool true) ∧ Below w.heap.size w w' := by
  have hlb : lb = la := by rw [← ha.len, ← hb.len]
  subst hlb
  have HA := Lib.hid ha
  have HB := Lib.hid hb
  have HTOT : Hid (∀ r ∈ rs, r.length ≤ 1048576) := Lib.hid (fun r hr => by have := totR_mem hr; omega)
  have HT := Lib.hid ha.len
  clear ha hb
  go_enter Tryz.func14, Tryz.ntmps14
  go_wp2_with fail
  go_loopw [5] (fun i wr => ∃ k : Nat, k ≤ lb ∧ i = .int .i64 k ∧ Below w.heap.size w wr) (fun i _ => lb - (intOf i).toNat)
  case atStart => exact ⟨0, Nat.zero_le _, rfl, Below.refl _ _⟩
  case round =>
    obtain ⟨k, hk, rfl, hnx⟩ := hrel
    have hk6 : (0 : Int) ≤ (k : Int) := by omega
    by_cases hlt : k < lb
    · obtain ⟨x, off, rfl, hx, _, _, hts, hc⟩ := (HA.out.next hnx).cells (by omega)
      obtain ⟨y, off', rfl, hy, _, _, _, hd⟩ := (HB.out.next hnx).cells (by omega)
      have ht : rs[k]? = some rs[k] := List.getElem?_eq_getElem (by omega)
      obtain ⟨a1, n1, k1, c0, hz1⟩ := hc k _ ht
      obtain ⟨a2, n2, k2, d0, hz2⟩ := hd k _ ht
      have hzt := HTOT.out _ (List.getElem_mem (by omega : k < rs.length))
      generalize rs[k] = r at hz1 hz2 hzt
      have hn : n1 ≤ 1048576 := by have := hz1.len; omega
      have E := Lib.hid (fun (W : World) (h : Below wr.heap.size wr W) => eqPairS a1 a2 n1 k1 n2 k2 r W (hz1.next h) (hz2.next h) hn)
      have hlt2 : (k : Int) < (lb : Int) := by omega
      have l1 : x < wr.heap.size := hx
      have l2 : y < wr.heap.size := hy
      clear ht hts hc hd hz1 hz2
      go_wp2_with fail
      go_region_held3 (fun w' => w'.cell? ⟨x, off + k, none⟩ = some (.slice a1 n1 k1) ∧ w'.cell? ⟨y, off' + k, none⟩ = some (.slice a2 n2 k2))
        (first | go_keep | (go_split_ands; refine ⟨?_, ?_⟩ <;> (rw [ha4.cell (by first | (simp; done) | exact World.block_lt_of_cell? _ _ (by assumption))]; assumption)))
        (first | (go_at_call 55; refine (E.out _ (Below.drew (Below.refl _ _))).mono ?_; rintro e wa ⟨rfl, ha4⟩))
      have B : Below w.heap.size w wa := (Below.drew hnx).trans (ha4.mono hnx.size)
      clear ha4 hnx c0 d0 E
      go_wp2_with fail
      go_roundw
      case rel => exact ⟨k + 1, by omega, by go_num, B⟩
      case measure => simp [intOf]; omega
    · go_wp2_with fail
      go_ret
      exact ⟨rfl, hnx⟩
set_option maxRecDepth 100000 in
set_option maxHeartbeats 1600000 in
theorem toStrs (a : Option Addr) (len cap : Nat) (ts : List ByteArray) (w : World) (h : IsStrs w a len cap ts) (hs : len ≤ 1048576) :
    Calls Tryz.prog 52 #[.slice a len cap] w fun e w' => ∃ v, e = .returned v ∧ OwnS w.heap.size w' v ts ∧ Below w.heap.size w w' := by
  obtain ⟨i0, hi, hz0, hz1, hz2⟩ := info_parts infoStr
  have HT := Lib.hid h.len
  have H := Lib.hid h
  clear h
  go_enter Tryz.func52, Tryz.ntmps52
  go_wp2_with (at_make; refine wpList_make_full _ rfl _ _ 23 rfl w.heap.size 9 i0 _ 1 Tryz.underlying23 hi hz0 hz1 .i64 .i64 _ _ len rfl rfl rfl rfl ?c1 ?c2 (Nat.le_refl _) ?_)
  case c1 => rw [hz2]; omega
  case c2 => unfold maxLen; omega
  intro w0 hown0 hg0
  have hb0 : Below w.heap.size w w0 := (Below.refl _ _).grown hg0 (Nat.le_refl _) (by simp)
  clear hg0
  go_wp2_with fail
  go_loopw [4] (fun i wr => ∃ k : Nat, k ≤ len ∧ i = .int .i64 k ∧ (∃ xs : List Value, wr.ownsRow w.heap.size 9 1 (.slice (some ⟨w.heap.size, 0, none⟩) len len) len xs ∧ Hid (xs.take k = (ts.take k).map strV)) ∧ Below w.heap.size w wr) (fun i _ => len - (intOf i).toNat)
  case atStart => exact ⟨0, Nat.zero_le _, rfl, ⟨_, hown0, Lib.hid (by simp)⟩, hb0⟩
  case round =>
    obtain ⟨k, hk, rfl, ⟨xs, hown, hx⟩, hnx⟩ := hrel
    have hk6 : (0 : Int) ≤ (k : Int) := by omega
    by_cases hlt : k < len
    · obtain ⟨b, off, rfl, hb, hl, hm, hts, hc⟩ := (H.out.next hnx).cells (by omega)
      have ht : ts[k]? = some ts[k] := List.getElem?_eq_getElem (by omega)
      have HS : Hid (ts.take (k + 1) = ts.take k ++ [ts[k]]) := Lib.hid (List.take_succ_eq_append_getElem (by omega))
      have c0 := hc k _ ht
      generalize ts[k] = z at c0 HS
      clear ht hts hc hm
      have hlt2 : (k : Int) < (len : Int) := by omega
      have hxl : xs.length = len := by have := hown.1; omega
      have e0 : wr.cell? ⟨w.heap.size, k, none⟩ = some (xs[k]'(by omega)) := by rw [hown.cellAt _ (by omega), List.getElem?_eq_getElem (by omega)]
      have f0 := hown.frozenAt k
      have O1 := (hown.stored k (.string z)).1
      have HX : Hid ((xs.set k (.string z)).take (k + 1) = (ts.take (k + 1)).map strV) := Lib.hid (by
        rw [HS.out, List.map_append]; exact setR _ hx.out (by omega))
      have B3 := hnx.setCell (p := ⟨w.heap.size, k, none⟩) (Nat.le_refl _) (.string z)
      generalize xs[k]'(by omega) = z0 at e0
      clear hxl
      go_wp2_with fail
      go_roundw
      case rel => exact ⟨k + 1, by omega, by go_num, ⟨_, O1, HX⟩, B3⟩
      case measure => simp [intOf]; omega
    · have HX : Hid (xs = ts.map strV) := Lib.hid (by
        have := hx.out
        have hxl : xs.length = len := by have := hown.1; omega
        rwa [List.take_of_length_le (by omega), List.take_of_length_le (by rw [HT.out]; omega)] at this)
      go_wp2_with fail
      go_ret
      exact ⟨_, rfl, by unfold OwnS; rw [← HX.out, HT.out]; exact hown, hnx⟩
end Go.Proofs.YtiajdnhmjdfeeaaGreat
/- The exact laws' steps at rows that a call owns, told by where things lie. -/
namespace Go.Proofs.YtiajdnhmjdfeeaaGreat
open Go.RowKit Go.WideShapes
def SmAllR (rs : List RowV) : Prop := ∀ r ∈ rs, ∀ t ∈ r, t.1.size ≤ maxLen ∧ t.2.size ≤ maxLen
/-- The call owns these rows, between B and C. -/
def OwnRw (B C : Nat) (v : Value) (rs : List RowV) (w : World) : Prop := B ≤ C ∧ OwnRsC B C w v rs
theorem ownRw_lives {B C : Nat} {v : Value} {rs : List RowV} : Lives B C (OwnRw B C v rs) := by
  rintro w w' he ⟨hBC, us, h1, h2, h3, h4, h5⟩
  refine ⟨hBC, us, (row_lives w w' he ⟨h1, h4⟩).1, ⟨h2.1, fun i u r hu hr => ?_, h2.2.2⟩, h3, h4, h5⟩
  exact (row_lives w w' he ⟨h2.2.1 i u r hu hr, fun j hj => h5 u (List.mem_of_getElem? hu) j hj⟩).1
theorem ownRw_new {w w' : World} {v : Value} {rs : List RowV} (h : OwnRs w.heap.size w' v rs) (hb : Below w.heap.size w w') : Holds w.heap.size w'.heap.size w' (OwnRw w.heap.size w'.heap.size v rs) :=
  ⟨ownRw_lives, Nat.le_refl _, hb.size, OwnRsC.of h⟩
theorem OwnRw.read {B C : Nat} {w : World} {a : Option Addr} {n c : Nat} {rs : List RowV} (h : OwnRw B C (.slice a n c) rs w) (hm : SmAllR rs) (_hl : rs.length = n) : IsRows w a n c rs := OwnRsC.isN h.2 hm
theorem BetwR.turn {B C : Nat} {w w' : World} (h : BetwR B C w w') : Turn B C w w' :=
  ⟨h.1.os, h.1.tape, h.1.output, h.1.size, fun k hk hd => hd.elim (fun g => h.1.block k g) (fun g => h.2 k g hk)⟩
theorem exMarkRw {B C : Nat} {a : Option Addr} {n c : Nat} {rs : List RowV} {w : World} (h : Holds B C w (OwnRw B C (.slice a n c) rs)) (hs : n + totR rs ≤ 1048576) (hl : rs.length = n) (k0 : Nat) (hk0 : 0 < k0) (hk1 : k0 ≤ 4000000) :
    Calls Tryz.prog 19 #[.slice a n c, .int .i64 k0] w fun e w' => e = .returned (.int .i64 ((k0 + 2 * totR rs : Nat) : Int)) ∧ Holds B C w' (OwnRw B C (.slice a n c) (marksRs k0 rs)) ∧ Turn B C w w' := by
  subst hl
  refine (markRowsAny B C _ rs w h.now.2 (Nat.le_trans h.now.1 h.le) hs k0 hk0 hk1).mono ?_
  rintro e w' ⟨rfl, ho, hb⟩
  exact ⟨rfl, ⟨ownRw_lives, Nat.le_trans h.le hb.1.size, h.now.1, ho⟩, hb.turn⟩
theorem exHeldRw {B C : Nat} {a : Option Addr} {n c : Nat} {rs : List RowV} {w : World} {k0 : Nat} (h : Holds B C w (OwnRw B C (.slice a n c) (marksRs k0 rs))) (hs : n + totR rs ≤ 1048576) (hk0 : 0 < k0) (hk1 : k0 ≤ 1000000) :
    Calls Tryz.prog 20 #[.slice a n c, .int .i64 k0] w fun e w' => e = .returned (.int .i64 ((k0 + 2 * totR rs : Nat) : Int)) ∧ Below w.heap.size w w' :=
  heldRows a n c rs w k0 (OwnRsC.isN h.now.2 (marksRs_small rs k0 (by omega) (by omega))) hs hk0 (by omega)
end Go.Proofs.YtiajdnhmjdfeeaaGreat
