/- The exact laws' own marks: their texts, and a slice of triples that is marked and looked at again. -/
import Derived.Test.YtnmoobahchlliaaJExactProjected20
import Derived.Deep.RegionHeld3
import Derived.Test.YtnmoobahchlliaaJExactProjected17
namespace Go.Proofs.Ytnmoobahchlliaa
open Go.RowKit Go.WideShapes
theorem graphOk_le {ts : List Tri3} (h : graphOk ts = true) : ts.length ≤ 80 := by
  unfold graphOk at h
  simp only [Bool.and_eq_true, decide_eq_true_eq] at h
  exact h.1
def dig (n : Nat) : List UInt8 := if _h : n = 0 then [] else dig (n / 10) ++ [UInt8.ofNat (48 + n % 10)]
termination_by n
decreasing_by omega
theorem dig_zero : dig 0 = [] := by unfold dig; simp
theorem dig_step {n : Nat} (h : 0 < n) : dig n = dig (n / 10) ++ [UInt8.ofNat (48 + n % 10)] := by
  conv => lhs; unfold dig
  rw [dif_neg (by omega)]
def mark (n : Nat) : ByteArray := bs (109 :: dig n)
theorem mark_text (o : ByteArray) : { data := #[109] } ++ o = bs (109 :: o.data.toList) := by
  apply bs_eq
  simp
set_option maxRecDepth 100000 in
set_option maxHeartbeats 1600000 in
theorem markText (n : Nat) (h0 : 0 < n) (h1 : n ≤ 8000000) (w : World) :
    Calls Try.prog 44 #[.int .i64 n] w fun e w' => e = .returned (.string (mark n)) ∧ Below w.heap.size w w' := by
  have h2 : ¬ (n : Int) ≤ 0 := by omega
  go_enter Try.func44, Try.ntmps44
  go_wp2_with fail
  go_loopw [0, 3] (fun k o wr => ∃ (m : Nat) (O : ByteArray), k = .int .i64 m ∧ o = .string O ∧ m + O.size ≤ n ∧ Hid (dig m ++ O.data.toList = dig n) ∧ Below w.heap.size w wr) (fun k _ _ => (intOf k).toNat)
  case atStart => exact ⟨n, ⟨#[]⟩, rfl, rfl, Nat.le_refl _, Lib.hid (by simp), Below.refl _ _⟩
  case round =>
    obtain ⟨m, O, rfl, rfl, hm, hd, hnx⟩ := hrel
    by_cases g : 0 < m
    · have g2 : (0 : Int) < (m : Int) := by omega
      have hcv := run_convert_bytes_arg (P := Try.prog) (wr.alloc (.cells #[.int .u8 (48 + (m : Int) % 10)] 5)) 111 5 Try.underlying111 Try.underlying5 wr.heap.size 0 1 1 [48 + (m : Int) % 10] rfl (fun i hi => by
        obtain rfl : i = 0 := by omega
        simp [List.getD]) 9 Try.underlying9
      obtain ⟨D, hD⟩ : ∃ D, strOfNums [48 + (m : Int) % 10] = D := ⟨_, rfl⟩
      rw [hD] at hcv
      have hDl : D.data.toList = [UInt8.ofNat (48 + m % 10)] := by
        rw [← hD]
        have e : (48 + (m : Int) % 10).toNat = 48 + m % 10 := by omega
        simp [strOfNums, e]
      have hDs : D.size = 1 := by rw [← size_len, hDl]; rfl
      have hO : O.size ≤ 8000000 := by omega
      have hDO : (D ++ O).size = O.size + 1 := by rw [ByteArray.size_append]; omega
      have HD : Hid (dig (m / 10) ++ (D ++ O).data.toList = dig n) := Lib.hid (by
        rw [← hd.out, dig_step g, ByteArray.data_append, Array.toList_append, hDl]; simp)
      have hq : ((m / 10 : Nat) : Int) = (m : Int) / 10 := by omega
      have B1 := hnx.alloc hnx.size (.cells #[.int .u8 (48 + (m : Int) % 10)] 5)
      clear hD hDl hd hnx
      go_wp2_with fail
      go_roundw
      case rel => exact ⟨m / 10, D ++ O, by rw [hq], rfl, by omega, HD, B1⟩
      case measure => simp [intOf]; omega
    · obtain rfl : m = 0 := by omega
      have HR : Hid ({ data := #[109] } ++ O = mark n) := Lib.hid (by have := hd.out; rw [dig_zero, List.nil_append] at this; rw [mark_text, this]; rfl)
      have hO : O.size ≤ 8000000 := by omega
      go_wp2_with fail
      go_ret
      exact ⟨by rw [← HR.out]; rfl, hnx⟩
def markT (i : Nat) : Tri3 := (mark (1 + 3 * i), mark (1 + 3 * i + 1), mark (1 + 3 * i + 2))
def marksT (n : Nat) : List Tri3 := (List.range n).map markT
theorem marksT_succ (n : Nat) : marksT (n + 1) = marksT n ++ [markT n] := by unfold marksT; rw [List.range_succ, List.map_append]; rfl
theorem marksT_len (n : Nat) : (marksT n).length = n := by simp [marksT]
theorem marksT_at {n i : Nat} (h : i < n) : (marksT n)[i]? = some (markT i) := by unfold marksT; rw [List.getElem?_map, List.getElem?_range h]; rfl
theorem grown_set {w w' : World} {g : Nat} (h : w.grownBy w' (some g)) (j : Nat) (u : Value) : w.grownBy (w'.setCell ⟨g, j, none⟩ u) (some g) := by
  refine ⟨h.os, h.tape, h.output, by have := h.size; simp [World.setCell]; omega, fun k hk hne => ?_⟩
  rw [Below.heap_setCell _ _ _ _ (by intro e; exact hne (by rw [e]))]
  exact h.block k hk hne
theorem grown_any {w w' : World} (h : w.grownBy w' none) (r : Option Nat) : w.grownBy w' r := ⟨h.os, h.tape, h.output, h.size, fun k hk _ => h.block k hk (by simp)⟩
theorem own_keep {B e g n c : Nat} {w w' : World} {xs : List Value} (h : w.ownsRow B e 3 (.slice (some ⟨g, 0, none⟩) n c) n xs) (hb : Below w.heap.size w w') : w'.ownsRow B e 3 (.slice (some ⟨g, 0, none⟩) n c) n xs := h.kept (grown_of_below hb) (.inr (by simp [Value.ownBlock]))
set_option maxRecDepth 100000 in
set_option maxHeartbeats 1600000 in
theorem markTriS (B : Nat) (v : Value) (ts : List Tri3) (w : World) (h : OwnT B w v ts) (hl : ts.length ≤ 80) :
    Calls Try.prog 22 #[v, .int .i64 1] w fun e w' => e = .returned (.int .i64 (1 + 3 * ts.length)) ∧ OwnT B w' v (marksT ts.length) ∧ w.grownBy w' v.ownBlock := by
  obtain ⟨n, hn⟩ : ∃ n, ts.length = n := ⟨_, rfl⟩
  have h0 := h
  rw [hn] at hl ⊢
  by_cases hz : n = 0
  · subst hz
    obtain rfl : ts = [] := List.length_eq_zero_iff.1 hn
    obtain ⟨a, c, rfl⟩ : ∃ a c, v = .slice a 0 c := by
      rcases h.2 with ⟨rfl, _⟩ | ⟨g, c, cur, rfl, _⟩
      · exact ⟨_, _, rfl⟩
      · exact ⟨_, _, rfl⟩
    go_enter Try.func22, Try.ntmps22
    go_wp2_with fail
    refine wp_loop_rounds 1 ?_
    rw [rounds_succ]
    go_wp2_with fail
    go_ret
    exact ⟨rfl, h0, World.grownBy.refl _ _⟩
  unfold OwnT at h
  rw [hn] at h
  obtain ⟨g, c, rfl⟩ : ∃ g c, v = .slice (some ⟨g, 0, none⟩) n c := by
    rcases h.2 with ⟨_, e⟩ | ⟨g, c, cur, rfl, _⟩
    · exact absurd e hz
    · exact ⟨g, c, rfl⟩
  have hg := (h.lt g (by simp [Value.ownBlock])).2
  have O0 := h
  obtain ⟨xs0, hxs⟩ : ∃ xs, flat ts = xs := ⟨_, rfl⟩
  rw [hxs] at O0
  clear h h0 hxs hn
  go_enter Try.func22, Try.ntmps22
  go_wp2_with fail
  go_loopw [1, 5] (fun q i wr => ∃ k : Nat, k ≤ n ∧ i = .int .i64 k ∧ q = .int .i64 ((1 + 3 * k : Nat) : Int) ∧ (∃ xs : List Value, wr.ownsRow B 76 3 (.slice (some ⟨g, 0, none⟩) n c) n xs ∧ Hid (xs.take (k * 3) = flat (marksT k))) ∧ w.grownBy wr (some g)) (fun _ i _ => n - (intOf i).toNat)
  case atStart => exact ⟨0, Nat.zero_le _, rfl, rfl, ⟨_, O0, Lib.hid (by simp [flat, marksT])⟩, World.grownBy.refl _ _⟩
  case round =>
    obtain ⟨k, hk, rfl, rfl, ⟨xs, hown, hx⟩, hnx⟩ := hrel
    by_cases hlt : k < n
    · have hk6 : (0 : Int) ≤ (k : Int) := by omega
      have hk7 : (k : Int) < (n : Int) := by omega
      have m0 := markText (1 + 3 * k) (by omega) (by omega)
      have m1 := markText (1 + 3 * k + 1) (by omega) (by omega)
      have m2 := markText (1 + 3 * k + 2) (by omega) (by omega)
      obtain ⟨q, hq⟩ : ∃ q : Nat, 1 + 3 * k = q := ⟨_, rfl⟩
      rw [hq] at m0 m1 m2
      have c1 : ((q + 1 : Nat) : Int) = (q : Int) + 1 := by omega
      have c2 : ((q + 2 : Nat) : Int) = (q : Int) + 1 + 1 := by omega
      rw [c1] at m1
      rw [c2] at m2
      have M0 := Lib.hid m0
      have M1 := Lib.hid m1
      have M2 := Lib.hid m2
      have hxl : xs.length = n * 3 := hown.1
      have HX : Hid ((((xs.set (k * 3) (.string (mark q))).set (k * 3 + 1) (.string (mark (q + 1)))).set (k * 3 + 2) (.string (mark (q + 2)))).take ((k + 1) * 3) = flat (marksT (k + 1))) := Lib.hid (by
        rw [marksT_succ, flat_snoc, ← hq]; exact set3 _ _ _ hx.out (by omega))
      clear m0 m1 m2 c1 c2
      rw [hq]
      have hqs : q ≤ 241 := by omega
      have hq3 : ((1 + 3 * (k + 1) : Nat) : Int) = (q : Int) + 1 + 1 + 1 := by omega
      clear hq
      go_wp2_with fail
      refine (M0.out _).mono ?_
      rintro e w1 ⟨rfl, hb1⟩
      have G1 := hnx.trans (grown_any (grown_of_below hb1) (some g))
      have P1 := own_keep hown hb1
      have e0 : w1.cell? ⟨g, k * 3, none⟩ = some (xs[k * 3]'(by omega)) := by rw [P1.cellAt _ (by omega), List.getElem?_eq_getElem (by omega)]
      have f0 := P1.frozenAt (k * 3)
      have P2 := (P1.stored (k * 3) (.string (mark q))).1
      have G2 := grown_set G1 (k * 3) (.string (mark q))
      generalize xs[k * 3]'(by omega) = z0 at e0
      clear hb1 hnx hown P1 G1
      go_wp2_with fail
      refine (M1.out _).mono ?_
      rintro e w2 ⟨rfl, hb2⟩
      have G3 := G2.trans (grown_any (grown_of_below hb2) (some g))
      have P3 := own_keep P2 hb2
      obtain ⟨ys, hys⟩ : ∃ ys, xs.set (k * 3) (.string (mark q)) = ys := ⟨_, rfl⟩
      rw [hys] at P3 HX
      have hyl : ys.length = n * 3 := P3.1
      have e1 : w2.cell? ⟨g, k * 3 + 1, none⟩ = some (ys[k * 3 + 1]'(by omega)) := by rw [P3.cellAt _ (by omega), List.getElem?_eq_getElem (by omega)]
      have f1 := P3.frozenAt (k * 3 + 1)
      have P4 := (P3.stored (k * 3 + 1) (.string (mark (q + 1)))).1
      have G4 := grown_set G3 (k * 3 + 1) (.string (mark (q + 1)))
      generalize ys[k * 3 + 1]'(by omega) = z1 at e1
      clear hb2 P2 P3 G2 G3 e0 f0 hys
      go_wp2_with fail
      refine (M2.out _).mono ?_
      rintro e w3 ⟨rfl, hb3⟩
      have G5 := G4.trans (grown_any (grown_of_below hb3) (some g))
      have P5 := own_keep P4 hb3
      obtain ⟨us, hus⟩ : ∃ us, ys.set (k * 3 + 1) (.string (mark (q + 1))) = us := ⟨_, rfl⟩
      rw [hus] at P5 HX
      have hul : us.length = n * 3 := P5.1
      have e2 : w3.cell? ⟨g, k * 3 + 2, none⟩ = some (us[k * 3 + 2]'(by omega)) := by rw [P5.cellAt _ (by omega), List.getElem?_eq_getElem (by omega)]
      have f2 := P5.frozenAt (k * 3 + 2)
      have P6 := (P5.stored (k * 3 + 2) (.string (mark (q + 2)))).1
      have G6 := grown_set G5 (k * 3 + 2) (.string (mark (q + 2)))
      generalize us[k * 3 + 2]'(by omega) = z2 at e2
      clear hb3 P4 P5 G4 G5 e1 f1 hus
      go_wp2_with fail
      go_roundw
      case rel => exact ⟨k + 1, by omega, by go_num, by rw [hq3], ⟨_, P6, HX⟩, G6⟩
      case measure => simp [intOf]; omega
    · obtain rfl : k = n := by omega
      have HX : Hid (xs = flat (marksT k)) := Lib.hid (by
        have := hx.out
        have hxl : xs.length = k * 3 := hown.1
        rwa [List.take_of_length_le (by rw [hxl]; omega)] at this)
      have hv : ((1 + 3 * k : Nat) : Int) = 1 + 3 * (k : Int) := by omega
      go_wp2_with fail
      go_ret
      refine ⟨by rw [← hv]; rfl, ?_, hnx⟩
      unfold OwnT
      rw [← HX.out, marksT_len]
      exact hown
end Go.Proofs.Ytnmoobahchlliaa
/- A slice of texts: what its cells hold; one of the call's own; the exact laws' comparison, marks and second look. -/
namespace Go.Proofs.Ytnmoobahchlliaa
open Go.RowKit Go.WideShapes
/-- The slice is nil, or its cells hold the texts ts. -/
def IsStrs (w : World) (a : Option Addr) (len cap : Nat) (ts : List ByteArray) : Prop :=
  (a = none ∧ len = 0 ∧ cap = 0 ∧ ts = []) ∨
  ∃ x, a = some x ∧ len ≤ cap ∧ cap ≤ maxLen ∧ ts.length = len ∧ ∀ (i : Nat) (t : ByteArray), ts[i]? = some t → w.cell? (x.add i) = some (.string t)
theorem IsStrs.cells {w : World} {a : Option Addr} {len cap : Nat} {ts : List ByteArray} (h : IsStrs w a len cap ts) (h0 : 0 < len) : ∃ b off, a = some ⟨b, off, none⟩ ∧ b < w.heap.size ∧ len ≤ cap ∧ cap ≤ maxLen ∧ ts.length = len ∧
    ∀ (i : Nat) (t : ByteArray), ts[i]? = some t → w.cell? ⟨b, off + i, none⟩ = some (.string t) := by
  rcases h with ⟨_, rfl, _⟩ | ⟨x, rfl, h1, h2, h3, h4⟩
  · omega
  · obtain ⟨b, off, spot⟩ := x
    have ht : ts[0]? = some ts[0] := List.getElem?_eq_getElem (by omega)
    have hc := h4 0 _ ht
    obtain rfl : spot = none := by simpa [Addr.add] using World.cell?_spot hc
    refine ⟨b, off, rfl, by have := World.block_lt_of_cell? _ _ hc; simpa [Addr.add] using this, h1, h2, h3, fun i t hi => ?_⟩
    have c0 := h4 i t hi
    rw [add_plain] at c0
    exact c0
theorem IsStrs.len {w : World} {a : Option Addr} {len cap : Nat} {ts : List ByteArray} (h : IsStrs w a len cap ts) : ts.length = len := by
  rcases h with ⟨_, rfl, _, rfl⟩ | ⟨_, _, _, _, h, _⟩
  · rfl
  · exact h
theorem IsStrs.maxl {w : World} {a : Option Addr} {len cap : Nat} {ts : List ByteArray} (h : IsStrs w a len cap ts) : len ≤ 9223372036854775807 := by
  rcases h with ⟨_, rfl, _, _⟩ | ⟨_, _, h1, h2, _⟩
  · omega
  · unfold maxLen at h2; omega
theorem IsStrs.next {w w' : World} {a : Option Addr} {len cap : Nat} {ts : List ByteArray} (h : IsStrs w a len cap ts) (hb : Below w.heap.size w w') : IsStrs w' a len cap ts := by
  rcases h with h | ⟨x, rfl, h2, h3, h4, h5⟩
  · exact .inl h
  · exact .inr ⟨x, rfl, h2, h3, h4, fun i t hi => by
      have c0 := h5 i t hi
      rw [hb.cell (World.block_lt_of_cell? _ _ c0)]; exact c0⟩
abbrev strV (t : ByteArray) : Value := .string t
/-- The call owns a slice of these texts. -/
def OwnS (B : Nat) (w : World) (v : Value) (ts : List ByteArray) : Prop := w.ownsRow B 9 1 v ts.length (ts.map strV)
theorem infoStr : (Try.prog.info? 9).map (fun i => (i.zero, i.size, i.bytes)) = some (some (.string ⟨#[]⟩), 1, 16) := by kernel_rfl
theorem OwnS.is {B : Nat} {w : World} {v : Value} {ts : List ByteArray} (h : OwnS B w v ts) : ∃ a cap, v = .slice a ts.length cap ∧ IsStrs w a ts.length cap ts := by
  have h0 := h
  obtain ⟨_, hc⟩ := h
  rcases hc with ⟨rfl, hl⟩ | ⟨g, cap, cur, rfl, _, hb, h1, h2, _⟩
  · exact ⟨none, 0, by rw [hl], .inl ⟨rfl, hl, rfl, List.length_eq_zero_iff.1 hl⟩⟩
  · refine ⟨_, cap, rfl, .inr ⟨⟨g, 0, none⟩, rfl, h1, h2, rfl, fun i t hi => ?_⟩⟩
    have hl : i < ts.length := (List.getElem?_eq_some_iff.1 hi).1
    have k0 := h0.cellAt i (by omega)
    have e : (⟨g, 0, none⟩ : Addr).add i = ⟨g, i, none⟩ := by rw [add_plain, Nat.zero_add]
    rw [e, k0, List.getElem?_map, hi]; rfl
theorem OwnS.kept {B : Nat} {w w' : World} {v : Value} {ts : List ByteArray} (h : OwnS B w v ts) (hb : Below w.heap.size w w') : OwnS B w' v ts := World.ownsRow.kept h (grown_of_below hb) (by
  rcases hv : v.ownBlock with _ | i
  · exact .inl rfl
  · exact .inr (by simp))
theorem ownS_snoc {B : Nat} {w : World} {v : Value} {ts : List ByteArray} {t : ByteArray} (h : w.ownsRow B 9 1 v (ts.length + 1) (ts.map strV ++ [.string t])) : OwnS B w v (ts ++ [t]) := by
  unfold OwnS; simpa using h
theorem ownS_base {B C : Nat} {w : World} {v : Value} {ts : List ByteArray} (h : OwnS B w v ts) (hc : C ≤ B) : OwnS C w v ts := by
  obtain ⟨h1, h2⟩ := h
  refine ⟨h1, ?_⟩
  rcases h2 with h2 | ⟨g, cap, cur, e, hB, r⟩
  · exact .inl h2
  · exact .inr ⟨g, cap, cur, e, Nat.le_trans hc hB, r⟩
set_option maxRecDepth 100000 in
set_option maxHeartbeats 1600000 in
theorem eqStrS (a b : Option Addr) (la ca lb cb : Nat) (ts : List ByteArray) (w : World) (ha : IsStrs w a la ca ts) (hb : IsStrs w b lb cb ts) (hs : la ≤ 1048576) :
    Calls Try.prog 13 #[.slice a la ca, .slice b lb cb] w fun e w' => e = .returned (.bool true) ∧ Below w.heap.size w w' := by
  have hlb : lb = la := by rw [← ha.len, ← hb.len]
  subst hlb
  have HA := Lib.hid ha
  have HB := Lib.hid hb
  have HT := Lib.hid ha.len
  clear ha hb
  go_enter Try.func13, Try.ntmps13
  go_wp2_with fail
  go_loopw [5] (fun i wr => ∃ k : Nat, k ≤ lb ∧ i = .int .i64 k ∧ Below w.heap.size w wr) (fun i _ => lb - (intOf i).toNat)
  case atStart => exact ⟨0, Nat.zero_le _, rfl, Below.refl _ _⟩
  case round =>
    obtain ⟨k, hk, rfl, hnx⟩ := hrel
    by_cases hlt : k < lb
    · obtain ⟨x, off, rfl, hx, _, _, hts, hc⟩ := HA.out.cells (by omega)
      obtain ⟨y, off', rfl, hy, _, _, _, hd⟩ := HB.out.cells (by omega)
      have ht : ts[k]? = some ts[k] := List.getElem?_eq_getElem (by omega)
      have c0 := hc k _ ht
      have d0 := hd k _ ht
      rw [← hnx.cell (p := ⟨x, _, none⟩) hx] at c0
      rw [← hnx.cell (p := ⟨y, _, none⟩) hy] at d0
      generalize ts[k] = t at c0 d0
      have hk6 : (0 : Int) ≤ (k : Int) := by omega
      have hk7 : (k : Int) < (lb : Int) := by omega
      clear ht hts hc hd
      go_wp2_with fail
      go_quiet (fail)
      have B : Below w.heap.size w (wr.drewN nq) := below_drewN hnx nq
      clear hnx c0 d0
      generalize wr.drewN nq = wd at B ⊢
      go_wp2_with fail
      go_roundw
      case rel => exact ⟨k + 1, by omega, by go_num, B⟩
      case measure => simp [intOf]; omega
    · go_wp2_with fail
      go_ret
      exact ⟨rfl, hnx⟩
def marksS (k n : Nat) : List ByteArray := (List.range n).map fun i => mark (k + i)
theorem marksS_succ (k n : Nat) : marksS k (n + 1) = marksS k n ++ [mark (k + n)] := by unfold marksS; rw [List.range_succ, List.map_append]; rfl
theorem marksS_len (k n : Nat) : (marksS k n).length = n := by simp [marksS]
theorem marksS_at {k n i : Nat} (h : i < n) : (marksS k n)[i]? = some (mark (k + i)) := by unfold marksS; rw [List.getElem?_map, List.getElem?_range h]; rfl
theorem set1 {xs l : List Value} {k : Nat} (a : Value) (h : xs.take k = l) (hl : k < xs.length) : (xs.set k a).take (k + 1) = l ++ [a] := by
  subst h
  rw [List.take_succ_eq_append_getElem (by simpa using hl), List.take_set_of_le (Nat.le_refl _)]
  simp
theorem own_keep1 {B e g n c : Nat} {w w' : World} {xs : List Value} (h : w.ownsRow B e 1 (.slice (some ⟨g, 0, none⟩) n c) n xs) (hb : Below w.heap.size w w') : w'.ownsRow B e 1 (.slice (some ⟨g, 0, none⟩) n c) n xs := h.kept (grown_of_below hb) (.inr (by simp [Value.ownBlock]))
set_option maxRecDepth 100000 in
set_option maxHeartbeats 1600000 in
theorem markStrS (B : Nat) (v : Value) (ts : List ByteArray) (w : World) (h : OwnS B w v ts) (hl : ts.length ≤ 1048576) (k0 : Nat) (hk0 : 0 < k0) (hk1 : k0 ≤ 4000000) :
    Calls Try.prog 15 #[v, .int .i64 k0] w fun e w' => e = .returned (.int .i64 ((k0 + ts.length : Nat) : Int)) ∧ OwnS B w' v (marksS k0 ts.length) ∧ w.grownBy w' v.ownBlock := by
  obtain ⟨n, hn⟩ : ∃ n, ts.length = n := ⟨_, rfl⟩
  have h0 := h
  rw [hn] at hl ⊢
  by_cases hz : n = 0
  · subst hz
    obtain rfl : ts = [] := List.length_eq_zero_iff.1 hn
    obtain ⟨a, c, rfl⟩ : ∃ a c, v = .slice a 0 c := by
      rcases h.2 with ⟨rfl, _⟩ | ⟨g, c, cur, rfl, _⟩
      · exact ⟨_, _, rfl⟩
      · exact ⟨_, _, rfl⟩
    clear h hn
    have H0 := Lib.hid h0
    clear h0
    go_enter Try.func15, Try.ntmps15
    go_wp2_with fail
    refine wp_loop_rounds 1 ?_
    rw [rounds_succ]
    go_wp2_with fail
    go_ret
    exact ⟨rfl, H0.out, World.grownBy.refl _ _⟩
  unfold OwnS at h
  rw [hn] at h
  obtain ⟨g, c, rfl⟩ : ∃ g c, v = .slice (some ⟨g, 0, none⟩) n c := by
    rcases h.2 with ⟨_, e⟩ | ⟨g, c, cur, rfl, _⟩
    · exact absurd e hz
    · exact ⟨g, c, rfl⟩
  have O0 := h
  obtain ⟨xs0, hxs⟩ : ∃ xs, ts.map strV = xs := ⟨_, rfl⟩
  rw [hxs] at O0
  clear h h0 hxs hn
  go_enter Try.func15, Try.ntmps15
  go_wp2_with fail
  go_loopw [1, 5] (fun q i wr => ∃ k : Nat, k ≤ n ∧ i = .int .i64 k ∧ q = .int .i64 ((k0 + k : Nat) : Int) ∧ (∃ xs : List Value, wr.ownsRow B 9 1 (.slice (some ⟨g, 0, none⟩) n c) n xs ∧ Hid (xs.take k = (marksS k0 k).map strV)) ∧ w.grownBy wr (some g)) (fun _ i _ => n - (intOf i).toNat)
  case atStart => exact ⟨0, Nat.zero_le _, rfl, by rw [Nat.add_zero], ⟨_, O0, Lib.hid (by simp [marksS])⟩, World.grownBy.refl _ _⟩
  case round =>
    obtain ⟨k, hk, rfl, rfl, ⟨xs, hown, hx⟩, hnx⟩ := hrel
    by_cases hlt : k < n
    · have hk6 : (0 : Int) ≤ (k : Int) := by omega
      have hk7 : (k : Int) < (n : Int) := by omega
      have m0 := markText (k0 + k) (by omega) (by omega)
      have hxl : xs.length = n := by have := hown.1; omega
      have HX : Hid ((xs.set k (.string (mark (k0 + k)))).take (k + 1) = (marksS k0 (k + 1)).map strV) := Lib.hid (by
        rw [marksS_succ, List.map_append]; exact set1 _ hx.out (by omega))
      obtain ⟨q, hq⟩ : ∃ q : Nat, k0 + k = q := ⟨_, rfl⟩
      rw [hq] at m0 HX
      have M0 := Lib.hid m0
      rw [hq]
      have hqs : q ≤ 8000000 := by omega
      have hq3 : ((k0 + (k + 1) : Nat) : Int) = (q : Int) + 1 := by omega
      have HQ3 := Lib.hid hq3
      clear m0 hq hq3
      go_wp2_with fail
      refine (M0.out _).mono ?_
      rintro e w1 ⟨rfl, hb1⟩
      have G1 := hnx.trans (grown_any (grown_of_below hb1) (some g))
      have P1 := own_keep1 hown hb1
      have e0 : w1.cell? ⟨g, k, none⟩ = some (xs[k]'(by omega)) := by rw [P1.cellAt _ (by omega), List.getElem?_eq_getElem (by omega)]
      have f0 := P1.frozenAt k
      have P2 := (P1.stored k (.string (mark q))).1
      have G2 := grown_set G1 k (.string (mark q))
      generalize xs[k]'(by omega) = z0 at e0
      clear hb1 hnx hown P1 G1 hxl
      go_wp2_with fail
      go_roundw
      case rel => exact ⟨k + 1, by omega, by go_num, by rw [HQ3.out], ⟨_, P2, HX⟩, G2⟩
      case measure => simp [intOf]; omega
    · obtain rfl : k = n := by omega
      have HX : Hid (xs = (marksS k0 k).map strV) := Lib.hid (by
        have := hx.out
        have hxl : xs.length = k * 1 := hown.1
        rwa [List.take_of_length_le (by omega)] at this)
      go_wp2_with fail
      go_ret
      refine ⟨rfl, ?_, hnx⟩
      unfold OwnS
      rw [← HX.out, marksS_len]
      exact hown
set_option maxRecDepth 100000 in
set_option maxHeartbeats 1600000 in
theorem heldStrS (a : Option Addr) (n cap : Nat) (w : World) (k0 : Nat) (h : IsStrs w a n cap (marksS k0 n)) (hl : n ≤ 1048576) (hk0 : 0 < k0) (hk1 : k0 ≤ 4000000) :
    Calls Try.prog 23 #[.slice a n cap, .int .i64 k0] w fun e w' => e = .returned (.int .i64 ((k0 + n : Nat) : Int)) ∧ Below w.heap.size w w' := by
  have H := Lib.hid h
  clear h
  go_enter Try.func23, Try.ntmps23
  go_wp2_with fail
  go_loopw [1, 5] (fun q i wr => ∃ k : Nat, k ≤ n ∧ i = .int .i64 k ∧ q = .int .i64 ((k0 + k : Nat) : Int) ∧ Below w.heap.size w wr) (fun _ i _ => n - (intOf i).toNat)
  case atStart => exact ⟨0, Nat.zero_le _, rfl, by rw [Nat.add_zero], Below.refl _ _⟩
  case round =>
    obtain ⟨k, hk, rfl, rfl, hnx⟩ := hrel
    by_cases hlt : k < n
    · obtain ⟨b, off, rfl, hb, _, _, _, hc⟩ := H.out.cells (by omega)
      have c0 := hc k _ (marksS_at hlt)
      have hk6 : (0 : Int) ≤ (k : Int) := by omega
      have hk7 : (k : Int) < (n : Int) := by omega
      have m0 := markText (k0 + k) (by omega) (by omega)
      obtain ⟨q, hq⟩ : ∃ q : Nat, k0 + k = q := ⟨_, rfl⟩
      rw [hq] at m0 c0
      have M0 := Lib.hid m0
      rw [hq]
      have hqs : q ≤ 8000000 := by omega
      have hq3 : ((k0 + (k + 1) : Nat) : Int) = (q : Int) + 1 := by omega
      have HQ3 := Lib.hid hq3
      generalize mark q = t0 at *
      clear hq hq3 m0 hc
      go_wp2_with fail
      have KK := c0
      rw [← hnx.cell (p := ⟨b, _, none⟩) hb] at KK
      have LL : b < wr.heap.size := Nat.lt_of_lt_of_le hb hnx.size
      go_region_held3 (fun w' => w'.cell? ⟨b, off + k, none⟩ = some (.string t0))
        (first | go_keep | (rw [ha0.cell (by first | (simp; done) | exact World.block_lt_of_cell? _ _ (by assumption))]; assumption))
        (first | (go_at_call 44; refine (M0.out _).mono ?_; rintro e wa0 ⟨rfl, ha0⟩))
      have B0 : Below w.heap.size w wa0 := (Below.drew hnx).trans (ha0.mono hnx.size)
      clear ha0 KK LL hnx
      go_wp2_with fail
      go_roundw
      case rel => exact ⟨k + 1, by omega, by go_num, by rw [HQ3.out], B0⟩
      case measure => simp [intOf]; omega
    · obtain rfl : k = n := by omega
      go_wp2_with fail
      go_ret
      exact ⟨rfl, hnx⟩
end Go.Proofs.Ytnmoobahchlliaa
