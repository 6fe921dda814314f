/- The contracts of the exact laws' own helpers on pairs. -/
import Derived.Test.YthnpchcfjkepaaaG03
import Derived.Test.YthnpchcfjkepaaaG02
import Derived.Deep.RegionHeld3
namespace Go.Proofs.Ythnpchcfjkepaaa
open Go.RowKit Go.WideShapes
def szP (s p : Nat) (left : Int) : Int := if left - s < 0 then -1 else if left - s - p < 0 then -1 else left - s - p
theorem szP_yes {s p : Nat} {left : Int} (h : (s : Int) + p ≤ left) : szP s p left = left - s - p := by
  unfold szP; rw [if_neg (by omega), if_neg (by omega)]
theorem szP_no {s p : Nat} {left : Int} (h : ¬ (s : Int) + p ≤ left) : szP s p left = -1 := by
  unfold szP; split; · rfl
  rw [if_pos (by omega)]
theorem toPair (s p : ByteArray) (w : World) :
    Calls Try.prog 88 #[.agg #[.string s, .string p]] w fun e w' => e = .returned (.agg #[.string s, .string p]) ∧ Below w.heap.size w w' := by
  go_enter Try.func88, Try.ntmps88
  go_wp2
  refine bodyPost_ret (v := .agg #[.string s, .string p]) (by simp [results, Try.results88, go_sem]) rfl ⟨rfl, (((Below.refl _ _).alloc (Nat.le_refl _) _).alloc (by simp) _).alloc (by simp; omega) _⟩
theorem szPair (s p : ByteArray) (left : Int) (h0 : 0 ≤ left) (h1 : left ≤ 1048576) (hs : s.size ≤ 9223372036854775807) (hp : p.size ≤ 9223372036854775807) (w : World) :
    Calls Try.prog 86 #[.agg #[.string s, .string p], .int .i64 left] w fun e w' => e = .returned (.int .i64 (szP s.size p.size left)) ∧ Below w.heap.size w w' := by
  unfold szP
  by_cases g1 : left - s.size < 0
  · rw [if_pos g1]
    go_enter Try.func86, Try.ntmps86
    go_wp2
    go_ret
    exact ⟨rfl, (Below.refl _ _).alloc (Nat.le_refl _) _⟩
  rw [if_neg g1]
  by_cases g2 : left - s.size - p.size < 0
  · rw [if_pos g2]
    go_enter Try.func86, Try.ntmps86
    go_wp2
    go_ret
    exact ⟨rfl, (Below.refl _ _).alloc (Nat.le_refl _) _⟩
  · rw [if_neg g2]
    go_enter Try.func86, Try.ntmps86
    go_wp2
    go_ret
    exact ⟨rfl, (Below.refl _ _).alloc (Nat.le_refl _) _⟩
theorem eqPair (s p : ByteArray) (w : World) :
    Calls Try.prog 91 #[.agg #[.string s, .string p], .agg #[.string s, .string p]] w fun e w' => e = .returned (.bool true) ∧ Below w.heap.size w w' := by
  go_enter Try.func91, Try.ntmps91
  go_wp2
  go_ret
  exact ⟨rfl, ((Below.refl _ _).alloc (Nat.le_refl _) _).alloc (by simp) _⟩
/-- What a size that is not below 0 says of the pairs. -/
def SmallP (len : Nat) (ts : List Pre2) : Prop := len ≤ 1048576 ∧ ∀ t ∈ ts, t.1.size + t.2.size ≤ 1048576
def SzPostP (left : Int) (len : Nat) (ts : List Pre2) (w : World) (e : Ending) (w' : World) : Prop :=
  ∃ n : Int, e = .returned (.int .i64 n) ∧ (n = -1 ∨ (0 ≤ n ∧ n + len ≤ left ∧ SmallP len ts)) ∧ Below w.heap.size w w'
set_option maxRecDepth 100000 in
set_option maxHeartbeats 1600000 in
theorem szPairS (a : Option Addr) (len cap : Nat) (ts : List Pre2) (w : World) (h : IsPres w a len cap ts) (left : Int) (h0 : 0 ≤ left) (h1 : left ≤ 1048576) (hlen : len ≤ 9223372036854775807) :
    Calls Try.prog 54 #[.slice a len cap, .int .i64 left] w (SzPostP left len ts w) := by
  by_cases g : left - len < 0
  · clear h
    go_enter Try.func54, Try.ntmps54
    go_wp2_with fail
    go_ret
    exact ⟨-1, rfl, .inl rfl, Below.refl _ _⟩
  by_cases hz : len = 0
  · subst hz
    obtain rfl : ts = [] := List.length_eq_zero_iff.1 h.len
    clear h g
    go_enter Try.func54, Try.ntmps54
    go_wp2_with fail
    refine wp_loop_rounds 1 ?_
    rw [rounds_succ]
    go_wp2_with fail
    go_ret
    exact ⟨left, by simp, .inr ⟨h0, by omega, by omega, by simp⟩, Below.refl _ _⟩
  · obtain ⟨b, off, rfl, hb, hl, hm, hts, hc⟩ := h.cells (by omega)
    unfold maxLen at hm hc
    have HC := Lib.hid hc
    have HT := Lib.hid hts
    clear hc h
    go_enter Try.func54, Try.ntmps54
    go_wp2_with fail
    go_loopw [1, 5] (fun l i wr => ∃ k : Nat, k ≤ len ∧ i = .int .i64 k ∧ (∃ q : Int, 0 ≤ q ∧ q + len ≤ left ∧ l = .int .i64 q) ∧ Hid (∀ t ∈ ts.take k, t.1.size + t.2.size ≤ 1048576) ∧ Below w.heap.size w wr) (fun _ i _ => len - (intOf i).toNat)
    case atStart => exact ⟨0, Nat.zero_le _, rfl, ⟨_, by omega, by omega, rfl⟩, Lib.hid (by simp), Below.refl _ _⟩
    case round =>
      obtain ⟨k, hk, rfl, ⟨q, hq0, hq1, rfl⟩, hsm, hnx⟩ := hrel
      by_cases hlt : k < len
      · have ht : ts[k]? = some ts[k] := List.getElem?_eq_getElem (by omega)
        have HS : Hid (ts.take (k + 1) = ts.take k ++ [ts[k]]) := Lib.hid (List.take_succ_eq_append_getElem (by omega))
        obtain ⟨c0, c1, w0, w1⟩ := HC.out k _ ht
        rw [← hnx.cell (p := ⟨b, _, none⟩) hb] at c0 c1
        generalize ts[k] = t at c0 c1 w0 w1 HS
        clear ht
        have SZ := szPair t.1 t.2 q hq0 (by omega) w0 w1
        by_cases hs : (t.1.size : Int) + t.2.size ≤ q
        · rw [szP_yes hs] at SZ
          have D := Lib.hid SZ
          have HN : Hid (∀ t ∈ ts.take (k + 1), t.1.size + t.2.size ≤ 1048576) := Lib.hid (by
            rw [HS.out]
            intro u hu
            rcases List.mem_append.1 hu with hu | hu
            · exact hsm.out u hu
            · obtain rfl : u = t := by simpa using hu
              omega)
          have hn0 : ¬ q - t.1.size - t.2.size < 0 := by omega
          clear SZ
          go_wp2_with fail
          refine (D.out _).mono ?_
          rintro e wn ⟨rfl, hbn⟩
          have B := hnx.trans (hbn.mono hnx.size)
          clear hbn hnx c0 c1
          go_wp2_with fail
          go_roundw
          case rel => exact ⟨k + 1, by omega, by go_num, ⟨_, by omega, by omega, rfl⟩, HN, B⟩
          case measure => simp [intOf]; omega
        · rw [szP_no hs] at SZ
          have D := Lib.hid SZ
          clear SZ
          go_wp2_with fail
          refine (D.out _).mono ?_
          rintro e wn ⟨rfl, hbn⟩
          have B := hnx.trans (hbn.mono hnx.size)
          clear hbn hnx c0 c1
          go_wp2_with fail
          go_ret
          exact ⟨-1, rfl, .inl rfl, B⟩
      · go_wp2_with fail
        go_ret
        exact ⟨q, rfl, .inr ⟨hq0, hq1, by omega, by have := hsm.out; rwa [List.take_of_length_le (by rw [HT.out]; omega)] at this⟩, hnx⟩
end Go.Proofs.Ythnpchcfjkepaaa
/- The contract of the exact laws' own copy of a slice of pairs, and their comparison of two. -/
namespace Go.Proofs.Ythnpchcfjkepaaa
open Go.RowKit Go.WideShapes
def flatP (ts : List Pre2) : List Value := ts.flatMap fun t => [.string t.1, .string t.2]
theorem flatP_snoc (ts : List Pre2) (t : Pre2) : flatP (ts ++ [t]) = flatP ts ++ [.string t.1, .string t.2] := by simp [flatP]
theorem flatP_len (ts : List Pre2) : (flatP ts).length = ts.length * 2 := by
  induction ts with
  | nil => rfl
  | cons t r ih => simp only [flatP, List.flatMap_cons, List.length_append, List.length_cons, List.length_nil] at *; omega
theorem flatP_at (ts : List Pre2) : ∀ (i : Nat) (t : Pre2), ts[i]? = some t → (flatP ts)[i * 2]? = some (.string t.1) ∧ (flatP ts)[i * 2 + 1]? = some (.string t.2) := by
  induction ts with
  | nil => intro i t h; simp at h
  | cons u r ih =>
    intro i t h
    have e : flatP (u :: r) = .string u.1 :: .string u.2 :: flatP r := by simp [flatP]
    rw [e]
    cases i with
    | zero => simp at h; subst h; exact ⟨rfl, rfl⟩
    | succ n =>
      have := ih n t (by simpa using h)
      rw [show (n + 1) * 2 = n * 2 + 2 from by omega]
      exact this
theorem set2 {xs l : List Value} {k : Nat} (a b : Value) (h : xs.take (k * 2) = l) (hl : k * 2 + 1 < xs.length) :
    ((xs.set (k * 2) a).set (k * 2 + 1) b).take ((k + 1) * 2) = l ++ [a, b] := by
  subst h
  apply List.ext_getElem?
  intro i
  have hlen : (xs.take (k * 2)).length = k * 2 := by rw [List.length_take]; omega
  rw [List.getElem?_take]
  rcases Nat.lt_or_ge i (k * 2) with g | g
  · rw [if_pos (by omega), List.getElem?_append_left (by omega), List.getElem?_take, if_pos g, List.getElem?_set_ne (by omega), List.getElem?_set_ne (by omega)]
  · rw [List.getElem?_append_right (by omega), hlen]
    obtain rfl | rfl | g3 : i = k * 2 ∨ i = k * 2 + 1 ∨ k * 2 + 2 ≤ i := by omega
    · rw [if_pos (by omega), List.getElem?_set_ne (by omega), List.getElem?_set_self (by omega)]; simp
    · rw [if_pos (by omega), List.getElem?_set_self (by simp; omega)]
      rw [show k * 2 + 1 - k * 2 = 1 from by omega]; rfl
    · rw [if_neg (by omega), List.getElem?_eq_none (by simp; omega)]
theorem infoPair : (Try.prog.info? 84).map (fun i => (i.zero, i.size, i.bytes)) = some (some (.agg #[.string ⟨#[]⟩, .string ⟨#[]⟩]), 2, 32) := by kernel_rfl
/-- The call owns a slice of these pairs. -/
def OwnP (B : Nat) (w : World) (v : Value) (ts : List Pre2) : Prop := w.ownsRow B 84 2 v ts.length (flatP ts)
def CopyPostP (ts : List Pre2) (w : World) (e : Ending) (w' : World) : Prop := ∃ v, e = .returned v ∧ OwnP w.heap.size w' v ts ∧ Below w.heap.size w w'
/-- What the call owns can be read. -/
theorem OwnP.is {B : Nat} {w : World} {v : Value} {ts : List Pre2} (h : OwnP B w v ts) (hm : ∀ t ∈ ts, t.1.size ≤ maxLen ∧ t.2.size ≤ maxLen) : ∃ a cap, v = .slice a ts.length cap ∧ IsPres w a ts.length cap ts := by
  have h0 := h
  obtain ⟨_, hc⟩ := h
  rcases hc with ⟨rfl, hl⟩ | ⟨g, cap, cur, rfl, _, _, h1, h2, _⟩
  · exact ⟨none, 0, by rw [hl], .inl ⟨rfl, hl, rfl, List.length_eq_zero_iff.1 hl⟩⟩
  · refine ⟨_, cap, rfl, .inr ⟨_, rfl, h1, h2, rfl, fun i t hi => ?_⟩⟩
    obtain ⟨f0, f1⟩ := flatP_at ts i t hi
    have hl : i < ts.length := (List.getElem?_eq_some_iff.1 hi).1
    obtain ⟨m0, m1⟩ := hm t (List.mem_of_getElem? hi)
    have k0 := h0.cellAt (i * 2) (by omega)
    have k1 := h0.cellAt (i * 2 + 1) (by omega)
    rw [Nat.mul_comm i 2] at k0 k1
    rw [Nat.mul_comm i 2] at f0 f1
    refine ⟨?_, ?_, m0, m1⟩
    · rw [add_plain, Nat.zero_add]; exact k0.trans f0
    · rw [add_plain, Nat.zero_add]; exact k1.trans f1
theorem IsPres.small {w : World} {a : Option Addr} {len cap : Nat} {ts : List Pre2} (h : IsPres w a len cap ts) : ∀ t ∈ ts, t.1.size ≤ maxLen ∧ t.2.size ≤ maxLen := by
  intro t ht
  rcases h with ⟨_, _, _, rfl⟩ | ⟨x, rfl, h1, h2, h3, h4⟩
  · simp at ht
  · obtain ⟨i, hi⟩ := List.mem_iff_getElem?.1 ht
    obtain ⟨_, _, w0, w1⟩ := h4 i t hi
    exact ⟨w0, w1⟩
theorem IsPres.next {w w' : World} {a : Option Addr} {len cap : Nat} {ts : List Pre2} (h : IsPres w a len cap ts) (hb : Below w.heap.size w w') : IsPres w' a len cap ts := h.grown (grown_of_below hb)
set_option maxRecDepth 100000 in
set_option maxHeartbeats 1600000 in
theorem toPairS (a : Option Addr) (len cap : Nat) (ts : List Pre2) (w : World) (h : IsPres w a len cap ts) (hs : len ≤ 1048576) :
    Calls Try.prog 56 #[.slice a len cap] w (CopyPostP ts w) := by
  obtain ⟨i0, hi, hz0, hz1, hz2⟩ := info_parts infoPair
  have HT := Lib.hid h.len
  have H := Lib.hid h
  clear h
  go_enter Try.func56, Try.ntmps56
  go_wp2_with (at_make; refine wpList_make_full _ rfl _ _ 82 rfl w.heap.size 84 i0 _ 2 Try.underlying82 hi hz0 hz1 .i64 .i64 _ _ len rfl rfl rfl rfl ?c1 ?c2 (Nat.le_refl _) ?_)
  case c1 => rw [hz2]; omega
  case c2 => unfold maxLen; omega
  intro w0 hown0 hg0
  have hb0 : Below w.heap.size w w0 := (Below.refl _ _).grown hg0 (Nat.le_refl _) (by simp)
  have hsz0 := hg0.size
  clear hg0
  go_wp2_with fail
  go_loopw [4] (fun i wr => ∃ k : Nat, k ≤ len ∧ i = .int .i64 k ∧ (∃ xs : List Value, wr.ownsRow w.heap.size 84 2 (.slice (some ⟨w.heap.size, 0, none⟩) len len) len xs ∧ Hid (xs.take (k * 2) = flatP (ts.take k))) ∧ Below w.heap.size w wr) (fun i _ => len - (intOf i).toNat)
  case atStart => exact ⟨0, Nat.zero_le _, rfl, ⟨_, hown0, Lib.hid (by simp [flatP])⟩, hb0⟩
  case round =>
    obtain ⟨k, hk, rfl, ⟨xs, hown, hx⟩, hnx⟩ := hrel
    by_cases hlt : k < len
    · obtain ⟨b, off, rfl, hb, hl, hm, hts, hc⟩ := H.out.cells (by omega)
      have ht : ts[k]? = some ts[k] := List.getElem?_eq_getElem (by omega)
      have HS : Hid (ts.take (k + 1) = ts.take k ++ [ts[k]]) := Lib.hid (List.take_succ_eq_append_getElem (by omega))
      obtain ⟨c0, c1, m0, m1⟩ := hc k _ ht
      clear m0 m1
      rw [← hnx.cell (p := ⟨b, _, none⟩) hb] at c0 c1
      generalize ts[k] = t at c0 c1 HS
      clear ht hts hc hm
      go_wp2_with fail
      refine (toPair t.1 t.2 _).mono ?_
      rintro e wn ⟨rfl, hbn⟩
      have B := hnx.trans (hbn.mono hnx.size)
      have O := hown.kept (grown_of_below hbn) (.inr (by simp [Value.ownBlock]))
      clear hbn hown hnx c0 c1
      have hxl : xs.length = len * 2 := O.1
      have e0 : wn.cell? ⟨w.heap.size, k * 2, none⟩ = some (xs[k * 2]'(by omega)) := by rw [O.cellAt _ (by omega), List.getElem?_eq_getElem (by omega)]
      have e1 : wn.cell? ⟨w.heap.size, k * 2 + 1, none⟩ = some (xs[k * 2 + 1]'(by omega)) := by rw [O.cellAt _ (by omega), List.getElem?_eq_getElem (by omega)]
      have f0 := O.frozenAt (k * 2)
      have f1 := O.frozenAt (k * 2 + 1)
      have O1 := (O.stored (k * 2) (.string t.1)).1
      have O2 := (O1.stored (k * 2 + 1) (.string t.2)).1
      have HX : Hid (((xs.set (k * 2) (.string t.1)).set (k * 2 + 1) (.string t.2)).take ((k + 1) * 2) = flatP (ts.take (k + 1))) := Lib.hid (by
        rw [HS.out, flatP_snoc]; exact set2 _ _ hx.out (by omega))
      have B2 := (B.setCell (p := ⟨w.heap.size, k * 2, none⟩) (Nat.le_refl _) (.string t.1)).setCell (p := ⟨w.heap.size, k * 2 + 1, none⟩) (Nat.le_refl _) (.string t.2)
      have HXL := Lib.hid hxl
      generalize xs[k * 2]'(by omega) = z0 at e0
      generalize xs[k * 2 + 1]'(by omega) = z1 at e1
      clear O O1 hxl B
      go_wp2_with fail
      go_roundw
      case rel => exact ⟨k + 1, by omega, by go_num, ⟨_, O2, HX⟩, B2⟩
      case measure => simp [intOf]; omega
    · have HX : Hid (xs = flatP ts) := Lib.hid (by
        have := hx.out
        have hxl : xs.length = len * 2 := hown.1
        rwa [List.take_of_length_le (by rw [hxl]; omega), List.take_of_length_le (by rw [HT.out]; omega)] at this)
      go_wp2_with fail
      go_ret
      exact ⟨_, rfl, by unfold OwnP; rw [← HX.out, HT.out]; exact hown, hnx⟩
set_option maxRecDepth 100000 in
set_option maxHeartbeats 1600000 in
theorem eqPairS (a b : Option Addr) (la ca lb cb : Nat) (ts : List Pre2) (w : World) (ha : IsPres w a la ca ts) (hb : IsPres w b lb cb ts) (hs : la ≤ 1048576) :
    Calls Try.prog 62 #[.slice a la ca, .slice b lb cb] w fun e w' => e = .returned (.bool true) ∧ Below w.heap.size w w' := by
  have hlb : lb = la := by rw [← ha.len, ← hb.len]
  subst hlb
  have HA := Lib.hid ha
  have HB := Lib.hid hb
  have HT := Lib.hid ha.len
  clear ha hb
  go_enter Try.func62, Try.ntmps62
  go_wp2_with fail
  go_loopw [5] (fun i wr => ∃ k : Nat, k ≤ lb ∧ i = .int .i64 k ∧ Below w.heap.size w wr) (fun i _ => lb - (intOf i).toNat)
  case atStart => exact ⟨0, Nat.zero_le _, rfl, Below.refl _ _⟩
  case round =>
    obtain ⟨k, hk, rfl, hnx⟩ := hrel
    by_cases hlt : k < lb
    · obtain ⟨x, off, rfl, hx, _, _, hts, hc⟩ := HA.out.cells (by omega)
      obtain ⟨y, off', rfl, hy, _, _, _, hd⟩ := HB.out.cells (by omega)
      have ht : ts[k]? = some ts[k] := List.getElem?_eq_getElem (by omega)
      obtain ⟨c0, c1, m0, m1⟩ := hc k _ ht
      obtain ⟨d0, d1, n0, n1⟩ := hd k _ ht
      clear m0 m1 n0 n1
      rw [← hnx.cell (p := ⟨x, _, none⟩) hx] at c0 c1
      rw [← hnx.cell (p := ⟨y, _, none⟩) hy] at d0 d1
      generalize ts[k] = t at c0 c1 d0 d1
      clear ht hts hc hd
      have E := Lib.hid (eqPair t.1 t.2)
      go_wp2_with fail
      have l1 : x < wr.heap.size := Nat.lt_of_lt_of_le hx hnx.size
      have l2 : y < wr.heap.size := Nat.lt_of_lt_of_le hy hnx.size
      go_region_held3 (fun w' => w'.cell? ⟨x, off + k * 2, none⟩ = some (.string t.1) ∧ w'.cell? ⟨x, off + k * 2 + 1, none⟩ = some (.string t.2) ∧ w'.cell? ⟨y, off' + k * 2, none⟩ = some (.string t.1) ∧ w'.cell? ⟨y, off' + k * 2 + 1, none⟩ = some (.string t.2))
        (first | go_keep | (go_split_ands; refine ⟨?_, ?_, ?_, ?_⟩ <;> (rw [ha4.cell (by first | (simp; done) | exact World.block_lt_of_cell? _ _ (by assumption))]; assumption)))
        (first | (go_at_call 91; refine (E.out _).mono ?_; rintro e wa ⟨rfl, ha4⟩))
      have B : Below w.heap.size w wa := (Below.drew hnx).trans (ha4.mono hnx.size)
      clear ha4 hnx c0 c1 d0 d1
      go_wp2_with fail
      go_roundw
      case rel => exact ⟨k + 1, by omega, by go_num, B⟩
      case measure => simp [intOf]; omega
    · go_wp2_with fail
      go_ret
      exact ⟨rfl, hnx⟩
end Go.Proofs.Ythnpchcfjkepaaa
/- A slice of rows that came in: what its cells hold. -/
namespace Go.Proofs.Ythnpchcfjkepaaa
open Go.ChangeShapes Go.WideShapes Go.ChangeAt Go.RowKit
abbrev RowV := List Pre2
theorem open_pres_one {H : Type} {enc : TypeId × Value → H} {P : Program} {w : World} {base : Nat} {spare : Nat → Bool} {held : Bool} {t e : TypeId} {f0 f1 : Field} {fuel : Nat} {c : Value} {x : DataW H × List MemPlace}
    (ht : P.underlying t = some (.slice e)) (he : P.underlying e = some (.struct #[f0, f1])) (hC : P.cellsOf e = 2)
    (h0 : P.underlying f0.type = some .string ∧ f0.offset = 0 ∧ P.cellsOf f0.type = 1) (h1 : P.underlying f1.type = some .string ∧ f1.offset = 1 ∧ P.cellsOf f1.type = 1)
    (h : DataW.trod enc P w base spare held fuel t [c] = some x) : ∃ a len cap ts, c = .slice a len cap ∧ IsPres w a len cap ts := by
  have h' := h
  rcases Deep.open_slice ht h with ⟨hcs, _⟩ | ⟨x, len', cap', m, n, D, Pl, hcs, _⟩
  · obtain rfl : c = .slice none 0 0 := by simpa using hcs
    obtain ⟨ts, hts⟩ := open_pres ht he hC h0 h1 h'
    exact ⟨_, _, _, ts, rfl, hts⟩
  · obtain rfl : c = .slice (some x) len' cap' := by simpa using hcs
    obtain ⟨ts, hts⟩ := open_pres ht he hC h0 h1 h'
    exact ⟨_, _, _, ts, rfl, hts⟩
def RowAt (w : World) (x : Addr) (i : Nat) (r : RowV) : Prop := ∃ a n c, w.cell? (x.add i) = some (.slice a n c) ∧ IsPres w a n c r
/-- The slice is nil, or its cells hold these rows. -/
def IsRows (w : World) (a : Option Addr) (len cap : Nat) (rs : List RowV) : Prop :=
  (a = none ∧ len = 0 ∧ cap = 0 ∧ rs = []) ∨
  ∃ x, a = some x ∧ len ≤ cap ∧ cap ≤ maxLen ∧ rs.length = len ∧ ∀ (i : Nat) (r : RowV), rs[i]? = some r → RowAt w x i r
theorem open_rows {H : Type} {enc : TypeId × Value → H} {P : Program} {w : World} {base : Nat} {spare : Nat → Bool} {held : Bool} {t e e2 : TypeId} {f0 f1 : Field} {fuel : Nat} {a : Option Addr} {len cap : Nat} {x : DataW H × List MemPlace}
    (ht : P.underlying t = some (.slice e)) (hC : P.cellsOf e = 1) (ht2 : P.underlying e = some (.slice e2)) (he : P.underlying e2 = some (.struct #[f0, f1])) (hC2 : P.cellsOf e2 = 2)
    (h0 : P.underlying f0.type = some .string ∧ f0.offset = 0 ∧ P.cellsOf f0.type = 1) (h1 : P.underlying f1.type = some .string ∧ f1.offset = 1 ∧ P.cellsOf f1.type = 1)
    (h : DataW.trod enc P w base spare held fuel t [.slice a len cap] = some x) : ∃ rs, IsRows w a len cap rs := by
  rcases Deep.open_slice ht h with ⟨hcs, _⟩ | ⟨x, len', cap', m, n, D, Pl, hcs, _, hl, hm, hmm, _, hi⟩
  · simp only [List.cons.injEq, Value.slice.injEq, and_true] at hcs
    exact ⟨[], .inl ⟨hcs.1, hcs.2.1, hcs.2.2, rfl⟩⟩
  · simp only [List.cons.injEq, Value.slice.injEq, and_true] at hcs
    obtain ⟨rfl, rfl, rfl⟩ := hcs
    have hlm : len ≤ m := by rw [hmm]; split <;> omega
    obtain ⟨rs, hrs, hq⟩ := list_of (Q := RowAt w x) len fun i hil => by
      obtain ⟨cs, hc, htr⟩ := hi i (by omega)
      rw [hC] at hc
      obtain ⟨_, hcl, hat⟩ := World.cells?_some hc
      match cs, hcl with
      | [v], _ =>
        obtain ⟨a', n', c', r, rfl, hr⟩ := open_pres_one ht2 he hC2 h0 h1 htr
        have := hat 0 (by omega)
        rw [Deep.add_add, Nat.mul_one, Nat.add_zero] at this
        exact ⟨r, a', n', c', this.trans rfl, hr⟩
    exact ⟨rs, .inr ⟨x, rfl, hl, hm, hrs, hq⟩⟩
theorem IsRows.len {w : World} {a : Option Addr} {len cap : Nat} {rs : List RowV} (h : IsRows w a len cap rs) : rs.length = len := by
  rcases h with ⟨_, rfl, _, rfl⟩ | ⟨x, _, _, _, h, _⟩
  · rfl
  · exact h
theorem IsRows.maxl {w : World} {a : Option Addr} {len cap : Nat} {rs : List RowV} (h : IsRows w a len cap rs) : len ≤ 9223372036854775807 := by
  rcases h with ⟨_, rfl, _, _⟩ | ⟨_, _, h1, h2, _⟩
  · omega
  · unfold maxLen at h2; omega
theorem IsPres.maxl {w : World} {a : Option Addr} {len cap : Nat} {rs : RowV} (h : IsPres w a len cap rs) : len ≤ 9223372036854775807 := by
  rcases h with ⟨_, rfl, _, _⟩ | ⟨_, _, h1, h2, _⟩
  · omega
  · unfold maxLen at h2; omega
theorem IsRows.next {w w' : World} {a : Option Addr} {len cap : Nat} {rs : List RowV} (h : IsRows w a len cap rs) (hb : Below w.heap.size w w') : IsRows w' a len cap rs := by
  have hg := grown_of_below hb
  rcases h with h | ⟨x, rfl, h1, h2, h3, h4⟩
  · exact .inl h
  · refine .inr ⟨x, rfl, h1, h2, h3, fun i r hi => ?_⟩
    obtain ⟨a', n, c, c0, hp⟩ := h4 i r hi
    exact ⟨a', n, c, hg.cell c0 (by simp), hp.next hb⟩
/-- The place of a slice that has an element, and its cells. -/
theorem IsRows.cells {w : World} {a : Option Addr} {len cap : Nat} {rs : List RowV} (h : IsRows w a len cap rs) (h0 : 0 < len) : ∃ b off, a = some ⟨b, off, none⟩ ∧ b < w.heap.size ∧ len ≤ cap ∧ cap ≤ maxLen ∧ rs.length = len ∧
    ∀ (i : Nat) (r : RowV), rs[i]? = some r → ∃ a n c, w.cell? ⟨b, off + i, none⟩ = some (.slice a n c) ∧ IsPres w a n c r := by
  rcases h with ⟨_, rfl, _⟩ | ⟨x, rfl, h1, h2, h3, h4⟩
  · omega
  · obtain ⟨b, off, spot⟩ := x
    have ht : rs[0]? = some rs[0] := List.getElem?_eq_getElem (by omega)
    obtain ⟨_, _, _, hc, _⟩ := h4 0 _ ht
    obtain rfl : spot = none := by simpa [Addr.add] using World.cell?_spot hc
    refine ⟨b, off, rfl, by have := World.block_lt_of_cell? _ _ hc; simpa [Addr.add] using this, h1, h2, h3, fun i r hi => ?_⟩
    obtain ⟨a', n, c, c0, hp⟩ := h4 i r hi
    rw [add_plain] at c0
    exact ⟨a', n, c, c0, hp⟩
theorem IsPres.smallP {w : World} {a : Option Addr} {len cap : Nat} {ts : RowV} (h : IsPres w a len cap ts) : ∀ t ∈ ts, t.1.size ≤ maxLen ∧ t.2.size ≤ maxLen := h.small
theorem IsRows.small {w : World} {a : Option Addr} {len cap : Nat} {rs : List RowV} (h : IsRows w a len cap rs) : ∀ r ∈ rs, ∀ t ∈ r, t.1.size ≤ maxLen ∧ t.2.size ≤ maxLen := by
  intro r hr
  rcases h with ⟨_, _, _, rfl⟩ | ⟨x, rfl, h1, h2, h3, h4⟩
  · simp at hr
  · obtain ⟨i, hi⟩ := List.mem_iff_getElem?.1 hr
    obtain ⟨_, _, _, _, hp⟩ := h4 i r hi
    exact hp.small
def totR (rs : List RowV) : Nat := (rs.map List.length).sum
theorem totR_snoc (rs : List RowV) (r : RowV) : totR (rs ++ [r]) = totR rs + r.length := by simp [totR]
theorem totR_mem : ∀ {rs : List RowV} {r : RowV}, r ∈ rs → r.length ≤ totR rs
  | s :: rs, r, h => by
    have e : totR (s :: rs) = s.length + totR rs := by simp [totR]
    rcases List.mem_cons.1 h with rfl | h
    · omega
    · have := totR_mem h; omega
theorem totR_take (rs : List RowV) (k : Nat) : totR (rs.take k) ≤ totR rs := by
  have e := List.take_append_drop k rs
  have e2 : totR (rs.take k ++ rs.drop k) = totR (rs.take k) + totR (rs.drop k) := by
    unfold totR
    rw [List.map_append, List.sum_append]
  rw [e] at e2
  omega
end Go.Proofs.Ythnpchcfjkepaaa
