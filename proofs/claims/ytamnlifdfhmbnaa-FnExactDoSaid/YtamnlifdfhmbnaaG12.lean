/- The kit of a slice of files (a name and data): its size, a copy, two alike, marks and their second look; with whose it is. -/
import Derived.Test.YtamnlifdfhmbnaaG03
import Derived.Test.YtamnlifdfhmbnaaG02
import Derived.Test.YtamnlifdfhmbnaaG10
import Derived.Deep.RegionHeld3
import Derived.Test.YtamnlifdfhmbnaaG11
import Derived.Maps.AppendAt
import Derived.Maps.RangeWalk
import Derived.Test.YtamnlifdfhmbnaaG01
import Derived.Laws.StructEq
import Derived.Deep.QuietTactic
import Derived.BigQuiet
namespace Go.Proofs.Ytamnlifdfhmbnaa
open Go.RowKit Go.WideShapes
def szPFi (s p : Nat) (left : Int) : Int := if left - s < 0 then -1 else if left - s - p < 0 then -1 else left - s - p
theorem szP_yesFi {s p : Nat} {left : Int} (h : (s : Int) + p ≤ left) : szPFi s p left = left - s - p := by
  unfold szPFi; rw [if_neg (by omega), if_neg (by omega)]
theorem szP_noFi {s p : Nat} {left : Int} (h : ¬ (s : Int) + p ≤ left) : szPFi s p left = -1 := by
  unfold szPFi; split; · rfl
  rw [if_pos (by omega)]
theorem toPairFi (s p : ByteArray) (w : World) :
    Calls Try.prog 92 #[.agg #[.string s, .string p]] w fun e w' => e = .returned (.agg #[.string s, .string p]) ∧ Below w.heap.size w w' := by
  go_enter Try.func92, Try.ntmps92
  go_wp2
  refine bodyPost_ret (v := .agg #[.string s, .string p]) (by simp [results, Try.results92, go_sem]) rfl ⟨rfl, (((Below.refl _ _).alloc (Nat.le_refl _) _).alloc (by simp) _).alloc (by simp; omega) _⟩
theorem szPairFi (s p : ByteArray) (left : Int) (h0 : 0 ≤ left) (h1 : left ≤ 1048576) (hs : s.size ≤ 9223372036854775807) (hp : p.size ≤ 9223372036854775807) (w : World) :
    Calls Try.prog 91 #[.agg #[.string s, .string p], .int .i64 left] w fun e w' => e = .returned (.int .i64 (szPFi s.size p.size left)) ∧ Below w.heap.size w w' := by
  unfold szPFi
  by_cases g1 : left - s.size < 0
  · rw [if_pos g1]
    go_enter Try.func91, Try.ntmps91
    go_wp2
    go_ret
    exact ⟨rfl, (Below.refl _ _).alloc (Nat.le_refl _) _⟩
  rw [if_neg g1]
  by_cases g2 : left - s.size - p.size < 0
  · rw [if_pos g2]
    go_enter Try.func91, Try.ntmps91
    go_wp2
    go_ret
    exact ⟨rfl, (Below.refl _ _).alloc (Nat.le_refl _) _⟩
  · rw [if_neg g2]
    go_enter Try.func91, Try.ntmps91
    go_wp2
    go_ret
    exact ⟨rfl, (Below.refl _ _).alloc (Nat.le_refl _) _⟩
theorem eqPairFi (s p : ByteArray) (w : World) :
    Calls Try.prog 93 #[.agg #[.string s, .string p], .agg #[.string s, .string p]] w fun e w' => e = .returned (.bool true) ∧ Below w.heap.size w w' := by
  go_enter Try.func93, Try.ntmps93
  go_wp2
  go_ret
  exact ⟨rfl, ((Below.refl _ _).alloc (Nat.le_refl _) _).alloc (by simp) _⟩
/-- What a size that is not below 0 says of the pairs. -/
def SmallPFi (len : Nat) (ts : List Pre2) : Prop := len ≤ 1048576 ∧ ∀ t ∈ ts, t.1.size + t.2.size ≤ 1048576
def SzPostPFi (left : Int) (len : Nat) (ts : List Pre2) (w : World) (e : Ending) (w' : World) : Prop :=
  ∃ n : Int, e = .returned (.int .i64 n) ∧ (n = -1 ∨ (0 ≤ n ∧ n + len ≤ left ∧ SmallPFi len ts)) ∧ Below w.heap.size w w'
set_option maxRecDepth 100000 in
set_option maxHeartbeats 1600000 in
theorem szPairSFi (a : Option Addr) (len cap : Nat) (ts : List Pre2) (w : World) (h : IsPres w a len cap ts) (left : Int) (h0 : 0 ≤ left) (h1 : left ≤ 1048576) (hlen : len ≤ 9223372036854775807) :
    Calls Try.prog 63 #[.slice a len cap, .int .i64 left] w (SzPostPFi left len ts w) := by
  by_cases g : left - len < 0
  · clear h
    go_enter Try.func63, Try.ntmps63
    go_wp2_with fail
    go_ret
    exact ⟨-1, rfl, .inl rfl, Below.refl _ _⟩
  by_cases hz : len = 0
  · subst hz
    obtain rfl : ts = [] := List.length_eq_zero_iff.1 h.len
    clear h g
    go_enter Try.func63, Try.ntmps63
    go_wp2_with fail
    refine wp_loop_rounds 1 ?_
    rw [rounds_succ]
    go_wp2_with fail
    go_ret
    exact ⟨left, by simp, .inr ⟨h0, by omega, by omega, by simp⟩, Below.refl _ _⟩
  · obtain ⟨b, off, rfl, hb, hl, hm, hts, hc⟩ := h.cells (by omega)
    unfold maxLen at hm hc
    have HC := Lib.hid hc
    have HT := Lib.hid hts
    clear hc h
    go_enter Try.func63, Try.ntmps63
    go_wp2_with fail
    go_loopw [1, 5] (fun l i wr => ∃ k : Nat, k ≤ len ∧ i = .int .i64 k ∧ (∃ q : Int, 0 ≤ q ∧ q + len ≤ left ∧ l = .int .i64 q) ∧ Hid (∀ t ∈ ts.take k, t.1.size + t.2.size ≤ 1048576) ∧ Below w.heap.size w wr) (fun _ i _ => len - (intOf i).toNat)
    case atStart => exact ⟨0, Nat.zero_le _, rfl, ⟨_, by omega, by omega, rfl⟩, Lib.hid (by simp), Below.refl _ _⟩
    case round =>
      obtain ⟨k, hk, rfl, ⟨q, hq0, hq1, rfl⟩, hsm, hnx⟩ := hrel
      by_cases hlt : k < len
      · have ht : ts[k]? = some ts[k] := List.getElem?_eq_getElem (by omega)
        have HS : Hid (ts.take (k + 1) = ts.take k ++ [ts[k]]) := Lib.hid (List.take_succ_eq_append_getElem (by omega))
        obtain ⟨c0, c1, w0, w1⟩ := HC.out k _ ht
        rw [← hnx.cell (p := ⟨b, _, none⟩) hb] at c0 c1
        generalize ts[k] = t at c0 c1 w0 w1 HS
        clear ht
        have SZ := szPairFi t.1 t.2 q hq0 (by omega) w0 w1
        by_cases hs : (t.1.size : Int) + t.2.size ≤ q
        · rw [szP_yesFi hs] at SZ
          have D := Lib.hid SZ
          have HN : Hid (∀ t ∈ ts.take (k + 1), t.1.size + t.2.size ≤ 1048576) := Lib.hid (by
            rw [HS.out]
            intro u hu
            rcases List.mem_append.1 hu with hu | hu
            · exact hsm.out u hu
            · obtain rfl : u = t := by simpa using hu
              omega)
          have hn0 : ¬ q - t.1.size - t.2.size < 0 := by omega
          clear SZ
          go_wp2_with fail
          refine (D.out _).mono ?_
          rintro e wn ⟨rfl, hbn⟩
          have B := hnx.trans (hbn.mono hnx.size)
          clear hbn hnx c0 c1
          go_wp2_with fail
          go_roundw
          case rel => exact ⟨k + 1, by omega, by go_num, ⟨_, by omega, by omega, rfl⟩, HN, B⟩
          case measure => simp [intOf]; omega
        · rw [szP_noFi hs] at SZ
          have D := Lib.hid SZ
          clear SZ
          go_wp2_with fail
          refine (D.out _).mono ?_
          rintro e wn ⟨rfl, hbn⟩
          have B := hnx.trans (hbn.mono hnx.size)
          clear hbn hnx c0 c1
          go_wp2_with fail
          go_ret
          exact ⟨-1, rfl, .inl rfl, B⟩
      · go_wp2_with fail
        go_ret
        exact ⟨q, rfl, .inr ⟨hq0, hq1, by omega, by have := hsm.out; rwa [List.take_of_length_le (by rw [HT.out]; omega)] at this⟩, hnx⟩
open Go.RowKit Go.WideShapes
def flatPFi (ts : List Pre2) : List Value := ts.flatMap fun t => [.string t.1, .string t.2]
theorem flatP_snocFi (ts : List Pre2) (t : Pre2) : flatPFi (ts ++ [t]) = flatPFi ts ++ [.string t.1, .string t.2] := by simp [flatPFi]
theorem flatP_lenFi (ts : List Pre2) : (flatPFi ts).length = ts.length * 2 := by
  induction ts with
  | nil => rfl
  | cons t r ih => simp only [flatPFi, List.flatMap_cons, List.length_append, List.length_cons, List.length_nil] at *; omega
theorem flatP_atFi (ts : List Pre2) : ∀ (i : Nat) (t : Pre2), ts[i]? = some t → (flatPFi ts)[i * 2]? = some (.string t.1) ∧ (flatPFi ts)[i * 2 + 1]? = some (.string t.2) := by
  induction ts with
  | nil => intro i t h; simp at h
  | cons u r ih =>
    intro i t h
    have e : flatPFi (u :: r) = .string u.1 :: .string u.2 :: flatPFi r := by simp [flatPFi]
    rw [e]
    cases i with
    | zero => simp at h; subst h; exact ⟨rfl, rfl⟩
    | succ n =>
      have := ih n t (by simpa using h)
      rw [show (n + 1) * 2 = n * 2 + 2 from by omega]
      exact this
theorem set2Fi {xs l : List Value} {k : Nat} (a b : Value) (h : xs.take (k * 2) = l) (hl : k * 2 + 1 < xs.length) :
    ((xs.set (k * 2) a).set (k * 2 + 1) b).take ((k + 1) * 2) = l ++ [a, b] := by
  subst h
  apply List.ext_getElem?
  intro i
  have hlen : (xs.take (k * 2)).length = k * 2 := by rw [List.length_take]; omega
  rw [List.getElem?_take]
  rcases Nat.lt_or_ge i (k * 2) with g | g
  · rw [if_pos (by omega), List.getElem?_append_left (by omega), List.getElem?_take, if_pos g, List.getElem?_set_ne (by omega), List.getElem?_set_ne (by omega)]
  · rw [List.getElem?_append_right (by omega), hlen]
    obtain rfl | rfl | g3 : i = k * 2 ∨ i = k * 2 + 1 ∨ k * 2 + 2 ≤ i := by omega
    · rw [if_pos (by omega), List.getElem?_set_ne (by omega), List.getElem?_set_self (by omega)]; simp
    · rw [if_pos (by omega), List.getElem?_set_self (by simp; omega)]
      rw [show k * 2 + 1 - k * 2 = 1 from by omega]; rfl
    · rw [if_neg (by omega), List.getElem?_eq_none (by simp; omega)]
theorem infoPairFi : (Try.prog.info? 74).map (fun i => (i.zero, i.size, i.bytes)) = some (some (.agg #[.string ⟨#[]⟩, .string ⟨#[]⟩]), 2, 32) := by kernel_rfl
/-- The call owns a slice of these pairs. -/
def OwnPFi (B : Nat) (w : World) (v : Value) (ts : List Pre2) : Prop := w.ownsRow B 74 2 v ts.length (flatPFi ts)
def CopyPostPFi (ts : List Pre2) (w : World) (e : Ending) (w' : World) : Prop := ∃ v, e = .returned v ∧ OwnPFi w.heap.size w' v ts ∧ Below w.heap.size w w'
/-- What the call owns can be read. -/
theorem OwnPFi.is {B : Nat} {w : World} {v : Value} {ts : List Pre2} (h : OwnPFi B w v ts) (hm : ∀ t ∈ ts, t.1.size ≤ maxLen ∧ t.2.size ≤ maxLen) : ∃ a cap, v = .slice a ts.length cap ∧ IsPres w a ts.length cap ts := by
  have h0 := h
  obtain ⟨_, hc⟩ := h
  rcases hc with ⟨rfl, hl⟩ | ⟨g, cap, cur, rfl, _, _, h1, h2, _⟩
  · exact ⟨none, 0, by rw [hl], .inl ⟨rfl, hl, rfl, List.length_eq_zero_iff.1 hl⟩⟩
  · refine ⟨_, cap, rfl, .inr ⟨_, rfl, h1, h2, rfl, fun i t hi => ?_⟩⟩
    obtain ⟨f0, f1⟩ := flatP_atFi ts i t hi
    have hl : i < ts.length := (List.getElem?_eq_some_iff.1 hi).1
    obtain ⟨m0, m1⟩ := hm t (List.mem_of_getElem? hi)
    have k0 := h0.cellAt (i * 2) (by omega)
    have k1 := h0.cellAt (i * 2 + 1) (by omega)
    rw [Nat.mul_comm i 2] at k0 k1
    rw [Nat.mul_comm i 2] at f0 f1
    refine ⟨?_, ?_, m0, m1⟩
    · rw [add_plain, Nat.zero_add]; exact k0.trans f0
    · rw [add_plain, Nat.zero_add]; exact k1.trans f1
theorem IsPres.smallFi {w : World} {a : Option Addr} {len cap : Nat} {ts : List Pre2} (h : IsPres w a len cap ts) : ∀ t ∈ ts, t.1.size ≤ maxLen ∧ t.2.size ≤ maxLen := by
  intro t ht
  rcases h with ⟨_, _, _, rfl⟩ | ⟨x, rfl, h1, h2, h3, h4⟩
  · simp at ht
  · obtain ⟨i, hi⟩ := List.mem_iff_getElem?.1 ht
    obtain ⟨_, _, w0, w1⟩ := h4 i t hi
    exact ⟨w0, w1⟩
theorem IsPres.nextFi {w w' : World} {a : Option Addr} {len cap : Nat} {ts : List Pre2} (h : IsPres w a len cap ts) (hb : Below w.heap.size w w') : IsPres w' a len cap ts := h.grown (grown_of_below hb)
set_option maxRecDepth 100000 in
set_option maxHeartbeats 1600000 in
theorem toPairSFi (a : Option Addr) (len cap : Nat) (ts : List Pre2) (w : World) (h : IsPres w a len cap ts) (hs : len ≤ 1048576) :
    Calls Try.prog 65 #[.slice a len cap] w (CopyPostPFi ts w) := by
  obtain ⟨i0, hi, hz0, hz1, hz2⟩ := info_parts infoPairFi
  have HT := Lib.hid h.len
  have H := Lib.hid h
  clear h
  go_enter Try.func65, Try.ntmps65
  go_wp2_with (at_make; refine wpList_make_full _ rfl _ _ 24 rfl w.heap.size 74 i0 _ 2 Try.underlying24 hi hz0 hz1 .i64 .i64 _ _ len rfl rfl rfl rfl ?c1 ?c2 (Nat.le_refl _) ?_)
  case c1 => rw [hz2]; omega
  case c2 => unfold maxLen; omega
  intro w0 hown0 hg0
  have hb0 : Below w.heap.size w w0 := (Below.refl _ _).grown hg0 (Nat.le_refl _) (by simp)
  have hsz0 := hg0.size
  clear hg0
  go_wp2_with fail
  go_loopw [4] (fun i wr => ∃ k : Nat, k ≤ len ∧ i = .int .i64 k ∧ (∃ xs : List Value, wr.ownsRow w.heap.size 74 2 (.slice (some ⟨w.heap.size, 0, none⟩) len len) len xs ∧ Hid (xs.take (k * 2) = flatPFi (ts.take k))) ∧ Below w.heap.size w wr) (fun i _ => len - (intOf i).toNat)
  case atStart => exact ⟨0, Nat.zero_le _, rfl, ⟨_, hown0, Lib.hid (by simp [flatPFi])⟩, hb0⟩
  case round =>
    obtain ⟨k, hk, rfl, ⟨xs, hown, hx⟩, hnx⟩ := hrel
    by_cases hlt : k < len
    · obtain ⟨b, off, rfl, hb, hl, hm, hts, hc⟩ := H.out.cells (by omega)
      have ht : ts[k]? = some ts[k] := List.getElem?_eq_getElem (by omega)
      have HS : Hid (ts.take (k + 1) = ts.take k ++ [ts[k]]) := Lib.hid (List.take_succ_eq_append_getElem (by omega))
      obtain ⟨c0, c1, m0, m1⟩ := hc k _ ht
      clear m0 m1
      rw [← hnx.cell (p := ⟨b, _, none⟩) hb] at c0 c1
      generalize ts[k] = t at c0 c1 HS
      clear ht hts hc hm
      go_wp2_with fail
      refine (toPairFi t.1 t.2 _).mono ?_
      rintro e wn ⟨rfl, hbn⟩
      have B := hnx.trans (hbn.mono hnx.size)
      have O := hown.kept (grown_of_below hbn) (.inr (by simp [Value.ownBlock]))
      clear hbn hown hnx c0 c1
      have hxl : xs.length = len * 2 := O.1
      have e0 : wn.cell? ⟨w.heap.size, k * 2, none⟩ = some (xs[k * 2]'(by omega)) := by rw [O.cellAt _ (by omega), List.getElem?_eq_getElem (by omega)]
      have e1 : wn.cell? ⟨w.heap.size, k * 2 + 1, none⟩ = some (xs[k * 2 + 1]'(by omega)) := by rw [O.cellAt _ (by omega), List.getElem?_eq_getElem (by omega)]
      have f0 := O.frozenAt (k * 2)
      have f1 := O.frozenAt (k * 2 + 1)
      have O1 := (O.stored (k * 2) (.string t.1)).1
      have O2 := (O1.stored (k * 2 + 1) (.string t.2)).1
      have HX : Hid (((xs.set (k * 2) (.string t.1)).set (k * 2 + 1) (.string t.2)).take ((k + 1) * 2) = flatPFi (ts.take (k + 1))) := Lib.hid (by
        rw [HS.out, flatP_snocFi]; exact set2Fi _ _ hx.out (by omega))
      have B2 := (B.setCell (p := ⟨w.heap.size, k * 2, none⟩) (Nat.le_refl _) (.string t.1)).setCell (p := ⟨w.heap.size, k * 2 + 1, none⟩) (Nat.le_refl _) (.string t.2)
      have HXL := Lib.hid hxl
      generalize xs[k * 2]'(by omega) = z0 at e0
      generalize xs[k * 2 + 1]'(by omega) = z1 at e1
      clear O O1 hxl B
      go_wp2_with fail
      go_roundw
      case rel => exact ⟨k + 1, by omega, by go_num, ⟨_, O2, HX⟩, B2⟩
      case measure => simp [intOf]; omega
    · have HX : Hid (xs = flatPFi ts) := Lib.hid (by
        have := hx.out
        have hxl : xs.length = len * 2 := hown.1
        rwa [List.take_of_length_le (by rw [hxl]; omega), List.take_of_length_le (by rw [HT.out]; omega)] at this)
      go_wp2_with fail
      go_ret
      exact ⟨_, rfl, by unfold OwnPFi; rw [← HX.out, HT.out]; exact hown, hnx⟩
set_option maxRecDepth 100000 in
set_option maxHeartbeats 1600000 in
theorem eqPairSFi (a b : Option Addr) (la ca lb cb : Nat) (ts : List Pre2) (w : World) (ha : IsPres w a la ca ts) (hb : IsPres w b lb cb ts) (hs : la ≤ 1048576) :
    Calls Try.prog 67 #[.slice a la ca, .slice b lb cb] w fun e w' => e = .returned (.bool true) ∧ Below w.heap.size w w' := by
  have hlb : lb = la := by rw [← ha.len, ← hb.len]
  subst hlb
  have HA := Lib.hid ha
  have HB := Lib.hid hb
  have HT := Lib.hid ha.len
  clear ha hb
  go_enter Try.func67, Try.ntmps67
  go_wp2_with fail
  go_loopw [5] (fun i wr => ∃ k : Nat, k ≤ lb ∧ i = .int .i64 k ∧ Below w.heap.size w wr) (fun i _ => lb - (intOf i).toNat)
  case atStart => exact ⟨0, Nat.zero_le _, rfl, Below.refl _ _⟩
  case round =>
    obtain ⟨k, hk, rfl, hnx⟩ := hrel
    by_cases hlt : k < lb
    · obtain ⟨x, off, rfl, hx, _, _, hts, hc⟩ := HA.out.cells (by omega)
      obtain ⟨y, off', rfl, hy, _, _, _, hd⟩ := HB.out.cells (by omega)
      have ht : ts[k]? = some ts[k] := List.getElem?_eq_getElem (by omega)
      obtain ⟨c0, c1, m0, m1⟩ := hc k _ ht
      obtain ⟨d0, d1, n0, n1⟩ := hd k _ ht
      clear m0 m1 n0 n1
      rw [← hnx.cell (p := ⟨x, _, none⟩) hx] at c0 c1
      rw [← hnx.cell (p := ⟨y, _, none⟩) hy] at d0 d1
      generalize ts[k] = t at c0 c1 d0 d1
      clear ht hts hc hd
      have E := Lib.hid (eqPairFi t.1 t.2)
      go_wp2_with fail
      have l1 : x < wr.heap.size := Nat.lt_of_lt_of_le hx hnx.size
      have l2 : y < wr.heap.size := Nat.lt_of_lt_of_le hy hnx.size
      go_region_held3 (fun w' => w'.cell? ⟨x, off + k * 2, none⟩ = some (.string t.1) ∧ w'.cell? ⟨x, off + k * 2 + 1, none⟩ = some (.string t.2) ∧ w'.cell? ⟨y, off' + k * 2, none⟩ = some (.string t.1) ∧ w'.cell? ⟨y, off' + k * 2 + 1, none⟩ = some (.string t.2))
        (first | go_keep | (go_split_ands; refine ⟨?_, ?_, ?_, ?_⟩ <;> (rw [ha4.cell (by first | (simp; done) | exact World.block_lt_of_cell? _ _ (by assumption))]; assumption)))
        (first | (go_at_call 93; refine (E.out _).mono ?_; rintro e wa ⟨rfl, ha4⟩))
      have B : Below w.heap.size w wa := (Below.drew hnx).trans (ha4.mono hnx.size)
      clear ha4 hnx c0 c1 d0 d1
      go_wp2_with fail
      go_roundw
      case rel => exact ⟨k + 1, by omega, by go_num, B⟩
      case measure => simp [intOf]; omega
    · go_wp2_with fail
      go_ret
      exact ⟨rfl, hnx⟩
open Go.RowKit Go.WideShapes
theorem own_keepP2Fi {B e g n c : Nat} {w w' : World} {xs : List Value} (h : w.ownsRow B e 2 (.slice (some ⟨g, 0, none⟩) n c) n xs) (hb : Below w.heap.size w w') : w'.ownsRow B e 2 (.slice (some ⟨g, 0, none⟩) n c) n xs := h.kept (grown_of_below hb) (.inr (by simp [Value.ownBlock]))
def markPKFi (k0 i : Nat) : Pre2 := (mark (k0 + 2 * i), mark (k0 + 2 * i + 1))
def marksPKFi (k0 n : Nat) : List Pre2 := (List.range n).map (markPKFi k0)
theorem marksPK_succFi (k0 n : Nat) : marksPKFi k0 (n + 1) = marksPKFi k0 n ++ [markPKFi k0 n] := by unfold marksPKFi; rw [List.range_succ, List.map_append]; rfl
theorem marksPK_lenFi (k0 n : Nat) : (marksPKFi k0 n).length = n := by simp [marksPKFi]
theorem marksPK_atFi {k0 n i : Nat} (h : i < n) : (marksPKFi k0 n)[i]? = some (markPKFi k0 i) := by unfold marksPKFi; rw [List.getElem?_map, List.getElem?_range h]; rfl
theorem marksPK_smallFi (k0 n : Nat) (hn : n ≤ 1048576) (hk : k0 ≤ 40000000) : ∀ t ∈ marksPKFi k0 n, t.1.size ≤ maxLen ∧ t.2.size ≤ maxLen := by
  intro t ht
  unfold marksPKFi at ht
  obtain ⟨i, hi, rfl⟩ := List.mem_map.1 ht
  have hi := List.mem_range.1 hi
  have a := dig_len (k0 + 2 * i)
  have b := dig_len (k0 + 2 * i + 1)
  unfold markPKFi mark maxLen
  simp only [bs_size, List.length_cons]
  omega
set_option maxRecDepth 100000 in
set_option maxHeartbeats 1600000 in
theorem markPairKFi (B : Nat) (v : Value) (ts : List Pre2) (w : World) (h : OwnPFi B w v ts) (hl : ts.length ≤ 1048576) (k0 : Nat) (hk0 : 0 < k0) (hk1 : k0 ≤ 40000000) :
    Calls Try.prog 69 #[v, .int .i64 k0] w fun e w' => e = .returned (.int .i64 ((k0 + 2 * ts.length : Nat) : Int)) ∧ OwnPFi B w' v (marksPKFi k0 ts.length) ∧ w.grownBy w' v.ownBlock := by
  obtain ⟨n, hn⟩ : ∃ n, ts.length = n := ⟨_, rfl⟩
  have h0 := h
  rw [hn] at hl ⊢
  by_cases hz : n = 0
  · subst hz
    obtain rfl : ts = [] := List.length_eq_zero_iff.1 hn
    obtain ⟨a, c, rfl⟩ : ∃ a c, v = .slice a 0 c := by
      rcases h.2 with ⟨rfl, _⟩ | ⟨g, c, cur, rfl, _⟩
      · exact ⟨_, _, rfl⟩
      · exact ⟨_, _, rfl⟩
    have H0 := Lib.hid h0
    clear h hn h0
    go_enter Try.func69, Try.ntmps69
    go_wp2_with fail
    refine wp_loop_rounds 1 ?_
    rw [rounds_succ]
    go_wp2_with fail
    go_ret
    exact ⟨rfl, H0.out, World.grownBy.refl _ _⟩
  unfold OwnPFi at h
  rw [hn] at h
  obtain ⟨g, c, rfl⟩ : ∃ g c, v = .slice (some ⟨g, 0, none⟩) n c := by
    rcases h.2 with ⟨_, e⟩ | ⟨g, c, cur, rfl, _⟩
    · exact absurd e hz
    · exact ⟨g, c, rfl⟩
  have O0 := h
  obtain ⟨xs0, hxs⟩ : ∃ xs, flatPFi ts = xs := ⟨_, rfl⟩
  rw [hxs] at O0
  clear h hxs hn h0
  go_enter Try.func69, Try.ntmps69
  go_wp2_with fail
  go_loopw [1, 5] (fun q i wr => ∃ k : Nat, k ≤ n ∧ i = .int .i64 k ∧ q = .int .i64 ((k0 + 2 * k : Nat) : Int) ∧ (∃ xs : List Value, wr.ownsRow B 74 2 (.slice (some ⟨g, 0, none⟩) n c) n xs ∧ Hid (xs.take (k * 2) = flatPFi (marksPKFi k0 k))) ∧ w.grownBy wr (some g)) (fun _ i _ => n - (intOf i).toNat)
  case atStart => exact ⟨0, Nat.zero_le _, rfl, by rw [Nat.mul_zero, Nat.add_zero], ⟨_, O0, Lib.hid (by simp [flatPFi, marksPKFi])⟩, World.grownBy.refl _ _⟩
  case round =>
    obtain ⟨k, hk, rfl, rfl, ⟨xs, hown, hx⟩, hnx⟩ := hrel
    by_cases hlt : k < n
    · have hk6 : (0 : Int) ≤ (k : Int) := by omega
      have hk7 : (k : Int) < (n : Int) := by omega
      have m0 := markTextB (k0 + 2 * k) (by omega) (by omega)
      have m1 := markTextB (k0 + 2 * k + 1) (by omega) (by omega)
      obtain ⟨q, hq⟩ : ∃ q : Nat, k0 + 2 * k = q := ⟨_, rfl⟩
      rw [hq] at m0 m1
      have c1 : ((q + 1 : Nat) : Int) = (q : Int) + 1 := by omega
      rw [c1] at m1
      have M0 := Lib.hid m0
      have M1 := Lib.hid m1
      have hxl : xs.length = n * 2 := hown.1
      have HX : Hid (((xs.set (k * 2) (.string (mark q))).set (k * 2 + 1) (.string (mark (q + 1)))).take ((k + 1) * 2) = flatPFi (marksPKFi k0 (k + 1))) := Lib.hid (by
        rw [marksPK_succFi, flatP_snocFi, ← hq]; exact set2Fi _ _ hx.out (by omega))
      clear m0 m1 c1
      rw [hq]
      have hqs : q ≤ 80000000 := by omega
      have hq3 : ((k0 + 2 * (k + 1) : Nat) : Int) = (q : Int) + 1 + 1 := by omega
      have HQ3 := Lib.hid hq3
      clear hq hq3
      go_wp2_with fail
      refine (M0.out _).mono ?_
      rintro e w1 ⟨rfl, hb1⟩
      have G1 := hnx.trans (grown_any (grown_of_below hb1) (some g))
      have P1 := own_keepP2Fi hown hb1
      have e0 : w1.cell? ⟨g, k * 2, none⟩ = some (xs[k * 2]'(by omega)) := by rw [P1.cellAt _ (by omega), List.getElem?_eq_getElem (by omega)]
      have f0 := P1.frozenAt (k * 2)
      have P2 := (P1.stored (k * 2) (.string (mark q))).1
      have G2 := grown_set G1 (k * 2) (.string (mark q))
      generalize xs[k * 2]'(by omega) = z0 at e0
      clear hb1 hnx hown P1 G1
      go_wp2_with fail
      refine (M1.out _).mono ?_
      rintro e w2 ⟨rfl, hb2⟩
      have G3 := G2.trans (grown_any (grown_of_below hb2) (some g))
      have P3 := own_keepP2Fi P2 hb2
      obtain ⟨ys, hys⟩ : ∃ ys, xs.set (k * 2) (.string (mark q)) = ys := ⟨_, rfl⟩
      rw [hys] at P3 HX
      have hyl : ys.length = n * 2 := P3.1
      have e1 : w2.cell? ⟨g, k * 2 + 1, none⟩ = some (ys[k * 2 + 1]'(by omega)) := by rw [P3.cellAt _ (by omega), List.getElem?_eq_getElem (by omega)]
      have f1 := P3.frozenAt (k * 2 + 1)
      have P4 := (P3.stored (k * 2 + 1) (.string (mark (q + 1)))).1
      have G4 := grown_set G3 (k * 2 + 1) (.string (mark (q + 1)))
      generalize ys[k * 2 + 1]'(by omega) = z1 at e1
      clear hb2 P2 P3 G2 G3 e0 f0 hys
      go_wp2_with fail
      go_roundw
      case rel => exact ⟨k + 1, by omega, by go_num, by rw [HQ3.out], ⟨_, P4, HX⟩, G4⟩
      case measure => simp [intOf]; omega
    · obtain rfl : k = n := by omega
      have HX : Hid (xs = flatPFi (marksPKFi k0 k)) := Lib.hid (by
        have := hx.out
        have hxl : xs.length = k * 2 := hown.1
        rwa [List.take_of_length_le (by rw [hxl]; omega)] at this)
      go_wp2_with fail
      go_ret
      refine ⟨rfl, ?_, hnx⟩
      unfold OwnPFi
      rw [← HX.out, marksPK_lenFi]
      exact hown
set_option maxRecDepth 100000 in
set_option maxHeartbeats 1600000 in
theorem heldPairKFi (a : Option Addr) (n cap : Nat) (w : World) (k0 : Nat) (h : IsPres w a n cap (marksPKFi k0 n)) (hl : n ≤ 1048576) (hk0 : 0 < k0) (hk1 : k0 ≤ 40000000) :
    Calls Try.prog 71 #[.slice a n cap, .int .i64 k0] w fun e w' => e = .returned (.int .i64 ((k0 + 2 * n : Nat) : Int)) ∧ Below w.heap.size w w' := by
  have H := Lib.hid h
  clear h
  go_enter Try.func71, Try.ntmps71
  go_wp2_with fail
  go_loopw [1, 5] (fun q i wr => ∃ k : Nat, k ≤ n ∧ i = .int .i64 k ∧ q = .int .i64 ((k0 + 2 * k : Nat) : Int) ∧ Below w.heap.size w wr) (fun _ i _ => n - (intOf i).toNat)
  case atStart => exact ⟨0, Nat.zero_le _, rfl, by rw [Nat.mul_zero, Nat.add_zero], Below.refl _ _⟩
  case round =>
    obtain ⟨k, hk, rfl, rfl, hnx⟩ := hrel
    by_cases hlt : k < n
    · obtain ⟨b, off, rfl, hb, _, _, _, hc⟩ := H.out.cells (by omega)
      obtain ⟨c0, c1, _, _⟩ := hc k _ (marksPK_atFi hlt)
      have hk6 : (0 : Int) ≤ (k : Int) := by omega
      have hk7 : (k : Int) < (n : Int) := by omega
      have l0 : b < wr.heap.size := Nat.lt_of_lt_of_le hb hnx.size
      have m0 := markTextB (k0 + 2 * k) (by omega) (by omega)
      have m1 := markTextB (k0 + 2 * k + 1) (by omega) (by omega)
      unfold markPKFi at c0 c1
      simp only at c0 c1
      obtain ⟨q, hq⟩ : ∃ q : Nat, k0 + 2 * k = q := ⟨_, rfl⟩
      rw [hq] at m0 m1 c0 c1
      have d1 : ((q + 1 : Nat) : Int) = (q : Int) + 1 := by omega
      rw [d1] at m1
      have M0 := Lib.hid m0
      have M1 := Lib.hid m1
      rw [hq]
      have hqs : q ≤ 80000000 := by omega
      have HQ3 : Hid (((k0 + 2 * (k + 1) : Nat) : Int) = (q : Int) + 1 + 1) := Lib.hid (by omega)
      generalize mark q = t0 at *
      generalize mark (q + 1) = t1 at *
      clear hq m0 m1 d1 hc
      go_wp2_with fail
      have KK := c0
      rw [← hnx.cell (p := ⟨b, _, none⟩) hb] at KK
      have LL : b < wr.heap.size := Nat.lt_of_lt_of_le hb hnx.size
      go_region_held3 (fun w' => w'.cell? ⟨b, off + k * 2, none⟩ = some (.string t0))
        (first | go_keep | (rw [ha0.cell (by first | (simp; done) | exact World.block_lt_of_cell? _ _ (by assumption))]; assumption))
        (first | (go_at_call 95; refine (M0.out _).mono ?_; rintro e wa0 ⟨rfl, ha0⟩))
      have B0 : Below w.heap.size w wa0 := (Below.drew hnx).trans (ha0.mono hnx.size)
      clear ha0 KK LL hnx
      go_wp2_with fail
      have KK := c1
      rw [← B0.cell (p := ⟨b, _, none⟩) hb] at KK
      have LL : b < wa0.heap.size := Nat.lt_of_lt_of_le hb B0.size
      go_region_held3 (fun w' => w'.cell? ⟨b, off + k * 2 + 1, none⟩ = some (.string t1))
        (first | go_keep | (rw [ha1.cell (by first | (simp; done) | exact World.block_lt_of_cell? _ _ (by assumption))]; assumption))
        (first | (go_at_call 95; refine (M1.out _).mono ?_; rintro e wa1 ⟨rfl, ha1⟩))
      have B1 : Below w.heap.size w wa1 := (Below.drew B0).trans (ha1.mono B0.size)
      clear ha1 KK LL B0
      go_wp2_with fail
      go_roundw
      case rel => exact ⟨k + 1, by omega, by go_num, by rw [HQ3.out], B1⟩
      case measure => simp [intOf]; omega
    · obtain rfl : k = n := by omega
      go_wp2_with fail
      go_ret
      exact ⟨rfl, hnx⟩
open Go.RowKit Go.WideShapes
def SmAllPrFi (ts : List Pre2) : Prop := ∀ t ∈ ts, t.1.size ≤ maxLen ∧ t.2.size ≤ maxLen
theorem pres_mostFi {w : World} {a : Option Addr} {len cap : Nat} {ts : List Pre2} (h : IsPres w a len cap ts) : len ≤ 9223372036854775807 := by
  rcases h with ⟨_, rfl, _, _⟩ | ⟨_, _, h1, h2, _⟩
  · omega
  · unfold maxLen at h2; omega
/-- The call owns a slice of these pairs, between B and C. -/
def OwnPCFi (B C : Nat) (v : Value) (ts : List Pre2) (w : World) : Prop := OwnPFi B w v ts ∧ ∀ j, v.ownBlock = some j → j < C
theorem ownPC_livesFi {B C : Nat} {v : Value} {ts : List Pre2} : Lives B C (OwnPCFi B C v ts) := row_lives
theorem OwnPCFi.turn {B C : Nat} {v : Value} {ts : List Pre2} {w w' : World} (h : OwnPCFi B C v ts w) (hg : w.grownBy w' v.ownBlock) : Turn B C w w' := .of_grown hg (fun j hj => ⟨(World.ownsRow.lt h.1 j hj).1, h.2 j hj⟩)
theorem OwnPCFi.read {B C : Nat} {w : World} {a : Option Addr} {n c : Nat} {ts : List Pre2} (h : OwnPCFi B C (.slice a n c) ts w) (hm : SmAllPrFi ts) (hl : ts.length = n) : IsPres w a n c ts := by
  subst hl
  obtain ⟨x, y, e, i⟩ := h.1.is hm
  simp only [Value.slice.injEq, true_and] at e
  obtain ⟨rfl, rfl⟩ := e
  exact i
theorem ownP_baseFi {B C : Nat} {w : World} {v : Value} {ts : List Pre2} (h : OwnPFi B w v ts) (hc : C ≤ B) : OwnPFi C w v ts := by
  obtain ⟨h1, h2⟩ := h
  refine ⟨h1, ?_⟩
  rcases h2 with h2 | ⟨g, cap, cur, e, hB, r⟩
  · exact .inl h2
  · exact .inr ⟨g, cap, cur, e, Nat.le_trans hc hB, r⟩
theorem exToPrFi (a : Option Addr) (n c : Nat) (ts : List Pre2) (w : World) (h : IsPres w a n c ts) (hs : n ≤ 1048576) (hl : ts.length = n) :
    Calls Try.prog 65 #[.slice a n c] w fun e w' => ∃ a' c', e = .returned (.slice a' n c') ∧ Holds w.heap.size w'.heap.size w' (OwnPCFi w.heap.size w'.heap.size (.slice a' n c') ts) ∧ Below w.heap.size w w' :=
  (toPairSFi a n c ts w h hs).mono fun e w' ⟨v, he, ho, hb⟩ => by
    have H : Holds w.heap.size w'.heap.size w' (OwnPCFi w.heap.size w'.heap.size v ts) := ⟨ownPC_livesFi, Nat.le_refl _, ho, fun j hj => (World.ownsRow.lt ho j hj).2⟩
    subst hl
    rcases ho.2 with ⟨rfl, e⟩ | ⟨g, c, cur, rfl, _⟩
    · exact ⟨none, 0, by rw [he, e], by rw [e]; exact H, hb⟩
    · exact ⟨_, _, he, H, hb⟩
theorem exMarkPrFi {B C : Nat} {a : Option Addr} {n c : Nat} {ts : List Pre2} {w : World} (h : Holds B C w (OwnPCFi B C (.slice a n c) ts)) (hs : n ≤ 1048576) (hl : ts.length = n) (k0 : Nat) (hk0 : 0 < k0) (hk1 : k0 ≤ 40000000) :
    Calls Try.prog 69 #[.slice a n c, .int .i64 k0] w fun e w' => e = .returned (.int .i64 ((k0 + 2 * n : Nat) : Int)) ∧ Holds B C w' (OwnPCFi B C (.slice a n c) (marksPKFi k0 n)) ∧ Turn B C w w' := by
  subst hl
  refine (markPairKFi B _ ts w h.now.1 hs k0 hk0 hk1).mono fun e w' ⟨he, ho, hg⟩ => ⟨he, ⟨ownPC_livesFi, Nat.le_trans h.le hg.size, ho, h.now.2⟩, h.now.turn hg⟩
end Go.Proofs.Ytamnlifdfhmbnaa
/- A folder: a map from names to pieces of data, of the program's own: what it holds; its operations; files and ops appended. -/
namespace Go.Proofs.Ytamnlifdfhmbnaa
open Go.RowKit Go.WideShapes Go.Maps
namespace Fol
theorem addD_self {kvs : List (Txt × Value)} {t : Txt} {v : Value} : (t, v) ∈ addD kvs t v := by
  unfold addD
  split
  · rename_i h
    obtain ⟨p, hp, rfl⟩ := List.mem_map.1 h
    exact List.mem_map.2 ⟨p, hp, by simp⟩
  · simp
theorem addD_old {kvs : List (Txt × Value)} {t : Txt} {v : Value} {p : Txt × Value} (h : p ∈ kvs) (hn : p.1 ≠ t) : p ∈ addD kvs t v := by
  unfold addD
  split
  · exact List.mem_map.2 ⟨p, h, by simp [hn]⟩
  · exact List.mem_append_left _ h
theorem filtD_len {t : Txt} : ∀ {kvs : List (Txt × Value)}, (kvs.map Prod.fst).Nodup → t ∈ kvs.map Prod.fst → (kvs.filter (fun p => decide (p.1 ≠ t))).length + 1 = kvs.length
  | [], _, h => by simp at h
  | x :: r, hn, h => by
    rw [List.map_cons] at hn h
    obtain ⟨h1, h2⟩ := List.nodup_cons.1 hn
    by_cases e : x.1 = t
    · have : r.filter (fun p => decide (p.1 ≠ t)) = r := List.filter_eq_self.2 fun p hp => decide_eq_true (fun g => h1 (List.mem_map.2 ⟨p, hp, by rw [g, e]⟩))
      rw [List.filter_cons, if_neg (by simp [e]), this]
      rfl
    · have hr : t ∈ r.map Prod.fst := by
        rcases List.mem_cons.1 h with h | h
        · exact absurd h.symm e
        · exact h
      have := filtD_len h2 hr
      rw [List.filter_cons, if_pos (by simp [e]), List.length_cons, List.length_cons]
      omega
/-- The entries without a text's. -/
def strike (kvs : List (Txt × Value)) (t : Txt) : List (Txt × Value) := kvs.filter (fun p => decide (p.1 ≠ t))
theorem filtD_none {t : Txt} {kvs : List (Txt × Value)} (h : t ∉ kvs.map Prod.fst) : kvs.filter (fun p => decide (p.1 ≠ t)) = kvs := List.filter_eq_self.2 fun p hp => decide_eq_true (fun e => h (List.mem_map.2 ⟨p, hp, e⟩))
theorem strike_mem {kvs : List (Txt × Value)} {t : Txt} {p : Txt × Value} : p ∈ strike kvs t ↔ p ∈ kvs ∧ p.1 ≠ t := by unfold strike; rw [List.mem_filter, decide_eq_true_eq]
theorem del {D : DataW Value} {kvs : List (Txt × Value)} (h : MapOfD D kvs) (hT : Tidy D) (t : Txt) : MapOfD (D.del (litS t)) (strike kvs t) := by
  have hm := h.mem t
  refine ⟨(List.filter_sublist.map Prod.fst).nodup h.nodup, fun kl => ?_, ?_, fun p hp z => ?_⟩
  · by_cases e : kl = litS t
    · subst e
      rw [has_del_same]
      refine ⟨(fun h => by cases h), fun ⟨u, hu, hk⟩ => ?_⟩
      obtain ⟨p, hp, rfl⟩ := List.mem_map.1 hu
      exact absurd (litS_inj hk).symm (strike_mem.1 hp).2
    · rw [has_del_other e, h.has]
      constructor
      · rintro ⟨u, hu, rfl⟩
        obtain ⟨p, hp, rfl⟩ := List.mem_map.1 hu
        exact ⟨p.1, List.mem_map.2 ⟨p, strike_mem.2 ⟨hp, fun g => e (by rw [g])⟩, rfl⟩, rfl⟩
      · rintro ⟨u, hu, rfl⟩
        obtain ⟨p, hp, rfl⟩ := List.mem_map.1 hu
        exact ⟨p.1, List.mem_map.2 ⟨p, (strike_mem.1 hp).1, rfl⟩, rfl⟩
  · have := size_del (k := litS t) hT
    rw [hm, h.size] at this
    unfold strike
    by_cases g : t ∈ kvs.map Prod.fst
    · have := filtD_len h.nodup g
      simp only [g, decide_true, if_true] at *; omega
    · rw [filtD_none g]
      simp only [g, decide_false, Bool.false_eq_true, if_false] at *; omega
  · obtain ⟨h1, h2⟩ := strike_mem.1 hp
    rw [atKey_del_other (fun e => h2 (litS_inj e))]
    exact h.val p h1 z
/-- A map's block is no row's. -/
theorem row_no_map {B b e k n : Nat} {w : World} {v : Value} {xs : List Value} (h : w.ownsRow B e k v n xs) (hb : ∃ es c, w.heap[b]? = some (.map es c)) : v.ownBlock = none ∨ v.ownBlock ≠ some b := by
  obtain ⟨es, c, hb⟩ := hb
  rcases h.2 with ⟨rfl, _⟩ | ⟨g, cap, cur, rfl, _, hh, _⟩
  · exact .inl rfl
  · refine .inr fun e => ?_
    simp only [Value.ownBlock, Option.some.injEq] at e
    subst e
    rw [hh] at hb
    cases hb
end Fol
/-- Pieces one behind the other. -/
def catT (ps : List ByteArray) : List UInt8 := ps.flatMap fun p => p.data.toList
theorem catT_snoc (ps : List ByteArray) (p : ByteArray) : catT (ps ++ [p]) = catT ps ++ p.data.toList := by simp [catT]
/-- The map's values are these files' pieces, each file's in a block of its own. -/
def FolIs (B m : Nat) (w : World) (kvs : List (Txt × Value)) (P : List Pre2) : Prop :=
  (∀ t, t ∈ kvs.map Prod.fst ↔ t ∈ P.map nmP) ∧ (∀ r ∈ P, ∃ u ps, (nmP r, u) ∈ kvs ∧ OwnS B w u ps ∧ catT ps = r.2.data.toList ∧ ps.length ≤ m) ∧ ∀ p ∈ kvs, ∀ q ∈ kvs, p.1 ≠ q.1 → ∀ j, p.2.ownBlock = some j → q.2.ownBlock ≠ some j
theorem FolIs.nil (B m : Nat) (w : World) : FolIs B m w [] [] := ⟨by simp, by simp, by simp⟩
theorem FolIs.moved {B m : Nat} {w w' : World} {kvs : List (Txt × Value)} {P : List Pre2} (h : FolIs B m w kvs P) (hk : ∀ p ∈ kvs, ∀ ps, OwnS B w p.2 ps → OwnS B w' p.2 ps) : FolIs B m w' kvs P :=
  ⟨h.1, fun r hr => by
    obtain ⟨u, ps, h1, h2, h3⟩ := h.2.1 r hr
    exact ⟨u, ps, h1, hk _ h1 ps h2, h3⟩, h.2.2⟩
theorem FolIs.next {B m : Nat} {w w' : World} {kvs : List (Txt × Value)} {P : List Pre2} (h : FolIs B m w kvs P) (hb : Below w.heap.size w w') : FolIs B m w' kvs P := h.moved fun _ _ _ ho => ho.kept hb
theorem FolIs.update {B m b : Nat} {w w' : World} {kvs : List (Txt × Value)} {P : List Pre2} (h : FolIs B m w kvs P) (hg : w.grownBy w' (some b)) (hb : ∃ es c, w.heap[b]? = some (.map es c)) : FolIs B m w' kvs P :=
  h.moved fun _ _ _ ho => World.ownsRow.kept ho hg (Fol.row_no_map ho hb)
theorem FolIs.mono {B m m' : Nat} {w : World} {kvs : List (Txt × Value)} {P : List Pre2} (h : FolIs B m w kvs P) (hm : m ≤ m') : FolIs B m' w kvs P :=
  ⟨h.1, fun r hr => by
    obtain ⟨u, ps, h1, h2, h3, h4⟩ := h.2.1 r hr
    exact ⟨u, ps, h1, h2, h3, by omega⟩, h.2.2⟩
theorem FolIs.put {B m : Nat} {w : World} {kvs : List (Txt × Value)} {P P' : List Pre2} {s d : ByteArray} {v : Value} {ps : List ByteArray} (h : FolIs B m w kvs P) (hP : ∀ y, y ∈ P' ↔ y = (s, d) ∨ (y ∈ P ∧ y.1 ≠ s))
    (ho : OwnS B w v ps) (hc : catT ps = d.data.toList) (hl : ps.length ≤ m) (hf : ∀ p ∈ kvs, p.1 ≠ s.data.toList → ∀ j, p.2.ownBlock = some j → v.ownBlock ≠ some j) : FolIs B m w (addD kvs s.data.toList v) P' := by
  refine ⟨fun t => ?_, fun r hr => ?_, fun p hp q hq hpq j hj e => ?_⟩
  · rw [addD_keys, addS_mem, h.1]
    constructor
    · rintro (ht | rfl)
      · obtain ⟨r, hr, rfl⟩ := List.mem_map.1 ht
        by_cases es : r.1 = s
        · exact List.mem_map.2 ⟨(s, d), (hP _).2 (.inl rfl), by simp [nmP, es]⟩
        · exact List.mem_map.2 ⟨r, (hP _).2 (.inr ⟨hr, es⟩), rfl⟩
      · exact List.mem_map.2 ⟨(s, d), (hP _).2 (.inl rfl), rfl⟩
    · intro ht
      obtain ⟨r, hr, rfl⟩ := List.mem_map.1 ht
      rcases (hP _).1 hr with rfl | ⟨hr, _⟩
      · exact .inr rfl
      · exact .inl (List.mem_map.2 ⟨r, hr, rfl⟩)
  · rcases (hP _).1 hr with rfl | ⟨hr, hne⟩
    · exact ⟨v, ps, Fol.addD_self, ho, hc, hl⟩
    · obtain ⟨u, qs, h1, h2⟩ := h.2.1 r hr
      exact ⟨u, qs, Fol.addD_old h1 (fun e => hne (nmP_inj e)), h2⟩
  · rcases addD_mem hp with rfl | ⟨hn, hp⟩
    · rcases addD_mem hq with rfl | ⟨hn, hq⟩
      · exact hpq rfl
      · exact hf q hq hn j e hj
    · rcases addD_mem hq with rfl | ⟨hn', hq⟩
      · exact hf p hp hn j hj e
      · exact h.2.2 p hp q hq hpq j hj e
theorem FolIs.cut {B m : Nat} {w : World} {kvs : List (Txt × Value)} {P P' : List Pre2} {s : ByteArray} (h : FolIs B m w kvs P) (hP : ∀ y, y ∈ P' ↔ y ∈ P ∧ y.1 ≠ s) : FolIs B m w (Fol.strike kvs s.data.toList) P' := by
  refine ⟨fun t => ?_, fun r hr => ?_, fun p hp q hq => h.2.2 p (Fol.strike_mem.1 hp).1 q (Fol.strike_mem.1 hq).1⟩
  · constructor
    · intro ht
      obtain ⟨p, hp, rfl⟩ := List.mem_map.1 ht
      obtain ⟨h1, h2⟩ := Fol.strike_mem.1 hp
      obtain ⟨r, hr, e⟩ := List.mem_map.1 ((h.1 p.1).1 (List.mem_map.2 ⟨p, h1, rfl⟩))
      exact List.mem_map.2 ⟨r, (hP r).2 ⟨hr, fun z => h2 (by rw [← e]; unfold nmP; rw [z])⟩, e⟩
    · intro ht
      obtain ⟨r, hr, rfl⟩ := List.mem_map.1 ht
      obtain ⟨h1, h2⟩ := (hP r).1 hr
      obtain ⟨u, ps, h3, _⟩ := h.2.1 r h1
      exact List.mem_map.2 ⟨_, Fol.strike_mem.2 ⟨h3, fun e => h2 (nmP_inj e)⟩, rfl⟩
  · obtain ⟨h1, h2⟩ := (hP r).1 hr
    obtain ⟨u, ps, h3, h4⟩ := h.2.1 r h1
    exact ⟨u, ps, Fol.strike_mem.2 ⟨h3, fun e => h2 (nmP_inj e)⟩, h4⟩
theorem FolIs.len {B m b n : Nat} {w : World} {kvs : List (Txt × Value)} {P : List Pre2} (hM : OwnMapD w b n kvs) (h : FolIs B m w kvs P) (hR : RisP P) : kvs.length = P.length := by
  have := ((List.perm_ext_iff_of_nodup hM.nodup (risP_keys.2 hR).nodup).2 h.1).length_eq
  rwa [List.length_map, List.length_map] at this
/-- The value at a name is there. -/
theorem FolIs.at {B m : Nat} {w : World} {kvs : List (Txt × Value)} {P : List Pre2} (h : FolIs B m w kvs P) {s : ByteArray} {d : ByteArray} (hs : atF P s = some d) : ∃ u ps, (s.data.toList, u) ∈ kvs ∧ OwnS B w u ps ∧ catT ps = d.data.toList ∧ ps.length ≤ m := h.2.1 (s, d) (atF_mem hs)
theorem FolIs.no {B m : Nat} {w : World} {kvs : List (Txt × Value)} {P : List Pre2} (h : FolIs B m w kvs P) {s : ByteArray} (hs : atF P s = none) : s.data.toList ∉ kvs.map Prod.fst := by
  intro e
  obtain ⟨r, hr, er⟩ := List.mem_map.1 ((h.1 _).1 e)
  exact atF_none.1 hs r hr (nmP_inj er)
theorem Fol.one_val : ∀ {kvs : List (Txt × Value)} {t : Txt} {u v : Value}, (kvs.map Prod.fst).Nodup → (t, u) ∈ kvs → (t, v) ∈ kvs → u = v
  | [], _, _, _, _, h, _ => by simp at h
  | x :: r, t, u, v, hn, hu, hv => by
    rw [List.map_cons, List.nodup_cons] at hn
    have no : ∀ q, (t, q) ∈ r → x.1 ≠ t := fun q hq e => hn.1 (List.mem_map.2 ⟨_, hq, e.symm⟩)
    rcases List.mem_cons.1 hu with eu | hu' <;> rcases List.mem_cons.1 hv with ev | hv'
    · have := eu.trans ev.symm; simpa using this
    · exact absurd (by rw [← eu]) (no v hv')
    · exact absurd (by rw [← ev]) (no u hu')
    · exact Fol.one_val hn.2 hu' hv'
theorem FolIs.val {B m : Nat} {w : World} {kvs : List (Txt × Value)} {P : List Pre2} (h : FolIs B m w kvs P) (hn : (kvs.map Prod.fst).Nodup) {p : Txt × Value} (hp : p ∈ kvs) : ∃ r ∈ P, nmP r = p.1 ∧ ∃ ps, OwnS B w p.2 ps ∧ catT ps = r.2.data.toList ∧ ps.length ≤ m := by
  obtain ⟨r, hr, e⟩ := List.mem_map.1 ((h.1 p.1).1 (List.mem_map.2 ⟨p, hp, rfl⟩))
  obtain ⟨u, ps, h1, h2⟩ := h.2.1 r hr
  have : u = p.2 := Fol.one_val hn (by rw [← e]; exact h1) hp
  exact ⟨r, hr, e, ps, by rw [← this]; exact h2⟩
theorem FolIs.lt {B m : Nat} {w : World} {kvs : List (Txt × Value)} {P : List Pre2} (h : FolIs B m w kvs P) (hn : (kvs.map Prod.fst).Nodup) {p : Txt × Value} (hp : p ∈ kvs) {j : Nat} (hj : p.2.ownBlock = some j) : B ≤ j ∧ j < w.heap.size := by
  obtain ⟨r, _, _, ps, ho, _⟩ := h.val hn hp
  exact World.ownsRow.lt ho j hj
theorem zeroSl (w : World) : (zeroValue 83).run Try.prog w = .ok (.slice none 0 0) w := by kernel_rfl
section
variable (w : World) {ops : Array Oper} {rest : List Oper} {o : Oper} {a : Act} {Q : Exit → Act → World → Prop}
/-- A store of pieces at a name. -/
theorem wpList_putF (hg : o.guard = none) (m x v : Operand) (hop : o.op = Op.mapUpdate 70 m x v) (b n : Nat) (kvs : List (Txt × Value)) (hm : a.eval m = .map (some b)) (h : OwnMapD w b n kvs) (hn : n < maxLen) (t : ByteArray) (ht : t.size ≤ maxLen)
    (hx : a.eval x = .string t) (u : Value) (hv : a.eval v = u) (hK : ∀ w', OwnMapD w' b (n + 1) (addD kvs t.data.toList u) → w.grownBy w' (some b) → wpList Try.prog ops Q rest (a.put o.dst undef) w') : wpList Try.prog ops Q (o :: rest) a w := by
  obtain ⟨D, hown, hD⟩ := h
  exact wpList_mapUpdate_own w hg m x v _ hop _ 83 lawTxt Try.underlying70 valD b n D hm hown hn _ u (litS t.data.toList) hx hv (Go.WideMaps.keyOf_string_mk Try.underlying9 ht) _ [] rfl (fun w' h1 h2 => hK w' ⟨_, h1, hD.put (hown.tidy lawTxt) _ u⟩ h2)
/-- .. at a step of a region that draws its order. -/
theorem upon_putF {K : Act → World → Prop} (m x v : Operand) (hop : o.op = Op.mapUpdate 70 m x v) (b n : Nat) (kvs : List (Txt × Value)) (hm : a.eval m = .map (some b)) (h : OwnMapD w b n kvs) (hn : n < maxLen) (t : ByteArray) (ht : t.size ≤ maxLen)
    (hx : a.eval x = .string t) (u : Value) (hv : a.eval v = u) (hK : ∀ w', OwnMapD w' b (n + 1) (addD kvs t.data.toList u) → w.grownBy w' (some b) → K (a.put o.dst undef) w') : Oper.wp Try.prog o a w K Q := by
  obtain ⟨D, hown, hD⟩ := h
  obtain ⟨w', hrun, r1, r2⟩ := hown.update lawTxt Try.underlying70 hn (Go.WideMaps.keyOf_string_mk Try.underlying9 ht) (rfl : valD u = some (.held u, []))
  unfold Oper.wp
  simp [execOp, hop, hm, hx, hv, hrun, Result.andThen]
  exact hK w' ⟨_, r1, hD.put (hown.tidy lawTxt) _ u⟩ r2
theorem upon_lookF {K : Act → World → Prop} (m x : Operand) (hop : o.op = Op.lookup 70 m x false) (b n : Nat) (kvs : List (Txt × Value)) (hm : a.eval m = .map (some b)) (h : OwnMapD w b n kvs) (t : ByteArray) (ht : t.size ≤ maxLen)
    (u : Value) (hu : (t.data.toList, u) ∈ kvs ∨ (t.data.toList ∉ kvs.map Prod.fst ∧ u = .slice none 0 0)) (hx : a.eval x = .string t) (hK : K (a.put o.dst u) w) : Oper.wp Try.prog o a w K Q := by
  obtain ⟨D, hown, hD⟩ := h
  obtain ⟨v, ps, hrun, hv⟩ := hown.lookup lawTxt Try.underlying70 (zeroSl w) (rfl : valD (.slice none 0 0) = some (.held (.slice none 0 0), [])) (Go.WideMaps.keyOf_string_mk Try.underlying9 ht)
  have e : v = u := by
    rcases hu with hu | ⟨hu, rfl⟩
    · have hl := hD.val _ hu (.held (.slice none 0 0))
      unfold litS at hl
      rw [hl] at hv
      unfold valD at hv
      simp only [Option.some.injEq, Prod.mk.injEq, DataW.held.injEq] at hv
      exact hv.1
    · have hn : Maps.has D (litS t.data.toList) = false := by rw [hD.mem, decide_eq_false hu]
      have hl := atKey_of_not_has hn (.held (.slice none 0 0))
      unfold litS at hl
      rw [hl] at hv
      unfold valD at hv
      simp only [Option.some.injEq, Prod.mk.injEq, DataW.held.injEq] at hv
      exact hv.1
  subst e
  unfold Oper.wp
  simp [execOp, hop, hm, hx, hrun, Result.andThen]
  exact hK
/-- What stands at a name: its pieces; none where it is not there. -/
theorem wpList_lookF (hg : o.guard = none) (m x : Operand) (hop : o.op = Op.lookup 70 m x false) (b n : Nat) (kvs : List (Txt × Value)) (hm : a.eval m = .map (some b)) (h : OwnMapD w b n kvs) (t : ByteArray) (ht : t.size ≤ maxLen)
    (u : Value) (hu : (t.data.toList, u) ∈ kvs ∨ (t.data.toList ∉ kvs.map Prod.fst ∧ u = .slice none 0 0)) (hx : a.eval x = .string t) (hK : wpList Try.prog ops Q rest (a.put o.dst u) w) : wpList Try.prog ops Q (o :: rest) a w :=
  wpList_plain hg fun _ hK' => upon_lookF w m x hop b n kvs hm h t ht u hu hx (hK' _ _ hK)
/-- Is there a file of that name? -/
theorem wpList_hasF (hg : o.guard = none) (m x : Operand) (hop : o.op = Op.lookup 70 m x true) (b n : Nat) (kvs : List (Txt × Value)) (hm : a.eval m = .map (some b)) (h : OwnMapD w b n kvs) (t : ByteArray) (ht : t.size ≤ maxLen)
    (hx : a.eval x = .string t) (hK : ∀ v, wpList Try.prog ops Q rest (a.put o.dst (.tuple #[v, .bool (decide (t.data.toList ∈ kvs.map Prod.fst))])) w) : wpList Try.prog ops Q (o :: rest) a w := by
  obtain ⟨D, hown, hD⟩ := h
  refine wpList_lookup_own_ok w hg m x _ hop _ 83 lawTxt Try.underlying70 valD (zeroSl w) (.held (.slice none 0 0)) [] rfl b n D hm hown _ (litS t.data.toList) hx (Go.WideMaps.keyOf_string_mk Try.underlying9 ht) (fun v ps hv => ?_)
  rw [hD.mem]
  exact hK v
/-- A name is struck. -/
theorem wpList_dropF (hg : o.guard = none) (m x : Operand) (hop : o.op = Op.call { callee := Callee.builtin Builtin.delete, args := #[m, x], argTypes := #[70, 9] }) (b n : Nat) (kvs : List (Txt × Value)) (hm : a.eval m = .map (some b)) (h : OwnMapD w b n kvs)
    (t : ByteArray) (ht : t.size ≤ maxLen) (hx : a.eval x = .string t) (hK : ∀ w', OwnMapD w' b n (Fol.strike kvs t.data.toList) → w.grownBy w' (some b) → wpList Try.prog ops Q rest (a.put o.dst (.tuple #[])) w') : wpList Try.prog ops Q (o :: rest) a w := by
  obtain ⟨D, hown, hD⟩ := h
  exact wpList_delete_own w hg m x _ _ hop 83 lawTxt Try.underlying70 valD b n D hm hown _ (litS t.data.toList) hx (Go.WideMaps.keyOf_string_mk Try.underlying9 ht) (fun w' h1 h2 => hK w' ⟨_, h1, Fol.del hD (hown.tidy lawTxt) _⟩ h2.grown)
theorem wpList_countF (hg : o.guard = none) (m : Operand) (hop : o.op = Op.call { callee := Callee.builtin Builtin.len, args := #[m], argTypes := #[70] }) (b n : Nat) (kvs : List (Txt × Value)) (hm : a.eval m = .map (some b)) (h : OwnMapD w b n kvs)
    (hK : wpList Try.prog ops Q rest (a.put o.dst (.int .i64 kvs.length)) w) : wpList Try.prog ops Q (o :: rest) a w := by
  obtain ⟨D, hown, hD⟩ := h
  refine wpList_len_own w hg m _ hop _ 83 Try.underlying70 valD b n D hm hown ?_
  rw [hD.size]; exact hK
end
section
variable {o : Oper} {a : Act} {w : World} {Q : Exit → Act → World → Prop}
/-- One more piece, appended: it lies alone in a literal's block. -/
theorem upon_morePc {K : Act → World → Prop} (s x : Operand) (ho : o.op = .call { callee := .builtin .append, args := #[s, x], argTypes := #[83, 83] }) {B : Nat} {v : Value} {ps : List ByteArray} {t : ByteArray} (hs : a.eval s = v) (h : OwnS B w v ps) (hB : B ≤ w.heap.size)
    (q : Nat) (hx : a.eval x = .slice (some ⟨q, 0, none⟩) 1 1) (hq : w.cell? ⟨q, 0, none⟩ = some (.string t)) (hl : ps.length ≤ 1048576)
    (k : ∀ (v' : Value) (w' : World), OwnS B w' v' (ps ++ [t]) → w.grownBy w' v.ownBlock → (v'.ownBlock = v.ownBlock ∨ v'.ownBlock = some w.heap.size) → K (a.put o.dst v') w') : Oper.wp Try.prog o a w K Q := by
  obtain ⟨i0, hi, hz0, hz1, hz2⟩ := info_parts infoStr
  obtain ⟨v', w', hr, ho1, hg1, _, hat⟩ := run_append_own_at (P := Try.prog) (w := w) B 83 o.type 9 i0 (.string ⟨#[]⟩) 1 16 Try.underlying83 hi hz0 hz1 hz2 rfl (by decide) v ps.length _ h ⟨q, 0, none⟩ 1 1 [.string t] rfl (fun j y hy => by
      rcases j with _ | j
      · simp at hy; subst hy; simpa [Addr.add] using hq
      · simp at hy) (fun y hy => by
      simp at hy
      rw [hy]; rfl) (by unfold maxLen; omega) (by omega) hB
  unfold Oper.wp
  simp [execOp, ho, resolve, invoke, builtin, hs, hx, hr, Result.andThen]
  exact k v' w' (ownS_snoc (by simpa using ho1)) hg1 hat
/-- One more file, appended. -/
theorem upon_moreFi {K : Act → World → Prop} (s x : Operand) (ho : o.op = .call { callee := .builtin .append, args := #[s, x], argTypes := #[24, 24] }) {B : Nat} {v : Value} {ts : List Pre2} {t : Pre2} (hs : a.eval s = v) (h : OwnPFi B w v ts) (hB : B ≤ w.heap.size)
    (q : Nat) (hx : a.eval x = .slice (some ⟨q, 0, none⟩) 1 1) (hq : w.cell? ⟨q, 0, none⟩ = some (.string t.1) ∧ w.cell? ⟨q, 1, none⟩ = some (.string t.2)) (hl : ts.length ≤ 1048576)
    (k : ∀ (v' : Value) (w' : World), OwnPFi B w' v' (ts ++ [t]) → w.grownBy w' v.ownBlock → (v'.ownBlock = v.ownBlock ∨ v'.ownBlock = some w.heap.size) → K (a.put o.dst v') w') : Oper.wp Try.prog o a w K Q := by
  obtain ⟨i0, hi, hz0, hz1, hz2⟩ := info_parts infoPairFi
  obtain ⟨v', w', hr, ho1, hg1, _, hat⟩ := run_append_own_at (P := Try.prog) (w := w) B 24 o.type 74 i0 (.agg #[.string ⟨#[]⟩, .string ⟨#[]⟩]) 2 32 Try.underlying24 hi hz0 hz1 hz2 rfl (by decide) v ts.length _ h ⟨q, 0, none⟩ 1 1 [.string t.1, .string t.2] rfl (fun j y hy => by
      rcases j with _ | _ | j
      · simp at hy; subst hy; simpa [Addr.add] using hq.1
      · simp at hy; subst hy; simpa [Addr.add] using hq.2
      · simp at hy) (fun y hy => by
      simp at hy
      rcases hy with rfl | rfl <;> rfl) (by unfold maxLen; omega) (by omega) hB
  unfold Oper.wp
  simp [execOp, ho, resolve, invoke, builtin, hs, hx, hr, Result.andThen]
  refine k v' w' ?_ hg1 hat
  unfold OwnPFi
  rw [flatP_snocFi, List.length_append, List.length_singleton]
  exact ho1
theorem wpList_moreFi {ops : Array Oper} {rest : List Oper} (hgd : o.guard = none) (s x : Operand) (ho : o.op = .call { callee := .builtin .append, args := #[s, x], argTypes := #[24, 24] }) {B : Nat} {v : Value} {ts : List Pre2} {t : Pre2} (hs : a.eval s = v) (h : OwnPFi B w v ts) (hB : B ≤ w.heap.size)
    (q : Nat) (hx : a.eval x = .slice (some ⟨q, 0, none⟩) 1 1) (hq : w.cell? ⟨q, 0, none⟩ = some (.string t.1) ∧ w.cell? ⟨q, 1, none⟩ = some (.string t.2)) (hl : ts.length ≤ 1048576)
    (k : ∀ (v' : Value) (w' : World), OwnPFi B w' v' (ts ++ [t]) → w.grownBy w' v.ownBlock → (v'.ownBlock = v.ownBlock ∨ v'.ownBlock = some w.heap.size) → wpList Try.prog ops Q rest (a.put o.dst v') w') : wpList Try.prog ops Q (o :: rest) a w :=
  wpList_plain hgd fun _ hK => upon_moreFi s x ho hs h hB q hx hq hl fun v' w' h1 h2 h3 => hK _ _ (k v' w' h1 h2 h3)
/-- One more op, appended. -/
theorem upon_moreOp {K : Act → World → Prop} (s x : Operand) (ho : o.op = .call { callee := .builtin .append, args := #[s, x], argTypes := #[25, 25] }) {B : Nat} {v : Value} {ts : List OpV} {t : OpV} (hs : a.eval s = v) (h : OwnOp B w v ts) (hB : B ≤ w.heap.size)
    (q : Nat) (hx : a.eval x = .slice (some ⟨q, 0, none⟩) 1 1) (hq : w.cell? ⟨q, 0, none⟩ = some (.int .i64 t.1) ∧ w.cell? ⟨q, 1, none⟩ = some (.string t.2.1) ∧ w.cell? ⟨q, 2, none⟩ = some (.string t.2.2.1) ∧ w.cell? ⟨q, 3, none⟩ = some (.string t.2.2.2)) (hl : ts.length ≤ 1048576)
    (k : ∀ (v' : Value) (w' : World), OwnOp B w' v' (ts ++ [t]) → w.grownBy w' v.ownBlock → (v'.ownBlock = v.ownBlock ∨ v'.ownBlock = some w.heap.size) → K (a.put o.dst v') w') : Oper.wp Try.prog o a w K Q := by
  obtain ⟨i0, hi, hz0, hz1, hz2⟩ := info_parts infoDop
  obtain ⟨v', w', hr, ho1, hg1, _, hat⟩ := run_append_own_at (P := Try.prog) (w := w) B 25 o.type 36 i0 (.agg #[.int .i64 0, .string ⟨#[]⟩, .string ⟨#[]⟩, .string ⟨#[]⟩]) 4 56 Try.underlying25 hi hz0 hz1 hz2 rfl (by decide) v ts.length _ h ⟨q, 0, none⟩ 1 1 [.int .i64 t.1, .string t.2.1, .string t.2.2.1, .string t.2.2.2] rfl (fun j y hy => by
      rcases j with _ | _ | _ | _ | j
      · simp at hy; subst hy; simpa [Addr.add] using hq.1
      · simp at hy; subst hy; simpa [Addr.add] using hq.2.1
      · simp at hy; subst hy; simpa [Addr.add] using hq.2.2.1
      · simp at hy; subst hy; simpa [Addr.add] using hq.2.2.2
      · simp at hy) (fun y hy => by
      simp at hy
      rcases hy with rfl | rfl | rfl | rfl <;> rfl) (by unfold maxLen; omega) (by omega) hB
  unfold Oper.wp
  simp [execOp, ho, resolve, invoke, builtin, hs, hx, hr, Result.andThen]
  refine k v' w' ?_ hg1 hat
  unfold OwnOp
  rw [flatOp_snoc, List.length_append, List.length_singleton]
  exact ho1
end
end Go.Proofs.Ytamnlifdfhmbnaa
/- Two slices of files are held against each other: the library's way, and the specification's. -/
namespace Go.Proofs.Ytamnlifdfhmbnaa
open Go.RowKit Go.WideShapes
namespace FilE
theorem under : Try.prog.underlying 74 = some (.struct (Try.prog.fieldsOf 74)) := by kernel_rfl
theorem stood : Try.prog.stoodInHeld 74 = false := by kernel_rfl
theorem list : ((Try.prog.fieldsOf 74).toList.map fun f => (f.name, f.type, f.offset)) = [("Name", 9, 0), ("Data", 9, 1)] := by kernel_rfl
theorem part0 (a b : ByteArray) (w : World) : (part 9 #[.string a, .string b] 0).run Try.prog w = .ok (.string a) w := by kernel_rfl
theorem part1 (a b : ByteArray) (w : World) : (part 9 #[.string a, .string b] 1).run Try.prog w = .ok (.string b) w := by kernel_rfl
theorem str_eq (a b : ByteArray) (w : World) : (Op.equalIn 9999 9 (.string a) (.string b)).run Try.prog w = .ok (a.toList == b.toList) w := run_equalIn_string w 9998 9 a b Try.underlying9
theorem eq (s p s' p' : ByteArray) (w : World) : (Op.equalIn 10000 74 (.agg #[.string s, .string p]) (.agg #[.string s', .string p'])).run Try.prog w =
    .ok (s.toList == s'.toList && p.toList == p'.toList) w := by
  rw [run_equalIn_agg w 9999 74 _ _ under stood]
  have h := list
  generalize (Try.prog.fieldsOf 74).toList = fs at h ⊢
  rcases fs with _ | ⟨f0, _ | ⟨f1, _ | ⟨f2, r⟩⟩⟩
  · simp at h
  · simp at h
  · simp only [List.map_cons, List.map_nil, List.cons.injEq, Prod.mk.injEq, and_true] at h
    obtain ⟨⟨n0, t0, o0⟩, ⟨n1, t1, o1⟩⟩ := h
    simp only [Op.eqFields, n0, n1, t0, t1, o0, o1]
    cases h1 : (s.toList == s'.toList) <;> cases h2 : (p.toList == p'.toList) <;> simp [part0, part1, str_eq, h1, h2]
  · simp at h
theorem ne (s p s' p' : ByteArray) (w : World) : (binOp .neq 74 (.agg #[.string s, .string p]) (.agg #[.string s', .string p'])).run Try.prog w =
    .ok (.bool !(s.toList == s'.toList && p.toList == p'.toList)) w := by
  rw [run_neq_struct, eq]; rfl
theorem same (s p : ByteArray) (w : World) : (binOp .neq 74 (.agg #[.string s, .string p]) (.agg #[.string s, .string p])).run Try.prog w = .ok (.bool false) w := by
  rw [ne]; simp
theorem unlike {t u : Pre2} (h : t ≠ u) : (t.1.toList == u.1.toList && t.2.toList == u.2.toList) = false := by
  cases e : (t.1.toList == u.1.toList && t.2.toList == u.2.toList)
  · rfl
  · exfalso
    simp only [Bool.and_eq_true, beq_iff_eq, ByteArray.toList_eq] at e
    obtain ⟨t1, t2⟩ := t
    obtain ⟨u1, u2⟩ := u
    have e1 := nmP_inj e.1
    have e2 := nmP_inj e.2
    simp only at e1 e2
    exact h (by rw [e1, e2])
theorem diff {t u : Pre2} (h : t ≠ u) (w : World) : (binOp .neq 74 (.agg #[.string t.1, .string t.2]) (.agg #[.string u.1, .string u.2])).run Try.prog w = .ok (.bool true) w := by
  rw [ne, unlike h]; rfl
end FilE
set_option maxRecDepth 100000 in
set_option maxHeartbeats 1600000 in
theorem implEqF (a b : Option Addr) (la ca lb cb : Nat) (ts us : List Pre2) (w : World) (ha : IsPres w a la ca ts) (hb : IsPres w b lb cb us) (hla : la ≤ 1048576) (hlb : lb ≤ 9223372036854775807) :
    Calls Try.prog 43 #[.slice a la ca, .slice b lb cb] w fun e w' => e = .returned (.bool (decide (ts = us))) ∧ Below w.heap.size w w' := by
  have HT := Lib.hid ha.len
  have HU := Lib.hid hb.len
  by_cases hl : la = lb
  rotate_left
  · have HR : Hid (decide (ts = us) = false) := Lib.hid (decide_eq_false (fun e => hl (by rw [← HT.out, ← HU.out, e])))
    have hli : ¬ (la : Int) = (lb : Int) := by omega
    clear ha hb
    go_enter Try.func43, Try.ntmps43
    go_wp2_with fail
    go_ret
    exact ⟨by rw [HR.out]; rfl, Below.refl _ _⟩
  subst hl
  have HA := Lib.hid ha
  have HB := Lib.hid hb
  clear ha hb
  go_enter Try.func43, Try.ntmps43
  go_wp2_with fail
  go_loopw [13] (fun i wr => ∃ k : Nat, k ≤ la ∧ i = .int .i64 k ∧ Hid (∀ i, i < k → ts[i]? = us[i]?) ∧ Below w.heap.size w wr) (fun i _ => la - (intOf i).toNat)
  case atStart => exact ⟨0, Nat.zero_le _, rfl, Lib.hid (fun i hi => by omega), Below.refl _ _⟩
  case round =>
    obtain ⟨k, hk, rfl, hs, hnx⟩ := hrel
    by_cases hlt : k < la
    · obtain ⟨x, off, rfl, hx, _, _, hts, hc⟩ := HA.out.cells (by omega)
      obtain ⟨y, off', rfl, hy, _, _, hus, hd⟩ := HB.out.cells (by omega)
      have ht : ts[k]? = some (ts[k]'(by omega)) := List.getElem?_eq_getElem (by omega)
      have hu : us[k]? = some (us[k]'(by omega)) := List.getElem?_eq_getElem (by omega)
      obtain ⟨c0, c1, m0, m1⟩ := hc k _ ht
      obtain ⟨d0, d1, n0, n1⟩ := hd k _ hu
      clear m0 m1 n0 n1
      rw [← hnx.cell (p := ⟨x, _, none⟩) hx] at c0 c1
      rw [← hnx.cell (p := ⟨y, _, none⟩) hy] at d0 d1
      generalize ts[k]'(by omega) = t at ht c0 c1
      generalize us[k]'(by omega) = u at hu d0 d1
      have hk6 : (0 : Int) ≤ (k : Int) := by omega
      have hk7 : (k : Int) < (la : Int) := by omega
      clear hts hus hc hd
      by_cases he : t = u
      · have HS : Hid (∀ i, i < k + 1 → ts[i]? = us[i]?) := Lib.hid (fun i hi => by
          rcases Nat.lt_or_ge i k with g | g
          · exact hs.out i g
          · obtain rfl : i = k := by omega
            rw [ht, hu, he])
        subst he
        have EQ := FilE.same t.1 t.2
        clear ht hu hs
        go_wp2_with fail
        go_quiet (fail)
        have B : Below w.heap.size w (wr.drewN nq) := below_drewN hnx nq
        clear hnx c0 c1 d0 d1 EQ
        generalize wr.drewN nq = wd at B ⊢
        go_wp2_with fail
        go_roundw
        case rel => exact ⟨k + 1, by omega, by go_num, HS, B⟩
        case measure => simp [intOf]; omega
      · have HR : Hid (decide (ts = us) = false) := Lib.hid (decide_eq_false (fun e => he (by rw [e, hu] at ht; exact (Option.some.inj ht).symm)))
        have EQ := FilE.diff he
        clear ht hu hs he
        go_wp2_with fail
        go_quiet (fail)
        have B : Below w.heap.size w (wr.drewN nq) := below_drewN hnx nq
        clear hnx c0 c1 d0 d1 EQ
        generalize wr.drewN nq = wd at B ⊢
        go_wp2_with fail
        go_ret
        exact ⟨by rw [HR.out]; rfl, B⟩
    · obtain rfl : k = la := by omega
      have HR : Hid (decide (ts = us) = true) := Lib.hid (decide_eq_true (List.ext_getElem? fun i => by
        rcases Nat.lt_or_ge i k with g | g
        · exact hs.out i g
        · rw [List.getElem?_eq_none (by rw [HT.out]; exact g), List.getElem?_eq_none (by rw [HU.out]; exact g)]))
      clear hs
      go_wp2_with fail
      go_ret
      exact ⟨by rw [HR.out]; rfl, hnx⟩

set_option maxRecDepth 100000 in
set_option maxHeartbeats 1600000 in
theorem specSameF (a b : Option Addr) (la ca lb cb : Nat) (ts us : List Pre2) (w : World) (ha : IsPres w a la ca ts) (hb : IsPres w b lb cb us) (hla : la ≤ 1048576) (hlb : lb ≤ 9223372036854775807) :
    Calls Try.prog 48 #[.slice a la ca, .slice b lb cb] w fun e w' => e = .returned (.bool (decide (ts = us))) ∧ Below w.heap.size w w' := by
  have HT := Lib.hid ha.len
  have HU := Lib.hid hb.len
  by_cases hl : la = lb
  rotate_left
  · have HR : Hid (decide (ts = us) = false) := Lib.hid (decide_eq_false (fun e => hl (by rw [← HT.out, ← HU.out, e])))
    have hli : ¬ (la : Int) = (lb : Int) := by omega
    clear ha hb
    go_enter Try.func48, Try.ntmps48
    go_wp2_with fail
    go_ret
    exact ⟨by rw [HR.out]; rfl, Below.refl _ _⟩
  subst hl
  have HA := Lib.hid ha
  have HB := Lib.hid hb
  clear ha hb
  go_enter Try.func48, Try.ntmps48
  go_wp2_with fail
  go_loopw [5] (fun i wr => ∃ k : Nat, k ≤ la ∧ i = .int .i64 k ∧ Hid (∀ i, i < k → ts[i]? = us[i]?) ∧ Below w.heap.size w wr) (fun i _ => la - (intOf i).toNat)
  case atStart => exact ⟨0, Nat.zero_le _, rfl, Lib.hid (fun i hi => by omega), Below.refl _ _⟩
  case round =>
    obtain ⟨k, hk, rfl, hs, hnx⟩ := hrel
    by_cases hlt : k < la
    · obtain ⟨x, off, rfl, hx, _, _, hts, hc⟩ := HA.out.cells (by omega)
      obtain ⟨y, off', rfl, hy, _, _, hus, hd⟩ := HB.out.cells (by omega)
      have ht : ts[k]? = some (ts[k]'(by omega)) := List.getElem?_eq_getElem (by omega)
      have hu : us[k]? = some (us[k]'(by omega)) := List.getElem?_eq_getElem (by omega)
      obtain ⟨c0, c1, m0, m1⟩ := hc k _ ht
      obtain ⟨d0, d1, n0, n1⟩ := hd k _ hu
      clear m0 m1 n0 n1
      rw [← hnx.cell (p := ⟨x, _, none⟩) hx] at c0 c1
      rw [← hnx.cell (p := ⟨y, _, none⟩) hy] at d0 d1
      generalize ts[k]'(by omega) = t at ht c0 c1
      generalize us[k]'(by omega) = u at hu d0 d1
      have hk6 : (0 : Int) ≤ (k : Int) := by omega
      have hk7 : (k : Int) < (la : Int) := by omega
      clear hts hus hc hd
      by_cases he : t = u
      · have HS : Hid (∀ i, i < k + 1 → ts[i]? = us[i]?) := Lib.hid (fun i hi => by
          rcases Nat.lt_or_ge i k with g | g
          · exact hs.out i g
          · obtain rfl : i = k := by omega
            rw [ht, hu, he])
        subst he
        have EQ := FilE.same t.1 t.2
        clear ht hu hs
        go_wp2_with fail
        go_quiet (fail)
        have B : Below w.heap.size w (wr.drewN nq) := below_drewN hnx nq
        clear hnx c0 c1 d0 d1 EQ
        generalize wr.drewN nq = wd at B ⊢
        go_wp2_with fail
        go_roundw
        case rel => exact ⟨k + 1, by omega, by go_num, HS, B⟩
        case measure => simp [intOf]; omega
      · have HR : Hid (decide (ts = us) = false) := Lib.hid (decide_eq_false (fun e => he (by rw [e, hu] at ht; exact (Option.some.inj ht).symm)))
        have EQ := FilE.diff he
        clear ht hu hs he
        go_wp2_with fail
        go_quiet (fail)
        have B : Below w.heap.size w (wr.drewN nq) := below_drewN hnx nq
        clear hnx c0 c1 d0 d1 EQ
        generalize wr.drewN nq = wd at B ⊢
        go_wp2_with fail
        go_ret
        exact ⟨by rw [HR.out]; rfl, B⟩
    · obtain rfl : k = la := by omega
      have HR : Hid (decide (ts = us) = true) := Lib.hid (decide_eq_true (List.ext_getElem? fun i => by
        rcases Nat.lt_or_ge i k with g | g
        · exact hs.out i g
        · rw [List.getElem?_eq_none (by rw [HT.out]; exact g), List.getElem?_eq_none (by rw [HU.out]; exact g)]))
      clear hs
      go_wp2_with fail
      go_ret
      exact ⟨by rw [HR.out]; rfl, hnx⟩

set_option maxRecDepth 100000 in
set_option maxHeartbeats 1600000 in
theorem lawSameF (a b : Option Addr) (la ca lb cb : Nat) (ts us : List Pre2) (w : World) (ha : IsPres w a la ca ts) (hb : IsPres w b lb cb us) (hla : la ≤ 1048576) (hlb : lb ≤ 9223372036854775807) :
    Calls Try.prog 17 #[.slice a la ca, .slice b lb cb] w fun e w' => e = .returned (.bool (decide (ts = us))) ∧ Below w.heap.size w w' := by
  have HT := Lib.hid ha.len
  have HU := Lib.hid hb.len
  by_cases hl : la = lb
  rotate_left
  · have HR : Hid (decide (ts = us) = false) := Lib.hid (decide_eq_false (fun e => hl (by rw [← HT.out, ← HU.out, e])))
    have hli : ¬ (la : Int) = (lb : Int) := by omega
    clear ha hb
    go_enter Try.func17, Try.ntmps17
    go_wp2_with fail
    go_ret
    exact ⟨by rw [HR.out]; rfl, Below.refl _ _⟩
  subst hl
  have HA := Lib.hid ha
  have HB := Lib.hid hb
  clear ha hb
  go_enter Try.func17, Try.ntmps17
  go_wp2_with fail
  go_loopw [5] (fun i wr => ∃ k : Nat, k ≤ la ∧ i = .int .i64 k ∧ Hid (∀ i, i < k → ts[i]? = us[i]?) ∧ Below w.heap.size w wr) (fun i _ => la - (intOf i).toNat)
  case atStart => exact ⟨0, Nat.zero_le _, rfl, Lib.hid (fun i hi => by omega), Below.refl _ _⟩
  case round =>
    obtain ⟨k, hk, rfl, hs, hnx⟩ := hrel
    by_cases hlt : k < la
    · obtain ⟨x, off, rfl, hx, _, _, hts, hc⟩ := HA.out.cells (by omega)
      obtain ⟨y, off', rfl, hy, _, _, hus, hd⟩ := HB.out.cells (by omega)
      have ht : ts[k]? = some (ts[k]'(by omega)) := List.getElem?_eq_getElem (by omega)
      have hu : us[k]? = some (us[k]'(by omega)) := List.getElem?_eq_getElem (by omega)
      obtain ⟨c0, c1, m0, m1⟩ := hc k _ ht
      obtain ⟨d0, d1, n0, n1⟩ := hd k _ hu
      clear m0 m1 n0 n1
      rw [← hnx.cell (p := ⟨x, _, none⟩) hx] at c0 c1
      rw [← hnx.cell (p := ⟨y, _, none⟩) hy] at d0 d1
      generalize ts[k]'(by omega) = t at ht c0 c1
      generalize us[k]'(by omega) = u at hu d0 d1
      have hk6 : (0 : Int) ≤ (k : Int) := by omega
      have hk7 : (k : Int) < (la : Int) := by omega
      clear hts hus hc hd
      by_cases he : t = u
      · have HS : Hid (∀ i, i < k + 1 → ts[i]? = us[i]?) := Lib.hid (fun i hi => by
          rcases Nat.lt_or_ge i k with g | g
          · exact hs.out i g
          · obtain rfl : i = k := by omega
            rw [ht, hu, he])
        subst he
        have EQ := FilE.same t.1 t.2
        clear ht hu hs
        go_wp2_with fail
        go_quiet (fail)
        have B : Below w.heap.size w (wr.drewN nq) := below_drewN hnx nq
        clear hnx c0 c1 d0 d1 EQ
        generalize wr.drewN nq = wd at B ⊢
        go_wp2_with fail
        go_roundw
        case rel => exact ⟨k + 1, by omega, by go_num, HS, B⟩
        case measure => simp [intOf]; omega
      · have HR : Hid (decide (ts = us) = false) := Lib.hid (decide_eq_false (fun e => he (by rw [e, hu] at ht; exact (Option.some.inj ht).symm)))
        have EQ := FilE.diff he
        clear ht hu hs he
        go_wp2_with fail
        go_quiet (fail)
        have B : Below w.heap.size w (wr.drewN nq) := below_drewN hnx nq
        clear hnx c0 c1 d0 d1 EQ
        generalize wr.drewN nq = wd at B ⊢
        go_wp2_with fail
        go_ret
        exact ⟨by rw [HR.out]; rfl, B⟩
    · obtain rfl : k = la := by omega
      have HR : Hid (decide (ts = us) = true) := Lib.hid (decide_eq_true (List.ext_getElem? fun i => by
        rcases Nat.lt_or_ge i k with g | g
        · exact hs.out i g
        · rw [List.getElem?_eq_none (by rw [HT.out]; exact g), List.getElem?_eq_none (by rw [HU.out]; exact g)]))
      clear hs
      go_wp2_with fail
      go_ret
      exact ⟨by rw [HR.out]; rfl, hnx⟩

end Go.Proofs.Ytamnlifdfhmbnaa
