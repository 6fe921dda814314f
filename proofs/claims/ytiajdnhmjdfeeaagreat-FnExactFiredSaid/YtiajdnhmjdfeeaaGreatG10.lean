/- The exact laws' steps at slices of triples, told by where things lie. -/
import Derived.Test.YtiajdnhmjdfeeaaGreatG08
import Derived.Test.YtiajdnhmjdfeeaaGreatG09
import Derived.Test.YtiajdnhmjdfeeaaGreatG03
import Derived.Test.YtiajdnhmjdfeeaaGreatG02
import Derived.Deep.RegionHeld3
namespace Go.Proofs.YtiajdnhmjdfeeaaGreat
open Go.RowKit Go.WideShapes
def SmAll (ts : List Tri3) : Prop := ∀ t ∈ ts, t.1.size ≤ maxLen ∧ t.2.1.size ≤ maxLen ∧ t.2.2.size ≤ maxLen
theorem smAll_marks (k0 n : Nat) (hn : n ≤ 1048576) (hk : k0 ≤ 40000000) : SmAll (marksK k0 n) := marksK_small k0 n hn hk
theorem Cells.two {g : Nat} {x y : Value} {T : TypeId} {w : World} (h : Cells g #[x, y] T w) : w.cell? ⟨g, 0, none⟩ = some x ∧ w.cell? ⟨g, 1, none⟩ = some y := ⟨h.at 0, h.at 1⟩
theorem tris_most {w : World} {a : Option Addr} {len cap : Nat} {ts : List Tri3} (h : IsTris w a len cap ts) : len ≤ 9223372036854775807 := by
  rcases h with ⟨_, rfl, _, _⟩ | ⟨_, _, h1, h2, _⟩
  · omega
  · unfold maxLen at h2; omega
theorem OwnC.read {B C : Nat} {w : World} {a : Option Addr} {n c : Nat} {ts : List Tri3} (h : OwnC B C (.slice a n c) ts w) (hm : SmAll ts) (hl : ts.length = n) : IsTris w a n c ts := by
  subst hl
  obtain ⟨x, y, e, i⟩ := h.1.is hm
  simp only [Value.slice.injEq, true_and] at e
  obtain ⟨rfl, rfl⟩ := e
  exact i
theorem ownC_shape {w w' : World} {v : Value} {ts : List Tri3} {n : Nat} (h : OwnT w.heap.size w' v ts) (hb : Below w.heap.size w w') (hl : ts.length = n) : ∃ a c, v = .slice a n c ∧ Holds w.heap.size w'.heap.size w' (OwnC w.heap.size w'.heap.size (.slice a n c) ts) := by
  have H := ownC_new h hb
  subst hl
  rcases h.2 with ⟨rfl, e⟩ | ⟨g, c, cur, rfl, _⟩
  · exact ⟨none, 0, by rw [e], by rw [e]; exact H⟩
  · exact ⟨_, _, rfl, H⟩
theorem exTo (a : Option Addr) (n c : Nat) (ts : List Tri3) (w : World) (h : IsTris w a n c ts) (hs : n ≤ 1048576) (hl : ts.length = n) :
    Calls Tryz.prog 11 #[.slice a n c] w fun e w' => ∃ a' c', e = .returned (.slice a' n c') ∧ Holds w.heap.size w'.heap.size w' (OwnC w.heap.size w'.heap.size (.slice a' n c') ts) ∧ Below w.heap.size w w' :=
  (toTriS a n c ts w h hs).mono fun e w' ⟨v, he, ho, hb⟩ => by
    obtain ⟨a', c', rfl, H⟩ := ownC_shape ho hb hl
    exact ⟨a', c', he, H, hb⟩
theorem exMark {B C : Nat} {a : Option Addr} {n c : Nat} {ts : List Tri3} {w : World} (h : Holds B C w (OwnC B C (.slice a n c) ts)) (hs : n ≤ 1048576) (hl : ts.length = n) (k0 : Nat) (hk0 : 0 < k0) (hk1 : k0 ≤ 40000000) :
    Calls Tryz.prog 17 #[.slice a n c, .int .i64 k0] w fun e w' => e = .returned (.int .i64 ((k0 + 3 * n : Nat) : Int)) ∧ Holds B C w' (OwnC B C (.slice a n c) (marksK k0 n)) ∧ Turn B C w w' := by
  subst hl
  refine (markTriK B _ ts w h.now.1 hs k0 hk0 hk1).mono fun e w' ⟨he, ho, hg⟩ => ⟨he, ⟨ownC_lives, Nat.le_trans h.le hg.size, ho, h.now.2⟩, h.now.turn hg⟩
theorem exHeld {B C : Nat} {a : Option Addr} {n c : Nat} {w : World} {k0 : Nat} (h : Holds B C w (OwnC B C (.slice a n c) (marksK k0 n))) (hs : n ≤ 1048576) (hk0 : 0 < k0) (hk1 : k0 ≤ 1000000) :
    Calls Tryz.prog 38 #[.slice a n c, .int .i64 k0] w fun e w' => e = .returned (.int .i64 ((k0 + 3 * n : Nat) : Int)) ∧ Below w.heap.size w w' :=
  heldTriK a n c w k0 (h.now.read (smAll_marks _ _ hs (by omega)) (marksK_len _ _)) hs hk0 (by omega)
end Go.Proofs.YtiajdnhmjdfeeaaGreat
/- The contracts of the exact laws' own helpers on pairs. -/
namespace Go.Proofs.YtiajdnhmjdfeeaaGreat
open Go.RowKit Go.WideShapes
def szP (s p : Nat) (left : Int) : Int := if left - s < 0 then -1 else if left - s - p < 0 then -1 else left - s - p
theorem szP_yes {s p : Nat} {left : Int} (h : (s : Int) + p ≤ left) : szP s p left = left - s - p := by
  unfold szP; rw [if_neg (by omega), if_neg (by omega)]
theorem szP_no {s p : Nat} {left : Int} (h : ¬ (s : Int) + p ≤ left) : szP s p left = -1 := by
  unfold szP; split; · rfl
  rw [if_pos (by omega)]
theorem eqPair (s p : ByteArray) (w : World) :
    Calls Tryz.prog 108 #[.agg #[.string s, .string p], .agg #[.string s, .string p]] w fun e w' => e = .returned (.bool true) ∧ Below w.heap.size w w' := by
  go_enter Tryz.func108, Tryz.ntmps108
  go_wp2
  go_ret
  exact ⟨rfl, ((Below.refl _ _).alloc (Nat.le_refl _) _).alloc (by simp) _⟩
/-- What a size that is not below 0 says of the pairs. -/
def SmallP (len : Nat) (ts : List Pre2) : Prop := len ≤ 1048576 ∧ ∀ t ∈ ts, t.1.size + t.2.size ≤ 1048576
def SzPostP (left : Int) (len : Nat) (ts : List Pre2) (w : World) (e : Ending) (w' : World) : Prop :=
  ∃ n : Int, e = .returned (.int .i64 n) ∧ (n = -1 ∨ (0 ≤ n ∧ n + len ≤ left ∧ SmallP len ts)) ∧ Below w.heap.size w w'
end Go.Proofs.YtiajdnhmjdfeeaaGreat
/- The contract of the exact laws' own copy of a slice of pairs, and their comparison of two. -/
namespace Go.Proofs.YtiajdnhmjdfeeaaGreat
open Go.RowKit Go.WideShapes
def flatP (ts : List Pre2) : List Value := ts.flatMap fun t => [.string t.1, .string t.2]
theorem flatP_snoc (ts : List Pre2) (t : Pre2) : flatP (ts ++ [t]) = flatP ts ++ [.string t.1, .string t.2] := by simp [flatP]
theorem flatP_len (ts : List Pre2) : (flatP ts).length = ts.length * 2 := by
  induction ts with
  | nil => rfl
  | cons t r ih => simp only [flatP, List.flatMap_cons, List.length_append, List.length_cons, List.length_nil] at *; omega
theorem flatP_at (ts : List Pre2) : ∀ (i : Nat) (t : Pre2), ts[i]? = some t → (flatP ts)[i * 2]? = some (.string t.1) ∧ (flatP ts)[i * 2 + 1]? = some (.string t.2) := by
  induction ts with
  | nil => intro i t h; simp at h
  | cons u r ih =>
    intro i t h
    have e : flatP (u :: r) = .string u.1 :: .string u.2 :: flatP r := by simp [flatP]
    rw [e]
    cases i with
    | zero => simp at h; subst h; exact ⟨rfl, rfl⟩
    | succ n =>
      have := ih n t (by simpa using h)
      rw [show (n + 1) * 2 = n * 2 + 2 from by omega]
      exact this
theorem set2 {xs l : List Value} {k : Nat} (a b : Value) (h : xs.take (k * 2) = l) (hl : k * 2 + 1 < xs.length) :
    ((xs.set (k * 2) a).set (k * 2 + 1) b).take ((k + 1) * 2) = l ++ [a, b] := by
  subst h
  apply List.ext_getElem?
  intro i
  have hlen : (xs.take (k * 2)).length = k * 2 := by rw [List.length_take]; omega
  rw [List.getElem?_take]
  rcases Nat.lt_or_ge i (k * 2) with g | g
  · rw [if_pos (by omega), List.getElem?_append_left (by omega), List.getElem?_take, if_pos g, List.getElem?_set_ne (by omega), List.getElem?_set_ne (by omega)]
  · rw [List.getElem?_append_right (by omega), hlen]
    obtain rfl | rfl | g3 : i = k * 2 ∨ i = k * 2 + 1 ∨ k * 2 + 2 ≤ i := by omega
    · rw [if_pos (by omega), List.getElem?_set_ne (by omega), List.getElem?_set_self (by omega)]; simp
    · rw [if_pos (by omega), List.getElem?_set_self (by simp; omega)]
      rw [show k * 2 + 1 - k * 2 = 1 from by omega]; rfl
    · rw [if_neg (by omega), List.getElem?_eq_none (by simp; omega)]
theorem infoPair : (Tryz.prog.info? 55).map (fun i => (i.zero, i.size, i.bytes)) = some (some (.agg #[.string ⟨#[]⟩, .string ⟨#[]⟩]), 2, 32) := by kernel_rfl
/-- The call owns a slice of these pairs. -/
def OwnP (B : Nat) (w : World) (v : Value) (ts : List Pre2) : Prop := w.ownsRow B 55 2 v ts.length (flatP ts)
def CopyPostP (ts : List Pre2) (w : World) (e : Ending) (w' : World) : Prop := ∃ v, e = .returned v ∧ OwnP w.heap.size w' v ts ∧ Below w.heap.size w w'
/-- What the call owns can be read. -/
theorem OwnP.is {B : Nat} {w : World} {v : Value} {ts : List Pre2} (h : OwnP B w v ts) (hm : ∀ t ∈ ts, t.1.size ≤ maxLen ∧ t.2.size ≤ maxLen) : ∃ a cap, v = .slice a ts.length cap ∧ IsPres w a ts.length cap ts := by
  have h0 := h
  obtain ⟨_, hc⟩ := h
  rcases hc with ⟨rfl, hl⟩ | ⟨g, cap, cur, rfl, _, _, h1, h2, _⟩
  · exact ⟨none, 0, by rw [hl], .inl ⟨rfl, hl, rfl, List.length_eq_zero_iff.1 hl⟩⟩
  · refine ⟨_, cap, rfl, .inr ⟨_, rfl, h1, h2, rfl, fun i t hi => ?_⟩⟩
    obtain ⟨f0, f1⟩ := flatP_at ts i t hi
    have hl : i < ts.length := (List.getElem?_eq_some_iff.1 hi).1
    obtain ⟨m0, m1⟩ := hm t (List.mem_of_getElem? hi)
    have k0 := h0.cellAt (i * 2) (by omega)
    have k1 := h0.cellAt (i * 2 + 1) (by omega)
    rw [Nat.mul_comm i 2] at k0 k1
    rw [Nat.mul_comm i 2] at f0 f1
    refine ⟨?_, ?_, m0, m1⟩
    · rw [add_plain, Nat.zero_add]; exact k0.trans f0
    · rw [add_plain, Nat.zero_add]; exact k1.trans f1
theorem IsPres.small {w : World} {a : Option Addr} {len cap : Nat} {ts : List Pre2} (h : IsPres w a len cap ts) : ∀ t ∈ ts, t.1.size ≤ maxLen ∧ t.2.size ≤ maxLen := by
  intro t ht
  rcases h with ⟨_, _, _, rfl⟩ | ⟨x, rfl, h1, h2, h3, h4⟩
  · simp at ht
  · obtain ⟨i, hi⟩ := List.mem_iff_getElem?.1 ht
    obtain ⟨_, _, w0, w1⟩ := h4 i t hi
    exact ⟨w0, w1⟩
theorem IsPres.next {w w' : World} {a : Option Addr} {len cap : Nat} {ts : List Pre2} (h : IsPres w a len cap ts) (hb : Below w.heap.size w w') : IsPres w' a len cap ts := h.grown (grown_of_below hb)
set_option maxRecDepth 100000 in
set_option maxHeartbeats 1600000 in
theorem eqPairS (a b : Option Addr) (la ca lb cb : Nat) (ts : List Pre2) (w : World) (ha : IsPres w a la ca ts) (hb : IsPres w b lb cb ts) (hs : la ≤ 1048576) :
    Calls Tryz.prog 55 #[.slice a la ca, .slice b lb cb] w fun e w' => e = .returned (.bool true) ∧ Below w.heap.size w w' := by
  have hlb : lb = la := by rw [← ha.len, ← hb.len]
  subst hlb
  have HA := Lib.hid ha
  have HB := Lib.hid hb
  have HT := Lib.hid ha.len
  clear ha hb
  go_enter Tryz.func55, Tryz.ntmps55
  go_wp2_with fail
  go_loopw [5] (fun i wr => ∃ k : Nat, k ≤ lb ∧ i = .int .i64 k ∧ Below w.heap.size w wr) (fun i _ => lb - (intOf i).toNat)
  case atStart => exact ⟨0, Nat.zero_le _, rfl, Below.refl _ _⟩
  case round =>
    obtain ⟨k, hk, rfl, hnx⟩ := hrel
    by_cases hlt : k < lb
    · obtain ⟨x, off, rfl, hx, _, _, hts, hc⟩ := HA.out.cells (by omega)
      obtain ⟨y, off', rfl, hy, _, _, _, hd⟩ := HB.out.cells (by omega)
      have ht : ts[k]? = some ts[k] := List.getElem?_eq_getElem (by omega)
      obtain ⟨c0, c1, m0, m1⟩ := hc k _ ht
      obtain ⟨d0, d1, n0, n1⟩ := hd k _ ht
      clear m0 m1 n0 n1
      rw [← hnx.cell (p := ⟨x, _, none⟩) hx] at c0 c1
      rw [← hnx.cell (p := ⟨y, _, none⟩) hy] at d0 d1
      generalize ts[k] = t at c0 c1 d0 d1
      clear ht hts hc hd
      have E := Lib.hid (eqPair t.1 t.2)
      go_wp2_with fail
      have l1 : x < wr.heap.size := Nat.lt_of_lt_of_le hx hnx.size
      have l2 : y < wr.heap.size := Nat.lt_of_lt_of_le hy hnx.size
      go_region_held3 (fun w' => w'.cell? ⟨x, off + k * 2, none⟩ = some (.string t.1) ∧ w'.cell? ⟨x, off + k * 2 + 1, none⟩ = some (.string t.2) ∧ w'.cell? ⟨y, off' + k * 2, none⟩ = some (.string t.1) ∧ w'.cell? ⟨y, off' + k * 2 + 1, none⟩ = some (.string t.2))
        (first | go_keep | (go_split_ands; refine ⟨?_, ?_, ?_, ?_⟩ <;> (rw [ha4.cell (by first | (simp; done) | exact World.block_lt_of_cell? _ _ (by assumption))]; assumption)))
        (first | (go_at_call 108; refine (E.out _).mono ?_; rintro e wa ⟨rfl, ha4⟩))
      have B : Below w.heap.size w wa := (Below.drew hnx).trans (ha4.mono hnx.size)
      clear ha4 hnx c0 c1 d0 d1
      go_wp2_with fail
      go_roundw
      case rel => exact ⟨k + 1, by omega, by go_num, B⟩
      case measure => simp [intOf]; omega
    · go_wp2_with fail
      go_ret
      exact ⟨rfl, hnx⟩
end Go.Proofs.YtiajdnhmjdfeeaaGreat
