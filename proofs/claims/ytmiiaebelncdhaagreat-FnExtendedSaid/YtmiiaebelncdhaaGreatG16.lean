/- Rows merged: plain facts on lists of pairs. -/
import Derived.Test.YtmiiaebelncdhaaGreatG13
import Derived.Test.YtmiiaebelncdhaaGreatG03
import Derived.Test.YtmiiaebelncdhaaGreatG02
import Derived.Deep.RegionHeld3
namespace Go.Proofs.YtmiiaebelncdhaaGreat
open Go.RowKit
/-- How many names are less than x, from the front on. -/
def posP (x : ByteArray) : List Pre2 → Nat
  | [] => 0
  | u :: r => if Op.bytesLess u.1.data.toList x.data.toList = true then posP x r + 1 else 0
theorem posP_le (x : ByteArray) : ∀ g : List Pre2, posP x g ≤ g.length
  | [] => Nat.le_refl _
  | u :: r => by unfold posP; have := posP_le x r; split <;> simp <;> omega
theorem posP_ahead {x : ByteArray} {u : Pre2} : ∀ {g : List Pre2} {i : Nat}, i < posP x g → g[i]? = some u → Op.bytesLess u.1.data.toList x.data.toList = true
  | [], i, h, _ => by simp [posP] at h
  | v :: r, i, h, hu => by
    unfold posP at h
    split at h
    · rename_i hv
      cases i with
      | zero => simp at hu; rw [← hu]; exact hv
      | succ i => exact posP_ahead (g := r) (i := i) (by omega) (by simpa using hu)
    · omega
theorem posP_stop {x : ByteArray} {u : Pre2} : ∀ {g : List Pre2}, g[posP x g]? = some u → Op.bytesLess u.1.data.toList x.data.toList = false
  | [], h => by simp at h
  | v :: r, h => by
    unfold posP at h
    split at h
    · exact posP_stop (g := r) (by simpa using h)
    · rename_i hv
      simp at h
      rw [← h]; simpa using hv
theorem posP_is {x : ByteArray} {g : List Pre2} {k : Nat} (h1 : ∀ (i : Nat) (u : Pre2), i < k → g[i]? = some u → Op.bytesLess u.1.data.toList x.data.toList = true) (hk : k ≤ g.length) (h2 : ∀ u, g[k]? = some u → Op.bytesLess u.1.data.toList x.data.toList = false) : posP x g = k := by
  rcases Nat.lt_trichotomy (posP x g) k with hh | hh | hh
  · have e : g[posP x g]? = some g[posP x g] := List.getElem?_eq_getElem (by omega)
    have := h1 _ _ hh e
    rw [posP_stop e] at this
    cases this
  · exact hh
  · have hl := posP_le x g
    have e : g[k]? = some g[k] := List.getElem?_eq_getElem (by omega)
    have := h2 _ e
    rw [posP_ahead hh e] at this
    cases this
/-- A row with one more; none: it has another one there. -/
def putP (g : List Pre2) (p : Pre2) : Option (List Pre2) :=
  match g[posP p.1 g]? with
  | some q => if q.1 = p.1 then (if q.2 = p.2 then some g else none) else some ((g.take (posP p.1 g) ++ [p]) ++ g.drop (posP p.1 g))
  | none => some ((g.take (posP p.1 g) ++ [p]) ++ g.drop (posP p.1 g))
theorem putP_same {g : List Pre2} {p q : Pre2} {k : Nat} (h : posP p.1 g = k) (hq : g[k]? = some q) (h1 : q.1 = p.1) (h2 : q.2 = p.2) : putP g p = some g := by
  unfold putP; rw [h, hq]; simp [h1, h2]
theorem putP_other {g : List Pre2} {p q : Pre2} {k : Nat} (h : posP p.1 g = k) (hq : g[k]? = some q) (h1 : q.1 = p.1) (h2 : q.2 ≠ p.2) : putP g p = none := by
  unfold putP; rw [h, hq]; simp [h1, h2]
theorem putP_new {g : List Pre2} {p : Pre2} {k : Nat} (h : posP p.1 g = k) (hn : ∀ q, g[k]? = some q → q.1 ≠ p.1) : putP g p = some ((g.take k ++ [p]) ++ g.drop k) := by
  unfold putP; rw [h]
  cases hq : g[k]? with
  | none => rfl
  | some q => simp [hn q hq]
theorem putP_len {g h : List Pre2} {p : Pre2} (e : putP g p = some h) : h.length ≤ g.length + 1 := by
  have hl := posP_le p.1 g
  unfold putP at e
  split at e
  · split at e
    · split at e
      · cases e; omega
      · cases e
    · cases e; simp only [List.length_append, List.length_take, List.length_cons, List.length_nil, List.length_drop]; omega
  · cases e; simp only [List.length_append, List.length_take, List.length_cons, List.length_nil, List.length_drop]; omega
theorem putP_mem {g h : List Pre2} {p u : Pre2} (e : putP g p = some h) (hu : u ∈ h) : u = p ∨ u ∈ g := by
  have hs : ∀ u, u ∈ (g.take (posP p.1 g) ++ [p]) ++ g.drop (posP p.1 g) → u = p ∨ u ∈ g := by
    intro u hu
    rw [List.mem_append, List.mem_append, List.mem_singleton] at hu
    rcases hu with (hu | hu) | hu
    · exact .inr (List.mem_of_mem_take hu)
    · exact .inl hu
    · exact .inr (List.mem_of_mem_drop hu)
  unfold putP at e
  split at e
  · split at e
    · split at e
      · cases e; exact .inr hu
      · cases e
    · cases e; exact hs u hu
  · cases e; exact hs u hu
def LtP (t u : Pre2) : Prop := Op.bytesLess t.1.data.toList u.1.data.toList = true
def AscP (ts : List Pre2) : Prop := ts.Pairwise LtP
theorem lessP_is (t u : Pre2) : lessP t u = Op.bytesLess t.1.data.toList u.1.data.toList := by unfold lessP; rw [ByteArray.toList_eq, ByteArray.toList_eq]
theorem asc_iff {ts : List Pre2} : Asc ts ↔ AscP ts := by
  unfold Asc AscP LtP
  rw [List.pairwise_iff_getElem]
  constructor
  · intro h i j hi hj hij
    rw [← lessP_is]
    exact h i j _ _ hij (List.getElem?_eq_getElem hi) (List.getElem?_eq_getElem hj)
  · intro h i j t u hij ht hu
    obtain ⟨hi, rfl⟩ := List.getElem?_eq_some_iff.1 ht
    obtain ⟨hj, rfl⟩ := List.getElem?_eq_some_iff.1 hu
    rw [lessP_is]
    exact h i j hi hj hij
theorem putP_asc {g h : List Pre2} {p : Pre2} (ha : Asc g) (e : putP g p = some h) : Asc h := by
  rw [asc_iff] at ha ⊢
  have hl := posP_le p.1 g
  have key : (∀ q, g[posP p.1 g]? = some q → q.1 ≠ p.1) → AscP ((g.take (posP p.1 g) ++ [p]) ++ g.drop (posP p.1 g)) := by
    intro hn
    have hsplit : AscP (g.take (posP p.1 g) ++ g.drop (posP p.1 g)) := by rw [List.take_append_drop]; exact ha
    obtain ⟨p1, p2, p3⟩ := List.pairwise_append.1 hsplit
    have q1 : ∀ u ∈ g.take (posP p.1 g), LtP u p := by
      intro u hu
      obtain ⟨i, hi⟩ := List.mem_iff_getElem?.1 hu
      have hil := (List.getElem?_eq_some_iff.1 hi).1
      rw [List.length_take] at hil
      rw [List.getElem?_take_of_lt (by omega)] at hi
      exact posP_ahead (by omega) hi
    have q2 : ∀ u ∈ g.drop (posP p.1 g), LtP p u := by
      intro u hu
      rcases Nat.lt_or_ge (posP p.1 g) g.length with hh | hh
      · have e : g[posP p.1 g]? = some g[posP p.1 g] := List.getElem?_eq_getElem hh
        have hv : LtP p g[posP p.1 g] := by
          have h1 := posP_stop e
          have h2 := hn _ e
          unfold LtP
          rcases cmp_cases p.1.data.toList g[posP p.1 g].1.data.toList with ⟨_, h'⟩ | ⟨_, h'⟩ | ⟨_, h'⟩
          · exact h'
          · exact absurd (data_inj h').symm h2
          · rw [h1] at h'; cases h'
        rw [List.drop_eq_getElem_cons hh] at hu p2
        rcases List.mem_cons.1 hu with rfl | hu
        · exact hv
        · exact ltb_trans _ _ _ hv ((List.pairwise_cons.1 p2).1 u hu)
      · rw [List.drop_eq_nil_of_le hh] at hu
        simp at hu
    rw [List.append_assoc]
    refine List.pairwise_append.2 ⟨p1, List.pairwise_cons.2 ⟨q2, p2⟩, fun a ha b hb => ?_⟩
    rcases List.mem_cons.1 hb with rfl | hb
    · exact q1 a ha
    · exact p3 a ha b hb
  unfold putP at e
  split at e
  · rename_i q hq
    split at e
    · split at e
      · cases e; exact ha
      · cases e
    · rename_i hne
      cases e; exact key (fun q' hq' => by rw [hq] at hq'; cases hq'; exact hne)
  · rename_i hq
    cases e; exact key (fun q' hq' => by rw [hq] at hq'; cases hq')
/-- All pairs of b, put into a one by one. -/
def putAllP : List Pre2 → List Pre2 → Option (List Pre2)
  | a, [] => some a
  | a, p :: r => match putP a p with
    | some h => putAllP h r
    | none => none
theorem putAllP_snoc : ∀ (b a : List Pre2) (p : Pre2), putAllP a (b ++ [p]) = (putAllP a b).bind (fun h => putP h p)
  | [], a, p => by
    show putAllP a [p] = _
    unfold putAllP
    cases h : putP a p <;> simp [putAllP, h]
  | q :: r, a, p => by
    show putAllP a (q :: (r ++ [p])) = _
    unfold putAllP
    cases h : putP a q with
    | none => rfl
    | some h' => exact putAllP_snoc r h' p
theorem putAllP_none : ∀ (b c a : List Pre2), putAllP a b = none → putAllP a (b ++ c) = none
  | [], c, a, h => by simp [putAllP] at h
  | q :: r, c, a, h => by
    show putAllP a (q :: (r ++ c)) = _
    unfold putAllP at h ⊢
    cases hp : putP a q with
    | none => rfl
    | some h' => rw [hp] at h; exact putAllP_none r c h' h
theorem putAllP_len : ∀ {b a h : List Pre2}, putAllP a b = some h → h.length ≤ a.length + b.length
  | [], a, h, e => by simp [putAllP] at e; subst e; simp
  | q :: r, a, h, e => by
    unfold putAllP at e
    cases hp : putP a q with
    | none => rw [hp] at e; cases e
    | some h' =>
      rw [hp] at e
      have h1 := putAllP_len e
      have h2 := putP_len hp
      rw [List.length_cons]; omega
theorem putAllP_asc : ∀ {b a h : List Pre2}, Asc a → putAllP a b = some h → Asc h
  | [], a, h, ha, e => by simp [putAllP] at e; subst e; exact ha
  | q :: r, a, h, ha, e => by
    unfold putAllP at e
    cases hp : putP a q with
    | none => rw [hp] at e; cases e
    | some h' => rw [hp] at e; exact putAllP_asc (putP_asc ha hp) e
theorem putAllP_mem {u : Pre2} : ∀ {b a h : List Pre2}, putAllP a b = some h → u ∈ h → u ∈ a ∨ u ∈ b
  | [], a, h, e, hu => by simp [putAllP] at e; subst e; exact .inl hu
  | q :: r, a, h, e, hu => by
    unfold putAllP at e
    cases hp : putP a q with
    | none => rw [hp] at e; cases e
    | some h' =>
      rw [hp] at e
      rcases putAllP_mem e hu with h1 | h1
      · rcases putP_mem hp h1 with rfl | h1
        · exact .inr (List.mem_cons_self ..)
        · exact .inl h1
      · exact .inr (List.mem_cons_of_mem _ h1)
def mergedP (a b : List Pre2) : Option (List Pre2) := if rowOk a = true ∧ rowOk b = true then (match putAllP a b with
  | some h => if rowOk h = true then some h else none
  | none => none) else none
end Go.Proofs.YtmiiaebelncdhaaGreat
/- The contracts of the exact laws' own helpers on pairs. -/
namespace Go.Proofs.YtmiiaebelncdhaaGreat
open Go.RowKit Go.WideShapes
def szP (s p : Nat) (left : Int) : Int := if left - s < 0 then -1 else if left - s - p < 0 then -1 else left - s - p
theorem szP_yes {s p : Nat} {left : Int} (h : (s : Int) + p ≤ left) : szP s p left = left - s - p := by
  unfold szP; rw [if_neg (by omega), if_neg (by omega)]
theorem szP_no {s p : Nat} {left : Int} (h : ¬ (s : Int) + p ≤ left) : szP s p left = -1 := by
  unfold szP; split; · rfl
  rw [if_pos (by omega)]
theorem toPair (s p : ByteArray) (w : World) :
    Calls Tryz.prog 119 #[.agg #[.string s, .string p]] w fun e w' => e = .returned (.agg #[.string s, .string p]) ∧ Below w.heap.size w w' := by
  go_enter Tryz.func119, Tryz.ntmps119
  go_wp2
  refine bodyPost_ret (v := .agg #[.string s, .string p]) (by simp [results, Tryz.results119, go_sem]) rfl ⟨rfl, (((Below.refl _ _).alloc (Nat.le_refl _) _).alloc (by simp) _).alloc (by simp; omega) _⟩
theorem szPair (s p : ByteArray) (left : Int) (h0 : 0 ≤ left) (h1 : left ≤ 1048576) (hs : s.size ≤ 9223372036854775807) (hp : p.size ≤ 9223372036854775807) (w : World) :
    Calls Tryz.prog 118 #[.agg #[.string s, .string p], .int .i64 left] w fun e w' => e = .returned (.int .i64 (szP s.size p.size left)) ∧ Below w.heap.size w w' := by
  unfold szP
  by_cases g1 : left - s.size < 0
  · rw [if_pos g1]
    go_enter Tryz.func118, Tryz.ntmps118
    go_wp2
    go_ret
    exact ⟨rfl, (Below.refl _ _).alloc (Nat.le_refl _) _⟩
  rw [if_neg g1]
  by_cases g2 : left - s.size - p.size < 0
  · rw [if_pos g2]
    go_enter Tryz.func118, Tryz.ntmps118
    go_wp2
    go_ret
    exact ⟨rfl, (Below.refl _ _).alloc (Nat.le_refl _) _⟩
  · rw [if_neg g2]
    go_enter Tryz.func118, Tryz.ntmps118
    go_wp2
    go_ret
    exact ⟨rfl, (Below.refl _ _).alloc (Nat.le_refl _) _⟩
theorem eqPair (s p : ByteArray) (w : World) :
    Calls Tryz.prog 120 #[.agg #[.string s, .string p], .agg #[.string s, .string p]] w fun e w' => e = .returned (.bool true) ∧ Below w.heap.size w w' := by
  go_enter Tryz.func120, Tryz.ntmps120
  go_wp2
  go_ret
  exact ⟨rfl, ((Below.refl _ _).alloc (Nat.le_refl _) _).alloc (by simp) _⟩
/-- What a size that is not below 0 says of the pairs. -/
def SmallP (len : Nat) (ts : List Pre2) : Prop := len ≤ 1048576 ∧ ∀ t ∈ ts, t.1.size + t.2.size ≤ 1048576
def SzPostP (left : Int) (len : Nat) (ts : List Pre2) (w : World) (e : Ending) (w' : World) : Prop :=
  ∃ n : Int, e = .returned (.int .i64 n) ∧ (n = -1 ∨ (0 ≤ n ∧ n + len ≤ left ∧ SmallP len ts)) ∧ Below w.heap.size w w'
set_option maxRecDepth 100000 in
set_option maxHeartbeats 1600000 in
theorem szPairS (a : Option Addr) (len cap : Nat) (ts : List Pre2) (w : World) (h : IsPres w a len cap ts) (left : Int) (h0 : 0 ≤ left) (h1 : left ≤ 1048576) (hlen : len ≤ 9223372036854775807) :
    Calls Tryz.prog 83 #[.slice a len cap, .int .i64 left] w (SzPostP left len ts w) := by
  by_cases g : left - len < 0
  · clear h
    go_enter Tryz.func83, Tryz.ntmps83
    go_wp2_with fail
    go_ret
    exact ⟨-1, rfl, .inl rfl, Below.refl _ _⟩
  by_cases hz : len = 0
  · subst hz
    obtain rfl : ts = [] := List.length_eq_zero_iff.1 h.len
    clear h g
    go_enter Tryz.func83, Tryz.ntmps83
    go_wp2_with fail
    refine wp_loop_rounds 1 ?_
    rw [rounds_succ]
    go_wp2_with fail
    go_ret
    exact ⟨left, by simp, .inr ⟨h0, by omega, by omega, by simp⟩, Below.refl _ _⟩
  · obtain ⟨b, off, rfl, hb, hl, hm, hts, hc⟩ := h.cells (by omega)
    unfold maxLen at hm hc
    have HC := Lib.hid hc
    have HT := Lib.hid hts
    clear hc h
    go_enter Tryz.func83, Tryz.ntmps83
    go_wp2_with fail
    go_loopw [1, 5] (fun l i wr => ∃ k : Nat, k ≤ len ∧ i = .int .i64 k ∧ (∃ q : Int, 0 ≤ q ∧ q + len ≤ left ∧ l = .int .i64 q) ∧ Hid (∀ t ∈ ts.take k, t.1.size + t.2.size ≤ 1048576) ∧ Below w.heap.size w wr) (fun _ i _ => len - (intOf i).toNat)
    case atStart => exact ⟨0, Nat.zero_le _, rfl, ⟨_, by omega, by omega, rfl⟩, Lib.hid (by simp), Below.refl _ _⟩
    case round =>
      obtain ⟨k, hk, rfl, ⟨q, hq0, hq1, rfl⟩, hsm, hnx⟩ := hrel
      by_cases hlt : k < len
      · have ht : ts[k]? = some ts[k] := List.getElem?_eq_getElem (by omega)
        have HS : Hid (ts.take (k + 1) = ts.take k ++ [ts[k]]) := Lib.hid (List.take_succ_eq_append_getElem (by omega))
        obtain ⟨c0, c1, w0, w1⟩ := HC.out k _ ht
        rw [← hnx.cell (p := ⟨b, _, none⟩) hb] at c0 c1
        generalize ts[k] = t at c0 c1 w0 w1 HS
        clear ht
        have SZ := szPair t.1 t.2 q hq0 (by omega) w0 w1
        by_cases hs : (t.1.size : Int) + t.2.size ≤ q
        · rw [szP_yes hs] at SZ
          have D := Lib.hid SZ
          have HN : Hid (∀ t ∈ ts.take (k + 1), t.1.size + t.2.size ≤ 1048576) := Lib.hid (by
            rw [HS.out]
            intro u hu
            rcases List.mem_append.1 hu with hu | hu
            · exact hsm.out u hu
            · obtain rfl : u = t := by simpa using hu
              omega)
          have hn0 : ¬ q - t.1.size - t.2.size < 0 := by omega
          clear SZ
          go_wp2_with fail
          refine (D.out _).mono ?_
          rintro e wn ⟨rfl, hbn⟩
          have B := hnx.trans (hbn.mono hnx.size)
          clear hbn hnx c0 c1
          go_wp2_with fail
          go_roundw
          case rel => exact ⟨k + 1, by omega, by go_num, ⟨_, by omega, by omega, rfl⟩, HN, B⟩
          case measure => simp [intOf]; omega
        · rw [szP_no hs] at SZ
          have D := Lib.hid SZ
          clear SZ
          go_wp2_with fail
          refine (D.out _).mono ?_
          rintro e wn ⟨rfl, hbn⟩
          have B := hnx.trans (hbn.mono hnx.size)
          clear hbn hnx c0 c1
          go_wp2_with fail
          go_ret
          exact ⟨-1, rfl, .inl rfl, B⟩
      · go_wp2_with fail
        go_ret
        exact ⟨q, rfl, .inr ⟨hq0, hq1, by omega, by have := hsm.out; rwa [List.take_of_length_le (by rw [HT.out]; omega)] at this⟩, hnx⟩
end Go.Proofs.YtmiiaebelncdhaaGreat
/- The contract of the exact laws' own copy of a slice of pairs, and their comparison of two. -/
namespace Go.Proofs.YtmiiaebelncdhaaGreat
open Go.RowKit Go.WideShapes
def flatP (ts : List Pre2) : List Value := ts.flatMap fun t => [.string t.1, .string t.2]
theorem flatP_snoc (ts : List Pre2) (t : Pre2) : flatP (ts ++ [t]) = flatP ts ++ [.string t.1, .string t.2] := by simp [flatP]
theorem flatP_len (ts : List Pre2) : (flatP ts).length = ts.length * 2 := by
  induction ts with
  | nil => rfl
  | cons t r ih => simp only [flatP, List.flatMap_cons, List.length_append, List.length_cons, List.length_nil] at *; omega
theorem flatP_at (ts : List Pre2) : ∀ (i : Nat) (t : Pre2), ts[i]? = some t → (flatP ts)[i * 2]? = some (.string t.1) ∧ (flatP ts)[i * 2 + 1]? = some (.string t.2) := by
  induction ts with
  | nil => intro i t h; simp at h
  | cons u r ih =>
    intro i t h
    have e : flatP (u :: r) = .string u.1 :: .string u.2 :: flatP r := by simp [flatP]
    rw [e]
    cases i with
    | zero => simp at h; subst h; exact ⟨rfl, rfl⟩
    | succ n =>
      have := ih n t (by simpa using h)
      rw [show (n + 1) * 2 = n * 2 + 2 from by omega]
      exact this
theorem set2 {xs l : List Value} {k : Nat} (a b : Value) (h : xs.take (k * 2) = l) (hl : k * 2 + 1 < xs.length) :
    ((xs.set (k * 2) a).set (k * 2 + 1) b).take ((k + 1) * 2) = l ++ [a, b] := by
  subst h
  apply List.ext_getElem?
  intro i
  have hlen : (xs.take (k * 2)).length = k * 2 := by rw [List.length_take]; omega
  rw [List.getElem?_take]
  rcases Nat.lt_or_ge i (k * 2) with g | g
  · rw [if_pos (by omega), List.getElem?_append_left (by omega), List.getElem?_take, if_pos g, List.getElem?_set_ne (by omega), List.getElem?_set_ne (by omega)]
  · rw [List.getElem?_append_right (by omega), hlen]
    obtain rfl | rfl | g3 : i = k * 2 ∨ i = k * 2 + 1 ∨ k * 2 + 2 ≤ i := by omega
    · rw [if_pos (by omega), List.getElem?_set_ne (by omega), List.getElem?_set_self (by omega)]; simp
    · rw [if_pos (by omega), List.getElem?_set_self (by simp; omega)]
      rw [show k * 2 + 1 - k * 2 = 1 from by omega]; rfl
    · rw [if_neg (by omega), List.getElem?_eq_none (by simp; omega)]
theorem infoPair : (Tryz.prog.info? 39).map (fun i => (i.zero, i.size, i.bytes)) = some (some (.agg #[.string ⟨#[]⟩, .string ⟨#[]⟩]), 2, 32) := by kernel_rfl
/-- The call owns a slice of these pairs. -/
def OwnP (B : Nat) (w : World) (v : Value) (ts : List Pre2) : Prop := w.ownsRow B 39 2 v ts.length (flatP ts)
def CopyPostP (ts : List Pre2) (w : World) (e : Ending) (w' : World) : Prop := ∃ v, e = .returned v ∧ OwnP w.heap.size w' v ts ∧ Below w.heap.size w w'
/-- What the call owns can be read. -/
theorem OwnP.is {B : Nat} {w : World} {v : Value} {ts : List Pre2} (h : OwnP B w v ts) (hm : ∀ t ∈ ts, t.1.size ≤ maxLen ∧ t.2.size ≤ maxLen) : ∃ a cap, v = .slice a ts.length cap ∧ IsPres w a ts.length cap ts := by
  have h0 := h
  obtain ⟨_, hc⟩ := h
  rcases hc with ⟨rfl, hl⟩ | ⟨g, cap, cur, rfl, _, _, h1, h2, _⟩
  · exact ⟨none, 0, by rw [hl], .inl ⟨rfl, hl, rfl, List.length_eq_zero_iff.1 hl⟩⟩
  · refine ⟨_, cap, rfl, .inr ⟨_, rfl, h1, h2, rfl, fun i t hi => ?_⟩⟩
    obtain ⟨f0, f1⟩ := flatP_at ts i t hi
    have hl : i < ts.length := (List.getElem?_eq_some_iff.1 hi).1
    obtain ⟨m0, m1⟩ := hm t (List.mem_of_getElem? hi)
    have k0 := h0.cellAt (i * 2) (by omega)
    have k1 := h0.cellAt (i * 2 + 1) (by omega)
    rw [Nat.mul_comm i 2] at k0 k1
    rw [Nat.mul_comm i 2] at f0 f1
    refine ⟨?_, ?_, m0, m1⟩
    · rw [add_plain, Nat.zero_add]; exact k0.trans f0
    · rw [add_plain, Nat.zero_add]; exact k1.trans f1
theorem IsPres.small {w : World} {a : Option Addr} {len cap : Nat} {ts : List Pre2} (h : IsPres w a len cap ts) : ∀ t ∈ ts, t.1.size ≤ maxLen ∧ t.2.size ≤ maxLen := by
  intro t ht
  rcases h with ⟨_, _, _, rfl⟩ | ⟨x, rfl, h1, h2, h3, h4⟩
  · simp at ht
  · obtain ⟨i, hi⟩ := List.mem_iff_getElem?.1 ht
    obtain ⟨_, _, w0, w1⟩ := h4 i t hi
    exact ⟨w0, w1⟩
theorem IsPres.next {w w' : World} {a : Option Addr} {len cap : Nat} {ts : List Pre2} (h : IsPres w a len cap ts) (hb : Below w.heap.size w w') : IsPres w' a len cap ts := h.grown (grown_of_below hb)
set_option maxRecDepth 100000 in
set_option maxHeartbeats 1600000 in
theorem toPairS (a : Option Addr) (len cap : Nat) (ts : List Pre2) (w : World) (h : IsPres w a len cap ts) (hs : len ≤ 1048576) :
    Calls Tryz.prog 85 #[.slice a len cap] w (CopyPostP ts w) := by
  obtain ⟨i0, hi, hz0, hz1, hz2⟩ := info_parts infoPair
  have HT := Lib.hid h.len
  have H := Lib.hid h
  clear h
  go_enter Tryz.func85, Tryz.ntmps85
  go_wp2_with (at_make; refine wpList_make_full _ rfl _ _ 36 rfl w.heap.size 39 i0 _ 2 Tryz.underlying36 hi hz0 hz1 .i64 .i64 _ _ len rfl rfl rfl rfl ?c1 ?c2 (Nat.le_refl _) ?_)
  case c1 => rw [hz2]; omega
  case c2 => unfold maxLen; omega
  intro w0 hown0 hg0
  have hb0 : Below w.heap.size w w0 := (Below.refl _ _).grown hg0 (Nat.le_refl _) (by simp)
  have hsz0 := hg0.size
  clear hg0
  go_wp2_with fail
  go_loopw [4] (fun i wr => ∃ k : Nat, k ≤ len ∧ i = .int .i64 k ∧ (∃ xs : List Value, wr.ownsRow w.heap.size 39 2 (.slice (some ⟨w.heap.size, 0, none⟩) len len) len xs ∧ Hid (xs.take (k * 2) = flatP (ts.take k))) ∧ Below w.heap.size w wr) (fun i _ => len - (intOf i).toNat)
  case atStart => exact ⟨0, Nat.zero_le _, rfl, ⟨_, hown0, Lib.hid (by simp [flatP])⟩, hb0⟩
  case round =>
    obtain ⟨k, hk, rfl, ⟨xs, hown, hx⟩, hnx⟩ := hrel
    by_cases hlt : k < len
    · obtain ⟨b, off, rfl, hb, hl, hm, hts, hc⟩ := H.out.cells (by omega)
      have ht : ts[k]? = some ts[k] := List.getElem?_eq_getElem (by omega)
      have HS : Hid (ts.take (k + 1) = ts.take k ++ [ts[k]]) := Lib.hid (List.take_succ_eq_append_getElem (by omega))
      obtain ⟨c0, c1, m0, m1⟩ := hc k _ ht
      clear m0 m1
      rw [← hnx.cell (p := ⟨b, _, none⟩) hb] at c0 c1
      generalize ts[k] = t at c0 c1 HS
      clear ht hts hc hm
      go_wp2_with fail
      refine (toPair t.1 t.2 _).mono ?_
      rintro e wn ⟨rfl, hbn⟩
      have B := hnx.trans (hbn.mono hnx.size)
      have O := hown.kept (grown_of_below hbn) (.inr (by simp [Value.ownBlock]))
      clear hbn hown hnx c0 c1
      have hxl : xs.length = len * 2 := O.1
      have e0 : wn.cell? ⟨w.heap.size, k * 2, none⟩ = some (xs[k * 2]'(by omega)) := by rw [O.cellAt _ (by omega), List.getElem?_eq_getElem (by omega)]
      have e1 : wn.cell? ⟨w.heap.size, k * 2 + 1, none⟩ = some (xs[k * 2 + 1]'(by omega)) := by rw [O.cellAt _ (by omega), List.getElem?_eq_getElem (by omega)]
      have f0 := O.frozenAt (k * 2)
      have f1 := O.frozenAt (k * 2 + 1)
      have O1 := (O.stored (k * 2) (.string t.1)).1
      have O2 := (O1.stored (k * 2 + 1) (.string t.2)).1
      have HX : Hid (((xs.set (k * 2) (.string t.1)).set (k * 2 + 1) (.string t.2)).take ((k + 1) * 2) = flatP (ts.take (k + 1))) := Lib.hid (by
        rw [HS.out, flatP_snoc]; exact set2 _ _ hx.out (by omega))
      have B2 := (B.setCell (p := ⟨w.heap.size, k * 2, none⟩) (Nat.le_refl _) (.string t.1)).setCell (p := ⟨w.heap.size, k * 2 + 1, none⟩) (Nat.le_refl _) (.string t.2)
      have HXL := Lib.hid hxl
      generalize xs[k * 2]'(by omega) = z0 at e0
      generalize xs[k * 2 + 1]'(by omega) = z1 at e1
      clear O O1 hxl B
      go_wp2_with fail
      go_roundw
      case rel => exact ⟨k + 1, by omega, by go_num, ⟨_, O2, HX⟩, B2⟩
      case measure => simp [intOf]; omega
    · have HX : Hid (xs = flatP ts) := Lib.hid (by
        have := hx.out
        have hxl : xs.length = len * 2 := hown.1
        rwa [List.take_of_length_le (by rw [hxl]; omega), List.take_of_length_le (by rw [HT.out]; omega)] at this)
      go_wp2_with fail
      go_ret
      exact ⟨_, rfl, by unfold OwnP; rw [← HX.out, HT.out]; exact hown, hnx⟩
set_option maxRecDepth 100000 in
set_option maxHeartbeats 1600000 in
theorem eqPairS (a b : Option Addr) (la ca lb cb : Nat) (ts : List Pre2) (w : World) (ha : IsPres w a la ca ts) (hb : IsPres w b lb cb ts) (hs : la ≤ 1048576) :
    Calls Tryz.prog 86 #[.slice a la ca, .slice b lb cb] w fun e w' => e = .returned (.bool true) ∧ Below w.heap.size w w' := by
  have hlb : lb = la := by rw [← ha.len, ← hb.len]
  subst hlb
  have HA := Lib.hid ha
  have HB := Lib.hid hb
  have HT := Lib.hid ha.len
  clear ha hb
  go_enter Tryz.func86, Tryz.ntmps86
  go_wp2_with fail
  go_loopw [5] (fun i wr => ∃ k : Nat, k ≤ lb ∧ i = .int .i64 k ∧ Below w.heap.size w wr) (fun i _ => lb - (intOf i).toNat)
  case atStart => exact ⟨0, Nat.zero_le _, rfl, Below.refl _ _⟩
  case round =>
    obtain ⟨k, hk, rfl, hnx⟩ := hrel
    by_cases hlt : k < lb
    · obtain ⟨x, off, rfl, hx, _, _, hts, hc⟩ := HA.out.cells (by omega)
      obtain ⟨y, off', rfl, hy, _, _, _, hd⟩ := HB.out.cells (by omega)
      have ht : ts[k]? = some ts[k] := List.getElem?_eq_getElem (by omega)
      obtain ⟨c0, c1, m0, m1⟩ := hc k _ ht
      obtain ⟨d0, d1, n0, n1⟩ := hd k _ ht
      clear m0 m1 n0 n1
      rw [← hnx.cell (p := ⟨x, _, none⟩) hx] at c0 c1
      rw [← hnx.cell (p := ⟨y, _, none⟩) hy] at d0 d1
      generalize ts[k] = t at c0 c1 d0 d1
      clear ht hts hc hd
      have E := Lib.hid (eqPair t.1 t.2)
      go_wp2_with fail
      have l1 : x < wr.heap.size := Nat.lt_of_lt_of_le hx hnx.size
      have l2 : y < wr.heap.size := Nat.lt_of_lt_of_le hy hnx.size
      go_region_held3 (fun w' => w'.cell? ⟨x, off + k * 2, none⟩ = some (.string t.1) ∧ w'.cell? ⟨x, off + k * 2 + 1, none⟩ = some (.string t.2) ∧ w'.cell? ⟨y, off' + k * 2, none⟩ = some (.string t.1) ∧ w'.cell? ⟨y, off' + k * 2 + 1, none⟩ = some (.string t.2))
        (first | go_keep | (go_split_ands; refine ⟨?_, ?_, ?_, ?_⟩ <;> (rw [ha4.cell (by first | (simp; done) | exact World.block_lt_of_cell? _ _ (by assumption))]; assumption)))
        (first | (go_at_call 120; refine (E.out _).mono ?_; rintro e wa ⟨rfl, ha4⟩))
      have B : Below w.heap.size w wa := (Below.drew hnx).trans (ha4.mono hnx.size)
      clear ha4 hnx c0 c1 d0 d1
      go_wp2_with fail
      go_roundw
      case rel => exact ⟨k + 1, by omega, by go_num, B⟩
      case measure => simp [intOf]; omega
    · go_wp2_with fail
      go_ret
      exact ⟨rfl, hnx⟩
end Go.Proofs.YtmiiaebelncdhaaGreat
