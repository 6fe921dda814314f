/- Rows of bindings: the contracts of the small functions; which rows are right. -/
import Derived.Test.YthnpchcfjkepaaaG07
import Derived.Test.YthnpchcfjkepaaaG06
import Derived.Test.YthnpchcfjkepaaaG01
import Derived.Lib.Bytealg
import Derived.Deep.QuietTactic
import Derived.BigQuiet
import Derived.WalkSmall
import Derived.IntWalk
import Derived.Test.YthnpchcfjkepaaaG13
import Derived.Deep.RegionHeld3
namespace Go.Proofs.Ythnpchcfjkepaaa
open Go.RowKit
/-- Block g holds just these two cells. -/
def Box2 (w : World) (g : Nat) (x y : Value) (T : TypeId) : Prop := w.heap[g]? = some (.cells #[x, y] T (0, 0))
theorem Box2.new (w : World) (x y : Value) (T : TypeId) : Box2 (w.alloc (.cells #[x, y] T)) w.heap.size x y T := heap_alloc_new w _
theorem Box2.drew {w : World} {g : Nat} {x y : Value} {T : TypeId} (h : Box2 w g x y T) : Box2 w.drew g x y T := h
theorem Box2.cells {w : World} {g : Nat} {x y : Value} {T : TypeId} (h : Box2 w g x y T) : w.cell? ⟨g, 0, none⟩ = some x ∧ w.cell? ⟨g, 1, none⟩ = some y := by
  unfold Box2 at h
  refine ⟨?_, ?_⟩ <;> simp [World.cell?, h]
def isVarK (l : List UInt8) : Bool := decide (kindL l = 4)
def isValK (l : List UInt8) : Bool := decide (kindL l = 1) || decide (kindL l = 2) || decide (kindL l = 3)
def pairT (t : Pre2) : Bool := isVarK t.1.data.toList && isValK t.2.data.toList
def rowOk (ts : List Pre2) : Bool := decide (ts.length ≤ 12) && gUpto pairT lessP ts ts.length
theorem implIsVar (s : ByteArray) (hs : s.size ≤ 2097152) (w : World) :
    Calls Try.prog 76 #[.string s] w fun e w' => e = .returned (.bool (isVarK s.data.toList)) ∧ Below w.heap.size w w' := by
  have C' := implKindOf s hs
  unfold isVarK
  generalize kindL s.data.toList = k at C' ⊢
  have C := Lib.hid C'
  clear C'
  have EK : (((k : Int) == 4) = true ∧ decide (k = 4) = true) ∨ (((k : Int) == 4) = false ∧ decide (k = 4) = false) := by
    simp only [beq_iff_eq, beq_eq_false_iff_ne, decide_eq_true_eq, decide_eq_false_iff_not]; omega
  generalize decide (k = 4) = q at EK ⊢
  go_enter Try.func76, Try.ntmps76
  go_wp2_with fail
  refine (C.out _).mono ?_
  rintro e w1 ⟨rfl, hb1⟩
  rcases EK with ⟨k1, rfl⟩ | ⟨k1, rfl⟩
  all_goals
    go_wp2_with fail
    go_ret
    exact ⟨rfl, hb1⟩
theorem implIsValue (s : ByteArray) (hs : s.size ≤ 2097152) (w : World) :
    Calls Try.prog 109 #[.string s] w fun e w' => e = .returned (.bool (isValK s.data.toList)) ∧ Below w.heap.size w w' := by
  have C' := implKindOf s hs
  unfold isValK
  generalize kindL s.data.toList = ko at C' ⊢
  have C := Lib.hid C'
  clear C'
  have EO : (((ko : Int) == 1) = true ∧ (decide (ko = 1) || decide (ko = 2) || decide (ko = 3)) = true) ∨ (((ko : Int) == 1) = false ∧ ((ko : Int) == 2) = true ∧ (decide (ko = 1) || decide (ko = 2) || decide (ko = 3)) = true) ∨
      (((ko : Int) == 1) = false ∧ ((ko : Int) == 2) = false ∧ ((ko : Int) == 3) = true ∧ (decide (ko = 1) || decide (ko = 2) || decide (ko = 3)) = true) ∨ (((ko : Int) == 1) = false ∧ ((ko : Int) == 2) = false ∧ ((ko : Int) == 3) = false ∧ (decide (ko = 1) || decide (ko = 2) || decide (ko = 3)) = false) := by
    simp only [beq_iff_eq, beq_eq_false_iff_ne, Bool.or_eq_true, Bool.or_eq_false_iff, decide_eq_true_eq, decide_eq_false_iff_not]; omega
  generalize (decide (ko = 1) || decide (ko = 2) || decide (ko = 3)) = q at EO ⊢
  go_enter Try.func109, Try.ntmps109
  go_wp2_with fail
  refine (C.out _).mono ?_
  rintro e w1 ⟨rfl, hb1⟩
  rcases EO with ⟨o1, rfl⟩ | ⟨o1, o2, rfl⟩ | ⟨o1, o2, o3, rfl⟩ | ⟨o1, o2, o3, rfl⟩
  all_goals
    go_wp2_with fail
    go_ret
    exact ⟨rfl, hb1⟩
theorem specIn (k : Nat) (w : World) :
    Calls Try.prog 39 #[.int .i64 k, .int .i64 1, .int .i64 3] w fun e w' => e = .returned (.bool (decide (k = 1) || decide (k = 2) || decide (k = 3))) ∧ w = w' := by
  have EO : (((1 : Int) ≤ (k : Int)) ∧ (k : Int) ≤ 3 ∧ (decide (k = 1) || decide (k = 2) || decide (k = 3)) = true) ∨ ((k : Int) < 1 ∧ (decide (k = 1) || decide (k = 2) || decide (k = 3)) = false) ∨ (((1 : Int) ≤ (k : Int)) ∧ (3 : Int) < (k : Int) ∧ (decide (k = 1) || decide (k = 2) || decide (k = 3)) = false) := by
    simp only [Bool.or_eq_true, Bool.or_eq_false_iff, decide_eq_true_eq, decide_eq_false_iff_not]; omega
  generalize (decide (k = 1) || decide (k = 2) || decide (k = 3)) = q at EO ⊢
  go_enter Try.func39, Try.ntmps39
  rcases EO with ⟨o1, o2, rfl⟩ | ⟨o1, rfl⟩ | ⟨o1, o2, rfl⟩
  all_goals
    go_wp2_with fail
    go_ret
    exact ⟨by first | rfl | (simp; omega), rfl⟩
open Go.RowKit Go.WideShapes
theorem ltb_irrefl : ∀ a : List UInt8, Op.bytesLess a a = false
  | [] => rfl
  | x :: r => by simp [Op.bytesLess, ltb_irrefl r]
theorem ltb_asymm : ∀ a b : List UInt8, Op.bytesLess a b = true → Op.bytesLess b a = false
  | _, [], h => by simp [Op.bytesLess] at h
  | [], _ :: _, _ => by simp [Op.bytesLess]
  | x :: r, y :: q, h => by
    simp only [Op.bytesLess, Bool.or_eq_true, Bool.and_eq_true, decide_eq_true_eq, beq_iff_eq] at h
    simp only [Op.bytesLess, Bool.or_eq_false_iff, Bool.and_eq_false_iff, decide_eq_false_iff_not, beq_eq_false_iff_ne]
    rcases h with h | ⟨rfl, h⟩
    · refine ⟨?_, .inl ?_⟩
      · rw [UInt8.lt_iff_toNat_lt] at h ⊢; omega
      · rintro rfl; rw [UInt8.lt_iff_toNat_lt] at h; omega
    · exact ⟨by rw [UInt8.lt_iff_toNat_lt]; omega, .inr (ltb_asymm r q h)⟩
theorem ltb_trans : ∀ a b c : List UInt8, Op.bytesLess a b = true → Op.bytesLess b c = true → Op.bytesLess a c = true
  | _, b, [], _, h => by cases b <;> simp [Op.bytesLess] at h
  | a, [], _ :: _, h, _ => by cases a <;> simp [Op.bytesLess] at h
  | [], _ :: _, _ :: _, _, _ => by simp [Op.bytesLess]
  | x :: r, y :: q, z :: s, h1, h2 => by
    simp only [Op.bytesLess, Bool.or_eq_true, Bool.and_eq_true, decide_eq_true_eq, beq_iff_eq] at h1 h2 ⊢
    rcases h1 with h1 | ⟨rfl, h1⟩
    · rcases h2 with h2 | ⟨rfl, h2⟩
      · exact .inl (by rw [UInt8.lt_iff_toNat_lt] at *; omega)
      · exact .inl h1
    · rcases h2 with h2 | ⟨rfl, h2⟩
      · exact .inl h2
      · exact .inr ⟨rfl, ltb_trans r q s h1 h2⟩
theorem ltb_ne {a b : List UInt8} (h : Op.bytesLess a b = true) : a ≠ b := by
  rintro rfl
  rw [ltb_irrefl] at h
  cases h
def seen : List Pre2 → ByteArray → ByteArray
  | [], x => x
  | t :: r, x => if t.1 = x then t.2 else seen r x
theorem seen_no : ∀ (ts : List Pre2) (x : ByteArray), (∀ t ∈ ts, t.1 ≠ x) → seen ts x = x
  | [], _, _ => rfl
  | t :: r, x, h => by
    unfold seen
    rw [if_neg (h t (List.mem_cons_self ..))]
    exact seen_no r x fun u hu => h u (List.mem_cons_of_mem _ hu)
theorem seen_at : ∀ (ts : List Pre2) (x : ByteArray) (i : Nat) (t : Pre2), ts[i]? = some t → t.1 = x → (∀ j u, j < i → ts[j]? = some u → u.1 ≠ x) → seen ts x = t.2
  | [], _, _, _, h, _, _ => by simp at h
  | u :: r, x, 0, t, h, hx, _ => by
    obtain rfl : u = t := by simpa using h
    unfold seen
    rw [if_pos hx]
  | u :: r, x, i + 1, t, h, hx, hn => by
    unfold seen
    rw [if_neg (hn 0 u (by omega) (by simp))]
    exact seen_at r x i t (by simpa using h) hx fun j v hj hv => hn (j + 1) v (by omega) (by simpa using hv)
def Asc (ts : List Pre2) : Prop := ∀ (i j : Nat) (t u : Pre2), i < j → ts[i]? = some t → ts[j]? = some u → lessP t u = true
theorem lessP_trans {t u v : Pre2} (h : lessP t u = true) (h' : lessP u v = true) : lessP t v = true := ltb_trans _ _ _ h h'
theorem asc_of {ts : List Pre2} (h : gUpto pairT lessP ts ts.length = true) : Asc ts := by
  have step : ∀ (j : Nat) (t u : Pre2), ts[j]? = some t → ts[j + 1]? = some u → lessP t u = true := fun j t u ht hu => by
    have hl := (List.getElem?_eq_some_iff.1 hu).1
    have := List.all_eq_true.1 h (j + 1) (List.mem_range.2 hl)
    rw [gAt_next (by omega) hu (by simpa using ht)] at this
    simp only [Bool.and_eq_true] at this
    exact this.2
  unfold Asc
  intro i j
  induction j with
  | zero => intro t u hi; omega
  | succ j ih =>
    intro t u hi ht hu
    have hl := (List.getElem?_eq_some_iff.1 hu).1
    have hm : ts[j]? = some ts[j] := List.getElem?_eq_getElem (by omega)
    rcases Nat.lt_or_eq_of_le (show i ≤ j by omega) with hlt | rfl
    · exact lessP_trans (ih t _ hlt ht hm) (step j _ _ hm hu)
    · exact step i _ _ ht hu
theorem cmp_cases : ∀ a b : List UInt8, (Lib.compareBytes a b < 0 ∧ Op.bytesLess a b = true) ∨ (Lib.compareBytes a b = 0 ∧ a = b) ∨ (0 < Lib.compareBytes a b ∧ Op.bytesLess b a = true)
  | [], [] => .inr (.inl ⟨rfl, rfl⟩)
  | [], _ :: _ => .inl ⟨by simp [Lib.compareBytes], by simp [Op.bytesLess]⟩
  | _ :: _, [] => .inr (.inr ⟨by simp [Lib.compareBytes], by simp [Op.bytesLess]⟩)
  | x :: r, y :: q => by
    unfold Lib.compareBytes
    by_cases h1 : x < y
    · rw [if_pos h1]; exact .inl ⟨by omega, by simp [Op.bytesLess, h1]⟩
    rw [if_neg h1]
    by_cases h2 : y < x
    · rw [if_pos h2]; exact .inr (.inr ⟨by omega, by simp [Op.bytesLess, h2]⟩)
    rw [if_neg h2]
    obtain rfl : x = y := by
      rw [UInt8.lt_iff_toNat_lt] at h1 h2
      exact UInt8.toNat_inj.1 (by omega)
    rcases cmp_cases r q with ⟨h, h'⟩ | ⟨h, rfl⟩ | ⟨h, h'⟩
    · exact .inl ⟨h, by simp [Op.bytesLess, h']⟩
    · exact .inr (.inl ⟨h, rfl⟩)
    · exact .inr (.inr ⟨h, by simp [Op.bytesLess, h']⟩)
end Go.Proofs.Ythnpchcfjkepaaa
/- A graph put in among the others: the specification. -/
namespace Go.Proofs.Ythnpchcfjkepaaa
open Go.RowKit Go.WideShapes
theorem own_slice_len {B : Nat} {w : World} {v : Value} {ts : List Tri3} (h : OwnT B w v ts) : ∃ a c, v = .slice a ts.length c := by
  rcases h.2 with ⟨rfl, e⟩ | ⟨g, c, cur, rfl, _⟩
  · exact ⟨none, 0, by rw [e]⟩
  · exact ⟨_, _, rfl⟩
/-- What the walk keeps: out, and what of it is the call's own. -/
def PutI (B b0 : Nat) (wr : World) (v : Value) (d : Bool) (L : List NamV) (us : List Value) (x : NamV) (ts : List NamV) (k : Nat) : Prop :=
  OutN B wr v L us ∧ L ++ putGo x d (ts.drop k) = putNam ts x ∧ (d = false → ∀ u ∈ us, ∀ j, u.ownBlock = some j → b0 < j) ∧ (∀ j, v.ownBlock = some j → b0 < j)
theorem PutI.most {B b0 : Nat} {wr : World} {v : Value} {d : Bool} {L : List NamV} {us : List Value} {x : NamV} {ts : List NamV} {k : Nat} (h : PutI B b0 wr v d L us x ts k) (ht : ts.length ≤ 1048570) : L.length ≤ 1048572 := by
  have h1 := congrArg List.length h.2.1
  have h2 := putGo_len x ts (decide (x.2.length = 0))
  rw [List.length_append] at h1
  unfold putNam at h1
  split at h2 <;> omega
theorem PutI.skip {B b0 : Nat} {wr : World} {v : Value} {d : Bool} {L : List NamV} {us : List Value} {x : NamV} {ts : List NamV} {k : Nat} {r : NamV} (h : PutI B b0 wr v d L us x ts k) (hr : ts[k]? = some r) (he : r.1 = x.1) (hn : d = true ∨ lessN x r = false) : PutI B b0 wr v d L us x ts (k + 1) := by
  obtain ⟨h1, h2, h3, h4⟩ := h
  refine ⟨h1, ?_, h3, h4⟩
  rw [← h2, putGo_cons hr, if_pos he]
  rcases hn with rfl | hn
  · simp
  · rw [hn]; simp
theorem PutI.copy {B b0 : Nat} {wr w' : World} {v v' u : Value} {d : Bool} {L : List NamV} {us : List Value} {x : NamV} {ts : List NamV} {k : Nat} {r : NamV} (h : PutI B b0 wr v d L us x ts k) (hr : ts[k]? = some r) (he : r.1 ≠ x.1) (hn : d = true ∨ lessN x r = false)
    (ho : OutN B w' v' (L ++ [r]) (us ++ [u])) (hu : ∀ j, u.ownBlock = some j → b0 < j) (hv : ∀ j, v'.ownBlock = some j → b0 < j) : PutI B b0 w' v' d (L ++ [r]) (us ++ [u]) x ts (k + 1) := by
  obtain ⟨h1, h2, h3, h4⟩ := h
  refine ⟨ho, ?_, fun hd y hy j hj => ?_, hv⟩
  · rw [← h2, putGo_cons hr, if_neg he]
    rcases hn with rfl | hn
    · simp
    · rw [hn]; simp
  · rcases List.mem_append.1 hy with hy | hy
    · exact h3 hd y hy j hj
    · obtain rfl := List.mem_singleton.1 hy
      exact hu j hj
/-- The new one itself, ahead of a greater one (which comes behind it). -/
theorem PutI.both {B b0 : Nat} {wr w' : World} {v v' u1 u2 : Value} {L : List NamV} {us : List Value} {x : NamV} {ts : List NamV} {k : Nat} {r : NamV} (h : PutI B b0 wr v false L us x ts k) (hr : ts[k]? = some r) (he : r.1 ≠ x.1) (hn : lessN x r = true)
    (ho : OutN B w' v' ((L ++ [x]) ++ [r]) ((us ++ [u1]) ++ [u2])) (hv : ∀ j, v'.ownBlock = some j → b0 < j) : PutI B b0 w' v' true ((L ++ [x]) ++ [r]) ((us ++ [u1]) ++ [u2]) x ts (k + 1) := by
  obtain ⟨h1, h2, h3, h4⟩ := h
  refine ⟨ho, ?_, fun hd => Bool.noConfusion hd, hv⟩
  rw [← h2, putGo_cons hr, if_neg he, hn]
  simp
set_option maxRecDepth 100000 in
set_option maxHeartbeats 12800000 in
theorem specPutNam (B : Nat) (a : Option Addr) (len cap : Nat) (ts : List NamV) (s : ByteArray) (xv : Value) (g : List Tri3) (w : World) (h : IsNams w a len cap ts) (hx : OwnT B w xv g) (hB : B ≤ w.heap.size) (hlen : len ≤ 1048570) (htot : totN ts ≤ 1048576) :
    Calls Try.prog 114 #[.slice a len cap, .agg #[.string s, xv]] w fun e w' => ∃ v, e = .returned v ∧ OwnNs B w' v (putNam ts (s, g)) ∧ Below w.heap.size w w' := by
  obtain ⟨xa, xc, rfl⟩ := own_slice_len hx
  obtain ⟨xn, hxn⟩ : ∃ n, g.length = n := ⟨_, rfl⟩
  rw [hxn] at hx ⊢
  obtain ⟨d0, hd0⟩ : ∃ d, decide (g.length = 0) = d := ⟨_, rfl⟩
  have ED : ((xn : Int) == 0) = d0 := by
    rw [← hd0, hxn, Bool.eq_iff_iff, beq_iff_eq, decide_eq_true_eq]; omega
  have H := Lib.hid h
  have HL := Lib.hid h.len
  have HX := Lib.hid hx
  have htl : ts.length ≤ 1048570 := by rw [h.len]; exact hlen
  have HTL := Lib.hid htl
  have HTT : Hid (∀ t ∈ ts, t.2.length ≤ 1048576) := Lib.hid (fun t ht => by have := totN_mem ht; omega)
  have X0 := NamK.Box2.new w (.string s) (.slice xa xn xc) 31
  have X1 := Lib.hid (X0.alloc (.cells #[] 31))
  have B0 := ((Below.refl w.heap.size w).alloc (Nat.le_refl _) (.cells #[.string s, .slice xa xn xc] 31))
  have B1 := B0.alloc B0.size (.cells #[] 31)
  have hlit := World.ownsRow_lit (size := 2) (e := 31) (w.alloc (.cells #[.string s, .slice xa xn xc] 31)) #[] 0 (Nat.le_refl _) (by decide) rfl
  have I0 : Hid (PutI B w.heap.size ((w.alloc (.cells #[.string s, .slice xa xn xc] 31)).alloc (.cells #[] 31)) (.slice (some ⟨w.heap.size + 1, 0, none⟩) 0 0) d0 [] [] (s, g) ts 0) := Lib.hid (by
    rw [World.size_alloc] at hlit
    refine ⟨⟨?_, InnN.nil _ _, by simp⟩, ?_, by simp, fun j hj => by simp [Value.ownBlock] at hj; omega⟩
    · obtain ⟨q1, q2⟩ := hlit
      refine ⟨q1, ?_⟩
      rcases q2 with q2 | ⟨gg, cc, cur, e, hBB, r⟩
      · exact .inl q2
      · exact .inr ⟨gg, cc, cur, e, Nat.le_trans hB (Nat.le_trans (Nat.le_succ _) hBB), r⟩
    · unfold putNam
      simp only [List.drop_zero, List.nil_append]
      rw [hd0])
  obtain ⟨x0, x1⟩ := X0.cells
  obtain ⟨y0, y1⟩ := X1.out.cells
  clear h hx hlit hd0 X0
  go_enter Try.func114, Try.ntmps114
  go_wp2_with fail
  clear x0 x1 y0 y1
  go_loopw [5, 6, 7] (fun v' dd i wr => ∃ (k : Nat) (v : Value) (d : Bool) (L : List NamV) (us : List Value), k ≤ len ∧ i = .int .i64 k ∧ dd = .bool d ∧ v = v' ∧ Hid (PutI B w.heap.size wr v d L us (s, g) ts k) ∧ Hid (NamK.Box2 wr w.heap.size (.string s) (.slice xa xn xc) 31) ∧ Below w.heap.size w wr) (fun _ _ i _ => len - (intOf i).toNat)
  case atStart => exact ⟨0, _, d0, [], [], Nat.zero_le _, rfl, rfl, rfl, I0, X1, B1⟩
  case round =>
    obtain ⟨k, v, d, L, us, hk, rfl, rfl, rfl, HI, HX2, hnx⟩ := hrel
    clear I0 X1 B0 B1 ED
    have hk6 : (0 : Int) ≤ (k : Int) := by omega
    have hk8 : ¬ (k : Int) < 0 := by omega
    by_cases hlt : k < len
    · have hk7 : (k : Int) < (len : Int) := by omega
      obtain ⟨b, off, rfl, hb0, hll, hm, hts, hc⟩ := H.out.cells (by omega)
      have ht : ts[k]? = some (ts[k]'(by omega)) := List.getElem?_eq_getElem (by omega)
      have hgl := HTT.out _ (List.mem_of_getElem? ht)
      obtain ⟨ga, gn, gc, c0, c1, hz, m0⟩ := hc k _ ht
      generalize ts[k]'(by omega) = r at ht hgl c0 c1 hz m0
      obtain ⟨rs, rg⟩ := r
      simp only at hgl c0 c1 hz m0
      have hgn := hz.len
      have HT := Lib.hid ht
      have c0w := c0
      have c1w := c1
      rw [← hnx.cell (p := ⟨b, _, none⟩) hb0] at c0 c1
      have HZ := Lib.hid hz
      have HML := Lib.hid (HI.out.most HTL.out)
      have HXO : Hid (OwnT B wr (.slice xa xn xc) g) := Lib.hid (ownTN_kept HX.out (by exact ⟨hnx.os, hnx.tape, hnx.output, hnx.size, hnx.block⟩))
      have HXL : Hid (∀ j, (Value.slice xa xn xc).ownBlock = some j → j < w.heap.size) := Lib.hid (fun j hj => (World.ownsRow.lt HX.out j hj).2)
      obtain ⟨x0, x1⟩ := HX2.out.cells
      have hxw : w.heap.size < wr.heap.size := HX2.out.lt
      have hbw : b < wr.heap.size := by omega
      have HVB : Hid (∀ j, v.ownBlock = some j → w.heap.size < j) := Lib.hid HI.out.2.2.2
      clear ht hz hc hm hll hts m0
      cases d
      · by_cases hless : lessN (s, g) (rs, rg) = true
        · skip
          have E3 : Op.bytesLess rs.toList s.toList = false := ltb_asymm _ _ hless
          have hne : rs ≠ s := fun e => by subst e; unfold lessN at hless; rw [ltb_irrefl] at hless; cases hless
          have E1 := bytes_not hne
          go_wp2_with fail
          refine wp_region_held_drew (S := (fun w' => (w'.cell? ⟨b, off + k * 2, none⟩ = some (.string rs) ∧ w'.cell? ⟨b, off + k * 2 + 1, none⟩ = some (.slice ga gn gc)) ∧ w'.cell? ⟨w.heap.size, 0, none⟩ = some (.string s))) (by kernel_rfl) ?_ (fun hHeld => ?_)
          · exact ⟨⟨c0, c1⟩, x0⟩
          refine wpAnyH_take (i := 0) (v := ?_) rfl (by kernel_rfl) (by kernel_rfl) (by kernel_rfl) (fun _ _ _ h => h) (Or.inl ⟨by kernel_rfl, ?_⟩) (by assumption) ?_
          rotate_left
          · intro w hSw; (try dsimp only at hSw); go_simp; try with_reducible rfl
          refine wpAnyH_take (i := 1) (v := ?_) rfl (by kernel_rfl) (by kernel_rfl) (by kernel_rfl) (fun _ _ _ h => h) (Or.inl ⟨by kernel_rfl, ?_⟩) (by assumption) ?_
          rotate_left
          · intro w hSw; (try dsimp only at hSw); go_simp; try with_reducible rfl
          refine wpAnyH_take (i := 2) (v := ?_) rfl (by kernel_rfl) (by kernel_rfl) (by kernel_rfl) (fun _ _ _ h => h) (Or.inl ⟨by kernel_rfl, ?_⟩) (by assumption) ?_
          rotate_left
          · intro w hSw; (try dsimp only at hSw); go_simp; try with_reducible rfl
          refine wpAnyH_take (i := 3) (v := ?_) rfl (by kernel_rfl) (by kernel_rfl) (by kernel_rfl) (fun _ _ _ h => h) (Or.inl ⟨by kernel_rfl, ?_⟩) (by assumption) ?_
          rotate_left
          · intro w hSw; (try dsimp only at hSw); go_simp; try with_reducible rfl
          refine wpAnyH_take (i := 4) (v := ?_) rfl (by kernel_rfl) (by kernel_rfl) (by kernel_rfl) (fun _ _ _ h => h) (Or.inl ⟨by kernel_rfl, ?_⟩) (by assumption) ?_
          rotate_left
          · intro w hSw; (try dsimp only at hSw); go_simp; try with_reducible rfl
          refine wpAnyH_take (i := 5) (v := ?_) rfl (by kernel_rfl) (by kernel_rfl) (by kernel_rfl) (fun _ _ _ h => h) (Or.inl ⟨by kernel_rfl, ?_⟩) (by assumption) ?_
          rotate_left
          · intro w hSw; (try dsimp only at hSw); go_simp; try with_reducible rfl
          refine wpAnyH_take (i := 6) (v := ?_) rfl (by kernel_rfl) (by kernel_rfl) (by kernel_rfl) (fun _ _ _ h => h) (Or.inl ⟨by kernel_rfl, ?_⟩) (by assumption) ?_
          rotate_left
          · intro w hSw; (try dsimp only at hSw); go_simp; try with_reducible rfl
          refine wpAnyH_take (i := 7) (v := ?_) rfl (by kernel_rfl) (by kernel_rfl) (by kernel_rfl) (fun _ _ _ h => h) (Or.inl ⟨by kernel_rfl, ?_⟩) (by assumption) ?_
          rotate_left
          · intro w hSw; (try dsimp only at hSw); go_simp; try with_reducible rfl
          refine wpAnyH_take (i := 8) (v := ?_) rfl (by kernel_rfl) (by kernel_rfl) (by kernel_rfl) (fun _ _ _ h => h) (Or.inl ⟨by kernel_rfl, ?_⟩) (by assumption) ?_
          rotate_left
          · intro w hSw; (try dsimp only at hSw); go_simp; try with_reducible rfl
          refine wpAnyH_take (i := 9) (v := ?_) rfl (by kernel_rfl) (by kernel_rfl) (by kernel_rfl) (fun _ _ _ h => h) (Or.inl ⟨by kernel_rfl, ?_⟩) (by assumption) ?_
          rotate_left
          · intro w hSw; (try dsimp only at hSw); go_simp; try with_reducible rfl
          refine wpAnyH_take (i := 10) (v := ?_) rfl (by kernel_rfl) (by kernel_rfl) (by kernel_rfl) (fun _ _ _ h => h) (Or.inl ⟨by kernel_rfl, ?_⟩) (by assumption) ?_
          rotate_left
          · intro w hSw; (try dsimp only at hSw); go_simp; try with_reducible rfl
          refine wpAnyH_take (i := 11) (v := ?_) rfl (by kernel_rfl) (by kernel_rfl) (by kernel_rfl) (fun _ _ _ h => h) (Or.inl ⟨by kernel_rfl, ?_⟩) (by assumption) ?_
          rotate_left
          · intro w hSw; (try dsimp only at hSw); go_simp; try with_reducible rfl
          refine wpAnyH_done (by kernel_rfl) ?_ _
          try simp only [Act.put, List.setIfInBounds_toArray, List.set_cons_zero, List.set_cons_succ, List.getElem_toArray, List.getElem_cons_zero, List.getElem_cons_succ]
          have HB : B ≤ wr.heap.size := by omega
          have HBa : B ≤ (World.drew (wr.alloc (.cells #[.string s, .slice xa xn xc] 31))).heap.size := by show B ≤ (wr.alloc _).heap.size; rw [World.size_alloc]; omega
          have bLa : Below wr.heap.size wr (World.drew (wr.alloc (.cells #[.string s, .slice xa xn xc] 31))) := ((Below.refl _ _).alloc (Nat.le_refl _) _).drew
          have qa := (NamK.Box2.new wr (.string s) (.slice xa xn xc) 31).drew.cells
          have q0 := (HX2.out.cells).2
          go_wp2_with (at_builtin; go_loud (refine wpList_moreN (B := B) (t := (s, g)) (u := .slice xa xn xc) (L := L) (us := us) rfl _ _ rfl rfl (HI.out.1.next bLa) HBa wr.heap.size rfl qa (ownTN_kept HXO.out bLa) (fun y hy j hj e => by have h1 := HI.out.2.2.1 rfl y hy j hj; have h2 := HXL.out j e; omega) (fun j hj e => by have h1 := HVB.out j e; have h2 := HXL.out j hj; omega) (by have := HML.out; omega) ?_))
          intro v5 w5 o5 hg5 hat5
          have x5 : NamK.Box2 w5 w.heap.size (.string s) (.slice xa xn xc) 31 := (hg5.block _ (HX2.out.next bLa).lt (fun e => Nat.lt_irrefl _ (HVB.out _ e.symm))).trans (HX2.out.next bLa)
          have n5 : Below w.heap.size w w5 := (hnx.trans (bLa.mono hnx.size)).grown hg5 (hnx.trans (bLa.mono hnx.size)).size (fun i hi => Nat.le_of_lt (HVB.out i hi))
          have hv5 : ∀ i, v5.ownBlock = some i → w.heap.size < i := by
            intro i hi
            rcases hat5 with e | e
            · exact HVB.out i (e ▸ hi)
            · rw [e] at hi; have h9 := Option.some.inj hi; have := bLa.size; omega
          have HOb : Hid (OutN B w5 v5 (L ++ [(s, g)]) (us ++ [.slice xa xn xc])) := Lib.hid (by exact o5)
          have HXb : Hid (NamK.Box2 w5 w.heap.size (.string s) (.slice xa xn xc) 31) := Lib.hid (by exact x5)
          have hnb : Below w.heap.size w w5 := n5
          have hmlb : ((L ++ [(s, g)])).length ≤ 1048576 := by have := HML.out; simp only [List.length_append, List.length_cons, List.length_nil]; omega
          have HVb : Hid (∀ j, v5.ownBlock = some j → w.heap.size < j) := Lib.hid (hv5)
          have d0 : w5.cell? ⟨b, off + k * 2, none⟩ = some (.string rs) := (hnb.cell (p := ⟨b, _, none⟩) hb0).trans c0w
          have d1 : w5.cell? ⟨b, off + k * 2 + 1, none⟩ = some (.slice ga gn gc) := (hnb.cell (p := ⟨b, _, none⟩) hb0).trans c1w
          have z0 := HXb.out.cells.1
          go_wp2_with fail
          refine wp_region_held_drew (S := (fun w' => (w'.cell? ⟨b, off + k * 2, none⟩ = some (.string rs) ∧ w'.cell? ⟨b, off + k * 2 + 1, none⟩ = some (.slice ga gn gc)) ∧ w'.cell? ⟨w.heap.size, 0, none⟩ = some (.string s))) (by kernel_rfl) ?_ (fun hHeld => ?_)
          · exact ⟨⟨d0, d1⟩, z0⟩
          refine wpAnyH_take (i := 0) (v := ?_) rfl (by kernel_rfl) (by kernel_rfl) (by kernel_rfl) (fun _ _ _ h => h) (Or.inl ⟨by kernel_rfl, ?_⟩) (by assumption) ?_
          rotate_left
          · intro w hSw; (try dsimp only at hSw); go_simp; try with_reducible rfl
          refine wpAnyH_take (i := 1) (v := ?_) rfl (by kernel_rfl) (by kernel_rfl) (by kernel_rfl) (fun _ _ _ h => h) (Or.inl ⟨by kernel_rfl, ?_⟩) (by assumption) ?_
          rotate_left
          · intro w hSw; (try dsimp only at hSw); go_simp; try with_reducible rfl
          refine wpAnyH_take (i := 2) (v := ?_) rfl (by kernel_rfl) (by kernel_rfl) (by kernel_rfl) (fun _ _ _ h => h) (Or.inl ⟨by kernel_rfl, ?_⟩) (by assumption) ?_
          rotate_left
          · intro w hSw; (try dsimp only at hSw); go_simp; try with_reducible rfl
          refine wpAnyH_take (i := 3) (v := ?_) rfl (by kernel_rfl) (by kernel_rfl) (by kernel_rfl) (fun _ _ _ h => h) (Or.inl ⟨by kernel_rfl, ?_⟩) (by assumption) ?_
          rotate_left
          · intro w hSw; (try dsimp only at hSw); go_simp; try with_reducible rfl
          refine wpAnyH_take (i := 4) (v := ?_) rfl (by kernel_rfl) (by kernel_rfl) (by kernel_rfl) (fun _ _ _ h => h) (Or.inl ⟨by kernel_rfl, ?_⟩) (by assumption) ?_
          rotate_left
          · intro w hSw; (try dsimp only at hSw); go_simp; try with_reducible rfl
          refine wpAnyH_take (i := 5) (v := ?_) rfl (by kernel_rfl) (by kernel_rfl) (by kernel_rfl) (fun _ _ _ h => h) (Or.inl ⟨by kernel_rfl, ?_⟩) (by assumption) ?_
          rotate_left
          · intro w hSw; (try dsimp only at hSw); go_simp; try with_reducible rfl
          refine wpAnyH_take (i := 6) (v := ?_) rfl (by kernel_rfl) (by kernel_rfl) (by kernel_rfl) (fun _ _ _ h => h) (Or.inl ⟨by kernel_rfl, ?_⟩) (by assumption) ?_
          rotate_left
          · intro w hSw; (try dsimp only at hSw); go_simp; try with_reducible rfl
          refine wpAnyH_take (i := 7) (v := ?_) rfl (by kernel_rfl) (by kernel_rfl) (by kernel_rfl) (fun _ _ _ h => h) (Or.inl ⟨by kernel_rfl, ?_⟩) (by assumption) ?_
          rotate_left
          · intro w hSw; (try dsimp only at hSw); go_simp; try with_reducible rfl
          refine wpAnyH_done (by kernel_rfl) ?_ _
          try simp only [Act.put, List.setIfInBounds_toArray, List.set_cons_zero, List.set_cons_succ, List.getElem_toArray, List.getElem_cons_zero, List.getElem_cons_succ]
          go_wp2_with fail
          have hxb : w.heap.size < w5.heap.size := HXb.out.lt
          have bW : Below w.heap.size w (World.alloc (World.drew (World.drew w5)) (.cells #[] 34)) := (hnb.drew.drew).alloc (by exact hnb.size) _
          have HA := Lib.hid (cells_new (World.drew (World.drew w5)) #[] 34).now
          refine wp_region_held_drew (S := (fun w' => (w'.cell? ⟨b, off + k * 2, none⟩ = some (.string rs) ∧ w'.cell? ⟨b, off + k * 2 + 1, none⟩ = some (.slice ga gn gc)) ∧ w'.cell? ⟨w.heap.size, 0, none⟩ = some (.string s))) (by kernel_rfl) ?_ (fun hHeld => ?_)
          · exact ⟨⟨d0, d1⟩, z0⟩
          refine wpAnyH_take (i := 0) (v := ?_) rfl (by kernel_rfl) (by kernel_rfl) (by kernel_rfl) (fun _ _ _ h => h) (Or.inl ⟨by kernel_rfl, ?_⟩) (by assumption) ?_
          rotate_left
          · intro w hSw; (try dsimp only at hSw); go_simp; try with_reducible rfl
          refine wpAnyH_take (i := 1) (v := ?_) rfl (by kernel_rfl) (by kernel_rfl) (by kernel_rfl) (fun _ _ _ h => h) (Or.inl ⟨by kernel_rfl, ?_⟩) (by assumption) ?_
          rotate_left
          · intro w hSw; (try dsimp only at hSw); go_simp; try with_reducible rfl
          refine wpAnyH_take (i := 2) (v := ?_) rfl (by kernel_rfl) (by kernel_rfl) (by kernel_rfl) (fun _ _ _ h => h) (Or.inl ⟨by kernel_rfl, ?_⟩) (by assumption) ?_
          rotate_left
          · intro w hSw; (try dsimp only at hSw); go_simp; try with_reducible rfl
          refine wpAnyH_take (i := 3) (v := ?_) rfl (by kernel_rfl) (by kernel_rfl) (by kernel_rfl) (fun _ _ _ h => h) (Or.inl ⟨by kernel_rfl, ?_⟩) (by assumption) ?_
          rotate_left
          · intro w hSw; (try dsimp only at hSw); go_simp; try with_reducible rfl
          refine wpAnyH_take (i := 4) (v := ?_) rfl (by kernel_rfl) (by kernel_rfl) (by kernel_rfl) (fun _ _ _ h => h) (Or.inl ⟨by kernel_rfl, ?_⟩) (by assumption) ?_
          rotate_left
          · intro w hSw; (try dsimp only at hSw); go_simp; try with_reducible rfl
          refine wpAnyH_take (i := 5) (v := ?_) rfl (by kernel_rfl) (by kernel_rfl) (by kernel_rfl) (fun _ _ _ h => h) (Or.inl ⟨by kernel_rfl, ?_⟩) (by assumption) ?_
          rotate_left
          · intro w hSw; (try dsimp only at hSw); go_simp; try with_reducible rfl
          refine wpAnyH_take (i := 7) (v := ?_) rfl (by kernel_rfl) (by kernel_rfl) (by kernel_rfl) (fun _ _ _ h => h) (Or.inl ⟨by kernel_rfl, ?_⟩) (by assumption) ?_
          rotate_left
          · intro w hSw; (try dsimp only at hSw); go_simp; try with_reducible rfl
          refine wpAnyH_take (i := 8) (v := ?_) rfl (by kernel_rfl) (by kernel_rfl) (by kernel_rfl) (fun _ _ _ h => h) (Or.inl ⟨by kernel_rfl, ?_⟩) (by assumption) ?_
          rotate_left
          · intro w hSw; (try dsimp only at hSw); go_simp; try with_reducible rfl
          refine wpAnyH_take (i := 9) (v := ?_) rfl (by kernel_rfl) (by kernel_rfl) (by kernel_rfl) (fun _ _ _ h => h) (Or.inl ⟨by kernel_rfl, ?_⟩) (by assumption) ?_
          rotate_left
          · intro w hSw; (try dsimp only at hSw); go_simp; try with_reducible rfl
          refine wpAnyH_take (i := 10) (v := ?_) rfl (by kernel_rfl) (by kernel_rfl) (by kernel_rfl) (fun _ _ _ h => h) (Or.inl ⟨by kernel_rfl, ?_⟩) (by assumption) ?_
          rotate_left
          · intro w hSw; (try dsimp only at hSw); go_simp; try with_reducible rfl
          refine wpAnyH_take (i := 11) (v := ?_) rfl (by kernel_rfl) (by kernel_rfl) (by kernel_rfl) (fun _ _ _ h => h) (Or.inl ⟨by kernel_rfl, ?_⟩) (by assumption) ?_
          rotate_left
          · intro w hSw; (try dsimp only at hSw); go_simp; try with_reducible rfl
          refine wpAnyH_ready (rs := [6]) (by kernel_rfl) (by simp) ?_
          refine AllReadyH.cons rfl (fun K hK => ?_) AllReadyH.nil
          go_simp
          clear hHeld
          refine hK.out _ _ ?_ (fun hHeld => ?_)
          · exact ⟨⟨(bW.cell (p := ⟨b, _, none⟩) hb0).trans c0w, (bW.cell (p := ⟨b, _, none⟩) hb0).trans c1w⟩, ((HXb.out.next ((Below.refl _ _).drew.drew)).alloc _).cells.1⟩
          clear hK K
          refine wpAnyH_ready (rs := [12]) (by kernel_rfl) (by simp) ?_
          refine AllReadyH.cons rfl (fun K hK => ?_) AllReadyH.nil
          refine upon_copyN _ _ (by rfl) _ (by rfl) HA.out ga gn gc rg (by rfl) (HZ.out.next bW) (by omega) ?_
          intro cv w2 j hj hjo hcv htu
          obtain ⟨qa, qc, hqe⟩ := own_slice_len hcv.now.1
          rw [hgn] at hqe
          subst hqe
          have hs1 : (World.drew (World.drew w5)).heap.size ≤ (World.alloc (World.drew (World.drew w5)) (.cells #[] 34)).heap.size := by rw [World.size_alloc]; exact Nat.le_succ _
          have b12 : Below (World.drew (World.drew w5)).heap.size (World.drew (World.drew w5)) w2 := ((Below.refl (World.drew (World.drew w5)).heap.size (World.drew (World.drew w5))).alloc (Nat.le_refl _) _).trans (htu.below hs1 (Nat.le_refl _))
          have bb2 : Below w5.heap.size w5 w2 := ((Below.refl w5.heap.size w5).drew.drew).trans (by exact b12)
          have b2w : Below w.heap.size w w2 := hnb.trans (bb2.mono hnb.size)
          have o2 : OutN B w2 v5 (L ++ [(s, g)]) (us ++ [.slice xa xn xc]) := HOb.out.next bb2
          have x2 := HXb.out.next bb2
          clear hHeld
          refine hK.out _ _ ?_ (fun hHeld => ?_)
          · exact ⟨⟨(b2w.cell (p := ⟨b, _, none⟩) hb0).trans c0w, (b2w.cell (p := ⟨b, _, none⟩) hb0).trans c1w⟩, x2.cells.1⟩
          clear hK K
          refine wpAnyH_take (i := 13) (v := ?_) rfl (by kernel_rfl) (by kernel_rfl) (by kernel_rfl) (fun _ _ _ h => h) (Or.inl ⟨by kernel_rfl, ?_⟩) (by assumption) ?_
          rotate_left
          · intro w hSw; (try dsimp only at hSw); go_simp; try with_reducible rfl
          refine wpAnyH_ready (rs := [14]) (by kernel_rfl) (by simp) ?_
          refine AllReadyH.cons rfl (fun K hK => ?_) AllReadyH.nil
          go_simp
          clear hHeld
          refine hK.out _ _ ?_ (fun hHeld => ?_)
          · exact ⟨⟨((b2w.alloc b2w.size _).cell (p := ⟨b, _, none⟩) hb0).trans c0w, ((b2w.alloc b2w.size _).cell (p := ⟨b, _, none⟩) hb0).trans c1w⟩, (x2.alloc _).cells.1⟩
          clear hK K
          have hj2 : j = w5.heap.size ∨ j = w5.heap.size + 1 := by rcases hj with e | e; (exact .inl e); (exact .inr (e.trans (World.size_alloc w5 (.cells #[] 34))))
          have hjV : w5.heap.size ≤ j := by omega
          have hjl : w.heap.size < j ∧ j < w2.heap.size := ⟨by omega, hcv.le⟩
          have eL : (w2.alloc (.cells #[.string rs, .slice qa gn qc] 31)).heap.size = w2.heap.size + 1 := World.size_alloc _ _
          have hBL : B ≤ (w2.alloc (.cells #[.string rs, .slice qa gn qc] 31)).heap.size := by have := b2w.size; omega
          have hqL := (NamK.Box2.new w2 (.string rs) (.slice qa gn qc) 31).cells
          have o3 := o2.next ((Below.refl w2.heap.size w2).alloc (Nat.le_refl _) (.cells #[.string rs, .slice qa gn qc] 31))
          have u3 : OwnT B (w2.alloc (.cells #[.string rs, .slice qa gn qc] 31)) (.slice qa gn qc) rg := own_base (hcv.alloc _).now.1 (by omega)
          refine wpAnyH_ready (rs := [15]) (by kernel_rfl) (by simp) ?_
          refine AllReadyH.cons rfl (fun K hK => ?_) AllReadyH.nil
          refine upon_moreN (B := B) (t := (rs, rg)) (u := .slice qa gn qc) _ _ (by rfl) (by rfl) o3 hBL w2.heap.size (by rfl) hqL u3 (fun y hy i hi e => by have h1 := (HOb.out.lt y hy i hi).2; rw [hjo] at e; have := Option.some.inj e; omega) (fun i hi e => by have h1 := (World.ownsRow.lt HOb.out.1 i e).2; rw [hjo] at hi; have := Option.some.inj hi; omega) hmlb ?_
          intro v4 w4 o4 hg4 hat4
          have x4 : NamK.Box2 w4 w.heap.size (.string s) (.slice xa xn xc) 31 := (hg4.block _ (x2.alloc _).lt (fun e => Nat.lt_irrefl _ (HVb.out _ e.symm))).trans (x2.alloc _)
          have b4 := (b2w.alloc b2w.size (.cells #[.string rs, .slice qa gn qc] 31)).grown hg4 (b2w.alloc b2w.size _).size (fun i hi => Nat.le_of_lt (HVb.out i hi))
          have hv4 : ∀ i, v4.ownBlock = some i → w.heap.size < i := by
            intro i hi
            rcases hat4 with e | e
            · exact HVb.out i (e ▸ hi)
            · rw [e] at hi; have h9 := Option.some.inj hi; have := b2w.size; omega
          have cell4 : ∀ p : Addr, p.block < w.heap.size → w4.cell? p = w.cell? p := fun p hp => b4.cell hp
          clear hHeld
          refine hK.out _ _ ?_ (fun hHeld => ?_)
          · exact ⟨⟨(cell4 ⟨b, _, none⟩ hb0).trans c0w, (cell4 ⟨b, _, none⟩ hb0).trans c1w⟩, x4.cells.1⟩
          clear hK K
          refine wpAnyH_take (i := 16) (v := ?_) rfl (by kernel_rfl) (by kernel_rfl) (by kernel_rfl) (fun _ _ _ h => h) (Or.inl ⟨by kernel_rfl, ?_⟩) (by assumption) ?_
          rotate_left
          · intro w hSw; (try dsimp only at hSw); go_simp; try with_reducible rfl
          refine wpAnyH_done (by kernel_rfl) ?_ _
          try simp only [Act.put, List.setIfInBounds_toArray, List.set_cons_zero, List.set_cons_succ, List.getElem_toArray, List.getElem_cons_zero, List.getElem_cons_succ]
          have I4 : Hid (PutI B w.heap.size w4 v4 true ((L ++ [(s, g)]) ++ [(rs, rg)]) ((us ++ [.slice xa xn xc]) ++ [.slice qa gn qc]) (s, g) ts (k + 1)) := Lib.hid (HI.out.both HT.out hne hless o4 hv4)
          have HX4 := Lib.hid x4
          clear hHeld o4 hg4 hat4 x4 hv4 cell4 x2 o2 o3 u3 b2w hcv htu HA bW HZ HI HX2 HXb HOb HVb hnb c0 c1 c0w c1w d0 d1 z0
          go_wp2_with fail
          go_roundw
          case rel => exact ⟨k + 1, _, true, _, _, by omega, by go_num, rfl, rfl, I4, HX4, b4⟩
          case measure => simp [intOf]; omega
        · have hnl : lessN (s, g) (rs, rg) = false := by simpa using hless
          by_cases hes : rs = s
          · have E1 := bytes_is hes
            have E3 : Op.bytesLess rs.toList s.toList = false := by rw [hes]; exact ltb_irrefl _
            go_wp2_with fail
            refine wp_region_held_drew (S := (fun w' => (w'.cell? ⟨b, off + k * 2, none⟩ = some (.string rs) ∧ w'.cell? ⟨b, off + k * 2 + 1, none⟩ = some (.slice ga gn gc)) ∧ w'.cell? ⟨w.heap.size, 0, none⟩ = some (.string s))) (by kernel_rfl) ?_ (fun hHeld => ?_)
            · exact ⟨⟨c0, c1⟩, x0⟩
            refine wpAnyH_take (i := 0) (v := ?_) rfl (by kernel_rfl) (by kernel_rfl) (by kernel_rfl) (fun _ _ _ h => h) (Or.inl ⟨by kernel_rfl, ?_⟩) (by assumption) ?_
            rotate_left
            · intro w hSw; (try dsimp only at hSw); go_simp; try with_reducible rfl
            refine wpAnyH_take (i := 1) (v := ?_) rfl (by kernel_rfl) (by kernel_rfl) (by kernel_rfl) (fun _ _ _ h => h) (Or.inl ⟨by kernel_rfl, ?_⟩) (by assumption) ?_
            rotate_left
            · intro w hSw; (try dsimp only at hSw); go_simp; try with_reducible rfl
            refine wpAnyH_take (i := 2) (v := ?_) rfl (by kernel_rfl) (by kernel_rfl) (by kernel_rfl) (fun _ _ _ h => h) (Or.inl ⟨by kernel_rfl, ?_⟩) (by assumption) ?_
            rotate_left
            · intro w hSw; (try dsimp only at hSw); go_simp; try with_reducible rfl
            refine wpAnyH_take (i := 3) (v := ?_) rfl (by kernel_rfl) (by kernel_rfl) (by kernel_rfl) (fun _ _ _ h => h) (Or.inl ⟨by kernel_rfl, ?_⟩) (by assumption) ?_
            rotate_left
            · intro w hSw; (try dsimp only at hSw); go_simp; try with_reducible rfl
            refine wpAnyH_take (i := 4) (v := ?_) rfl (by kernel_rfl) (by kernel_rfl) (by kernel_rfl) (fun _ _ _ h => h) (Or.inl ⟨by kernel_rfl, ?_⟩) (by assumption) ?_
            rotate_left
            · intro w hSw; (try dsimp only at hSw); go_simp; try with_reducible rfl
            refine wpAnyH_take (i := 5) (v := ?_) rfl (by kernel_rfl) (by kernel_rfl) (by kernel_rfl) (fun _ _ _ h => h) (Or.inl ⟨by kernel_rfl, ?_⟩) (by assumption) ?_
            rotate_left
            · intro w hSw; (try dsimp only at hSw); go_simp; try with_reducible rfl
            refine wpAnyH_take (i := 6) (v := ?_) rfl (by kernel_rfl) (by kernel_rfl) (by kernel_rfl) (fun _ _ _ h => h) (Or.inl ⟨by kernel_rfl, ?_⟩) (by assumption) ?_
            rotate_left
            · intro w hSw; (try dsimp only at hSw); go_simp; try with_reducible rfl
            refine wpAnyH_take (i := 7) (v := ?_) rfl (by kernel_rfl) (by kernel_rfl) (by kernel_rfl) (fun _ _ _ h => h) (Or.inl ⟨by kernel_rfl, ?_⟩) (by assumption) ?_
            rotate_left
            · intro w hSw; (try dsimp only at hSw); go_simp; try with_reducible rfl
            refine wpAnyH_take (i := 8) (v := ?_) rfl (by kernel_rfl) (by kernel_rfl) (by kernel_rfl) (fun _ _ _ h => h) (Or.inl ⟨by kernel_rfl, ?_⟩) (by assumption) ?_
            rotate_left
            · intro w hSw; (try dsimp only at hSw); go_simp; try with_reducible rfl
            refine wpAnyH_take (i := 9) (v := ?_) rfl (by kernel_rfl) (by kernel_rfl) (by kernel_rfl) (fun _ _ _ h => h) (Or.inl ⟨by kernel_rfl, ?_⟩) (by assumption) ?_
            rotate_left
            · intro w hSw; (try dsimp only at hSw); go_simp; try with_reducible rfl
            refine wpAnyH_take (i := 10) (v := ?_) rfl (by kernel_rfl) (by kernel_rfl) (by kernel_rfl) (fun _ _ _ h => h) (Or.inl ⟨by kernel_rfl, ?_⟩) (by assumption) ?_
            rotate_left
            · intro w hSw; (try dsimp only at hSw); go_simp; try with_reducible rfl
            refine wpAnyH_take (i := 11) (v := ?_) rfl (by kernel_rfl) (by kernel_rfl) (by kernel_rfl) (fun _ _ _ h => h) (Or.inl ⟨by kernel_rfl, ?_⟩) (by assumption) ?_
            rotate_left
            · intro w hSw; (try dsimp only at hSw); go_simp; try with_reducible rfl
            refine wpAnyH_done (by kernel_rfl) ?_ _
            try simp only [Act.put, List.setIfInBounds_toArray, List.set_cons_zero, List.set_cons_succ, List.getElem_toArray, List.getElem_cons_zero, List.getElem_cons_succ]
            have HOb : Hid (OutN B (World.drew wr) v L us) := Lib.hid (by exact HI.out.1)
            have HXb : Hid (NamK.Box2 (World.drew wr) w.heap.size (.string s) (.slice xa xn xc) 31) := Lib.hid (by exact HX2.out)
            have hnb : Below w.heap.size w (World.drew wr) := hnx.drew
            have hmlb : (L).length ≤ 1048576 := by have := HML.out; omega
            have HVb : Hid (∀ j, v.ownBlock = some j → w.heap.size < j) := Lib.hid (HVB.out)
            have d0 : (World.drew wr).cell? ⟨b, off + k * 2, none⟩ = some (.string rs) := (hnb.cell (p := ⟨b, _, none⟩) hb0).trans c0w
            have d1 : (World.drew wr).cell? ⟨b, off + k * 2 + 1, none⟩ = some (.slice ga gn gc) := (hnb.cell (p := ⟨b, _, none⟩) hb0).trans c1w
            have z0 := HXb.out.cells.1
            go_wp2_with fail
            refine wp_region_held_drew (S := (fun w' => (w'.cell? ⟨b, off + k * 2, none⟩ = some (.string rs) ∧ w'.cell? ⟨b, off + k * 2 + 1, none⟩ = some (.slice ga gn gc)) ∧ w'.cell? ⟨w.heap.size, 0, none⟩ = some (.string s))) (by kernel_rfl) ?_ (fun hHeld => ?_)
            · exact ⟨⟨d0, d1⟩, z0⟩
            refine wpAnyH_take (i := 0) (v := ?_) rfl (by kernel_rfl) (by kernel_rfl) (by kernel_rfl) (fun _ _ _ h => h) (Or.inl ⟨by kernel_rfl, ?_⟩) (by assumption) ?_
            rotate_left
            · intro w hSw; (try dsimp only at hSw); go_simp; try with_reducible rfl
            refine wpAnyH_take (i := 1) (v := ?_) rfl (by kernel_rfl) (by kernel_rfl) (by kernel_rfl) (fun _ _ _ h => h) (Or.inl ⟨by kernel_rfl, ?_⟩) (by assumption) ?_
            rotate_left
            · intro w hSw; (try dsimp only at hSw); go_simp; try with_reducible rfl
            refine wpAnyH_take (i := 2) (v := ?_) rfl (by kernel_rfl) (by kernel_rfl) (by kernel_rfl) (fun _ _ _ h => h) (Or.inl ⟨by kernel_rfl, ?_⟩) (by assumption) ?_
            rotate_left
            · intro w hSw; (try dsimp only at hSw); go_simp; try with_reducible rfl
            refine wpAnyH_take (i := 3) (v := ?_) rfl (by kernel_rfl) (by kernel_rfl) (by kernel_rfl) (fun _ _ _ h => h) (Or.inl ⟨by kernel_rfl, ?_⟩) (by assumption) ?_
            rotate_left
            · intro w hSw; (try dsimp only at hSw); go_simp; try with_reducible rfl
            refine wpAnyH_take (i := 4) (v := ?_) rfl (by kernel_rfl) (by kernel_rfl) (by kernel_rfl) (fun _ _ _ h => h) (Or.inl ⟨by kernel_rfl, ?_⟩) (by assumption) ?_
            rotate_left
            · intro w hSw; (try dsimp only at hSw); go_simp; try with_reducible rfl
            refine wpAnyH_take (i := 5) (v := ?_) rfl (by kernel_rfl) (by kernel_rfl) (by kernel_rfl) (fun _ _ _ h => h) (Or.inl ⟨by kernel_rfl, ?_⟩) (by assumption) ?_
            rotate_left
            · intro w hSw; (try dsimp only at hSw); go_simp; try with_reducible rfl
            refine wpAnyH_take (i := 6) (v := ?_) rfl (by kernel_rfl) (by kernel_rfl) (by kernel_rfl) (fun _ _ _ h => h) (Or.inl ⟨by kernel_rfl, ?_⟩) (by assumption) ?_
            rotate_left
            · intro w hSw; (try dsimp only at hSw); go_simp; try with_reducible rfl
            refine wpAnyH_take (i := 7) (v := ?_) rfl (by kernel_rfl) (by kernel_rfl) (by kernel_rfl) (fun _ _ _ h => h) (Or.inl ⟨by kernel_rfl, ?_⟩) (by assumption) ?_
            rotate_left
            · intro w hSw; (try dsimp only at hSw); go_simp; try with_reducible rfl
            refine wpAnyH_done (by kernel_rfl) ?_ _
            try simp only [Act.put, List.setIfInBounds_toArray, List.set_cons_zero, List.set_cons_succ, List.getElem_toArray, List.getElem_cons_zero, List.getElem_cons_succ]
            have I4 : Hid (PutI B w.heap.size (World.drew (World.drew wr)) v false L us (s, g) ts (k + 1)) := Lib.hid (PutI.skip (by exact HI.out) HT.out hes (.inr hnl))
            have HX4 : Hid (NamK.Box2 (World.drew (World.drew wr)) w.heap.size (.string s) (.slice xa xn xc) 31) := HX2
            have b4 := hnb.drew
            clear hHeld HI HX2 HXb HOb HVb hnb c0 c1 c0w c1w d0 d1 z0 HZ
            go_wp2_with fail
            go_roundw
            case rel => exact ⟨k + 1, _, false, _, _, by omega, by go_num, rfl, rfl, I4, HX4, b4⟩
            case measure => simp [intOf]; omega
          · have E1 := bytes_not hes
            have E3 : Op.bytesLess rs.toList s.toList = true := by
              rcases cmp_cases rs.toList s.toList with ⟨_, h⟩ | ⟨_, h⟩ | ⟨_, h⟩
              · exact h
              · rw [h] at E1; simp at E1
              · have h2 : Op.bytesLess s.toList rs.toList = false := hnl
                rw [h2] at h; cases h
            go_wp2_with fail
            refine wp_region_held_drew (S := (fun w' => (w'.cell? ⟨b, off + k * 2, none⟩ = some (.string rs) ∧ w'.cell? ⟨b, off + k * 2 + 1, none⟩ = some (.slice ga gn gc)) ∧ w'.cell? ⟨w.heap.size, 0, none⟩ = some (.string s))) (by kernel_rfl) ?_ (fun hHeld => ?_)
            · exact ⟨⟨c0, c1⟩, x0⟩
            refine wpAnyH_take (i := 0) (v := ?_) rfl (by kernel_rfl) (by kernel_rfl) (by kernel_rfl) (fun _ _ _ h => h) (Or.inl ⟨by kernel_rfl, ?_⟩) (by assumption) ?_
            rotate_left
            · intro w hSw; (try dsimp only at hSw); go_simp; try with_reducible rfl
            refine wpAnyH_take (i := 1) (v := ?_) rfl (by kernel_rfl) (by kernel_rfl) (by kernel_rfl) (fun _ _ _ h => h) (Or.inl ⟨by kernel_rfl, ?_⟩) (by assumption) ?_
            rotate_left
            · intro w hSw; (try dsimp only at hSw); go_simp; try with_reducible rfl
            refine wpAnyH_take (i := 2) (v := ?_) rfl (by kernel_rfl) (by kernel_rfl) (by kernel_rfl) (fun _ _ _ h => h) (Or.inl ⟨by kernel_rfl, ?_⟩) (by assumption) ?_
            rotate_left
            · intro w hSw; (try dsimp only at hSw); go_simp; try with_reducible rfl
            refine wpAnyH_take (i := 3) (v := ?_) rfl (by kernel_rfl) (by kernel_rfl) (by kernel_rfl) (fun _ _ _ h => h) (Or.inl ⟨by kernel_rfl, ?_⟩) (by assumption) ?_
            rotate_left
            · intro w hSw; (try dsimp only at hSw); go_simp; try with_reducible rfl
            refine wpAnyH_take (i := 4) (v := ?_) rfl (by kernel_rfl) (by kernel_rfl) (by kernel_rfl) (fun _ _ _ h => h) (Or.inl ⟨by kernel_rfl, ?_⟩) (by assumption) ?_
            rotate_left
            · intro w hSw; (try dsimp only at hSw); go_simp; try with_reducible rfl
            refine wpAnyH_take (i := 5) (v := ?_) rfl (by kernel_rfl) (by kernel_rfl) (by kernel_rfl) (fun _ _ _ h => h) (Or.inl ⟨by kernel_rfl, ?_⟩) (by assumption) ?_
            rotate_left
            · intro w hSw; (try dsimp only at hSw); go_simp; try with_reducible rfl
            refine wpAnyH_take (i := 6) (v := ?_) rfl (by kernel_rfl) (by kernel_rfl) (by kernel_rfl) (fun _ _ _ h => h) (Or.inl ⟨by kernel_rfl, ?_⟩) (by assumption) ?_
            rotate_left
            · intro w hSw; (try dsimp only at hSw); go_simp; try with_reducible rfl
            refine wpAnyH_take (i := 7) (v := ?_) rfl (by kernel_rfl) (by kernel_rfl) (by kernel_rfl) (fun _ _ _ h => h) (Or.inl ⟨by kernel_rfl, ?_⟩) (by assumption) ?_
            rotate_left
            · intro w hSw; (try dsimp only at hSw); go_simp; try with_reducible rfl
            refine wpAnyH_take (i := 8) (v := ?_) rfl (by kernel_rfl) (by kernel_rfl) (by kernel_rfl) (fun _ _ _ h => h) (Or.inl ⟨by kernel_rfl, ?_⟩) (by assumption) ?_
            rotate_left
            · intro w hSw; (try dsimp only at hSw); go_simp; try with_reducible rfl
            refine wpAnyH_take (i := 9) (v := ?_) rfl (by kernel_rfl) (by kernel_rfl) (by kernel_rfl) (fun _ _ _ h => h) (Or.inl ⟨by kernel_rfl, ?_⟩) (by assumption) ?_
            rotate_left
            · intro w hSw; (try dsimp only at hSw); go_simp; try with_reducible rfl
            refine wpAnyH_take (i := 10) (v := ?_) rfl (by kernel_rfl) (by kernel_rfl) (by kernel_rfl) (fun _ _ _ h => h) (Or.inl ⟨by kernel_rfl, ?_⟩) (by assumption) ?_
            rotate_left
            · intro w hSw; (try dsimp only at hSw); go_simp; try with_reducible rfl
            refine wpAnyH_take (i := 11) (v := ?_) rfl (by kernel_rfl) (by kernel_rfl) (by kernel_rfl) (fun _ _ _ h => h) (Or.inl ⟨by kernel_rfl, ?_⟩) (by assumption) ?_
            rotate_left
            · intro w hSw; (try dsimp only at hSw); go_simp; try with_reducible rfl
            refine wpAnyH_done (by kernel_rfl) ?_ _
            try simp only [Act.put, List.setIfInBounds_toArray, List.set_cons_zero, List.set_cons_succ, List.getElem_toArray, List.getElem_cons_zero, List.getElem_cons_succ]
            have HOb : Hid (OutN B (World.drew wr) v L us) := Lib.hid (by exact HI.out.1)
            have HXb : Hid (NamK.Box2 (World.drew wr) w.heap.size (.string s) (.slice xa xn xc) 31) := Lib.hid (by exact HX2.out)
            have hnb : Below w.heap.size w (World.drew wr) := hnx.drew
            have hmlb : (L).length ≤ 1048576 := by have := HML.out; omega
            have HVb : Hid (∀ j, v.ownBlock = some j → w.heap.size < j) := Lib.hid (HVB.out)
            have d0 : (World.drew wr).cell? ⟨b, off + k * 2, none⟩ = some (.string rs) := (hnb.cell (p := ⟨b, _, none⟩) hb0).trans c0w
            have d1 : (World.drew wr).cell? ⟨b, off + k * 2 + 1, none⟩ = some (.slice ga gn gc) := (hnb.cell (p := ⟨b, _, none⟩) hb0).trans c1w
            have z0 := HXb.out.cells.1
            go_wp2_with fail
            refine wp_region_held_drew (S := (fun w' => (w'.cell? ⟨b, off + k * 2, none⟩ = some (.string rs) ∧ w'.cell? ⟨b, off + k * 2 + 1, none⟩ = some (.slice ga gn gc)) ∧ w'.cell? ⟨w.heap.size, 0, none⟩ = some (.string s))) (by kernel_rfl) ?_ (fun hHeld => ?_)
            · exact ⟨⟨d0, d1⟩, z0⟩
            refine wpAnyH_take (i := 0) (v := ?_) rfl (by kernel_rfl) (by kernel_rfl) (by kernel_rfl) (fun _ _ _ h => h) (Or.inl ⟨by kernel_rfl, ?_⟩) (by assumption) ?_
            rotate_left
            · intro w hSw; (try dsimp only at hSw); go_simp; try with_reducible rfl
            refine wpAnyH_take (i := 1) (v := ?_) rfl (by kernel_rfl) (by kernel_rfl) (by kernel_rfl) (fun _ _ _ h => h) (Or.inl ⟨by kernel_rfl, ?_⟩) (by assumption) ?_
            rotate_left
            · intro w hSw; (try dsimp only at hSw); go_simp; try with_reducible rfl
            refine wpAnyH_take (i := 2) (v := ?_) rfl (by kernel_rfl) (by kernel_rfl) (by kernel_rfl) (fun _ _ _ h => h) (Or.inl ⟨by kernel_rfl, ?_⟩) (by assumption) ?_
            rotate_left
            · intro w hSw; (try dsimp only at hSw); go_simp; try with_reducible rfl
            refine wpAnyH_take (i := 3) (v := ?_) rfl (by kernel_rfl) (by kernel_rfl) (by kernel_rfl) (fun _ _ _ h => h) (Or.inl ⟨by kernel_rfl, ?_⟩) (by assumption) ?_
            rotate_left
            · intro w hSw; (try dsimp only at hSw); go_simp; try with_reducible rfl
            refine wpAnyH_take (i := 4) (v := ?_) rfl (by kernel_rfl) (by kernel_rfl) (by kernel_rfl) (fun _ _ _ h => h) (Or.inl ⟨by kernel_rfl, ?_⟩) (by assumption) ?_
            rotate_left
            · intro w hSw; (try dsimp only at hSw); go_simp; try with_reducible rfl
            refine wpAnyH_take (i := 5) (v := ?_) rfl (by kernel_rfl) (by kernel_rfl) (by kernel_rfl) (fun _ _ _ h => h) (Or.inl ⟨by kernel_rfl, ?_⟩) (by assumption) ?_
            rotate_left
            · intro w hSw; (try dsimp only at hSw); go_simp; try with_reducible rfl
            refine wpAnyH_take (i := 6) (v := ?_) rfl (by kernel_rfl) (by kernel_rfl) (by kernel_rfl) (fun _ _ _ h => h) (Or.inl ⟨by kernel_rfl, ?_⟩) (by assumption) ?_
            rotate_left
            · intro w hSw; (try dsimp only at hSw); go_simp; try with_reducible rfl
            refine wpAnyH_take (i := 7) (v := ?_) rfl (by kernel_rfl) (by kernel_rfl) (by kernel_rfl) (fun _ _ _ h => h) (Or.inl ⟨by kernel_rfl, ?_⟩) (by assumption) ?_
            rotate_left
            · intro w hSw; (try dsimp only at hSw); go_simp; try with_reducible rfl
            refine wpAnyH_done (by kernel_rfl) ?_ _
            try simp only [Act.put, List.setIfInBounds_toArray, List.set_cons_zero, List.set_cons_succ, List.getElem_toArray, List.getElem_cons_zero, List.getElem_cons_succ]
            go_wp2_with fail
            have hxb : w.heap.size < (World.drew wr).heap.size := HXb.out.lt
            have bW : Below w.heap.size w (World.alloc (World.drew (World.drew (World.drew wr))) (.cells #[] 34)) := (hnb.drew.drew).alloc (by exact hnb.size) _
            have HA := Lib.hid (cells_new (World.drew (World.drew (World.drew wr))) #[] 34).now
            refine wp_region_held_drew (S := (fun w' => (w'.cell? ⟨b, off + k * 2, none⟩ = some (.string rs) ∧ w'.cell? ⟨b, off + k * 2 + 1, none⟩ = some (.slice ga gn gc)) ∧ w'.cell? ⟨w.heap.size, 0, none⟩ = some (.string s))) (by kernel_rfl) ?_ (fun hHeld => ?_)
            · exact ⟨⟨d0, d1⟩, z0⟩
            refine wpAnyH_take (i := 0) (v := ?_) rfl (by kernel_rfl) (by kernel_rfl) (by kernel_rfl) (fun _ _ _ h => h) (Or.inl ⟨by kernel_rfl, ?_⟩) (by assumption) ?_
            rotate_left
            · intro w hSw; (try dsimp only at hSw); go_simp; try with_reducible rfl
            refine wpAnyH_take (i := 1) (v := ?_) rfl (by kernel_rfl) (by kernel_rfl) (by kernel_rfl) (fun _ _ _ h => h) (Or.inl ⟨by kernel_rfl, ?_⟩) (by assumption) ?_
            rotate_left
            · intro w hSw; (try dsimp only at hSw); go_simp; try with_reducible rfl
            refine wpAnyH_take (i := 2) (v := ?_) rfl (by kernel_rfl) (by kernel_rfl) (by kernel_rfl) (fun _ _ _ h => h) (Or.inl ⟨by kernel_rfl, ?_⟩) (by assumption) ?_
            rotate_left
            · intro w hSw; (try dsimp only at hSw); go_simp; try with_reducible rfl
            refine wpAnyH_take (i := 3) (v := ?_) rfl (by kernel_rfl) (by kernel_rfl) (by kernel_rfl) (fun _ _ _ h => h) (Or.inl ⟨by kernel_rfl, ?_⟩) (by assumption) ?_
            rotate_left
            · intro w hSw; (try dsimp only at hSw); go_simp; try with_reducible rfl
            refine wpAnyH_take (i := 4) (v := ?_) rfl (by kernel_rfl) (by kernel_rfl) (by kernel_rfl) (fun _ _ _ h => h) (Or.inl ⟨by kernel_rfl, ?_⟩) (by assumption) ?_
            rotate_left
            · intro w hSw; (try dsimp only at hSw); go_simp; try with_reducible rfl
            refine wpAnyH_take (i := 5) (v := ?_) rfl (by kernel_rfl) (by kernel_rfl) (by kernel_rfl) (fun _ _ _ h => h) (Or.inl ⟨by kernel_rfl, ?_⟩) (by assumption) ?_
            rotate_left
            · intro w hSw; (try dsimp only at hSw); go_simp; try with_reducible rfl
            refine wpAnyH_take (i := 7) (v := ?_) rfl (by kernel_rfl) (by kernel_rfl) (by kernel_rfl) (fun _ _ _ h => h) (Or.inl ⟨by kernel_rfl, ?_⟩) (by assumption) ?_
            rotate_left
            · intro w hSw; (try dsimp only at hSw); go_simp; try with_reducible rfl
            refine wpAnyH_take (i := 8) (v := ?_) rfl (by kernel_rfl) (by kernel_rfl) (by kernel_rfl) (fun _ _ _ h => h) (Or.inl ⟨by kernel_rfl, ?_⟩) (by assumption) ?_
            rotate_left
            · intro w hSw; (try dsimp only at hSw); go_simp; try with_reducible rfl
            refine wpAnyH_take (i := 9) (v := ?_) rfl (by kernel_rfl) (by kernel_rfl) (by kernel_rfl) (fun _ _ _ h => h) (Or.inl ⟨by kernel_rfl, ?_⟩) (by assumption) ?_
            rotate_left
            · intro w hSw; (try dsimp only at hSw); go_simp; try with_reducible rfl
            refine wpAnyH_take (i := 10) (v := ?_) rfl (by kernel_rfl) (by kernel_rfl) (by kernel_rfl) (fun _ _ _ h => h) (Or.inl ⟨by kernel_rfl, ?_⟩) (by assumption) ?_
            rotate_left
            · intro w hSw; (try dsimp only at hSw); go_simp; try with_reducible rfl
            refine wpAnyH_take (i := 11) (v := ?_) rfl (by kernel_rfl) (by kernel_rfl) (by kernel_rfl) (fun _ _ _ h => h) (Or.inl ⟨by kernel_rfl, ?_⟩) (by assumption) ?_
            rotate_left
            · intro w hSw; (try dsimp only at hSw); go_simp; try with_reducible rfl
            refine wpAnyH_ready (rs := [6]) (by kernel_rfl) (by simp) ?_
            refine AllReadyH.cons rfl (fun K hK => ?_) AllReadyH.nil
            go_simp
            clear hHeld
            refine hK.out _ _ ?_ (fun hHeld => ?_)
            · exact ⟨⟨(bW.cell (p := ⟨b, _, none⟩) hb0).trans c0w, (bW.cell (p := ⟨b, _, none⟩) hb0).trans c1w⟩, ((HXb.out.next ((Below.refl _ _).drew.drew)).alloc _).cells.1⟩
            clear hK K
            refine wpAnyH_ready (rs := [12]) (by kernel_rfl) (by simp) ?_
            refine AllReadyH.cons rfl (fun K hK => ?_) AllReadyH.nil
            refine upon_copyN _ _ (by rfl) _ (by rfl) HA.out ga gn gc rg (by rfl) (HZ.out.next bW) (by omega) ?_
            intro cv w2 j hj hjo hcv htu
            obtain ⟨qa, qc, hqe⟩ := own_slice_len hcv.now.1
            rw [hgn] at hqe
            subst hqe
            have hs1 : (World.drew (World.drew (World.drew wr))).heap.size ≤ (World.alloc (World.drew (World.drew (World.drew wr))) (.cells #[] 34)).heap.size := by rw [World.size_alloc]; exact Nat.le_succ _
            have b12 : Below (World.drew (World.drew (World.drew wr))).heap.size (World.drew (World.drew (World.drew wr))) w2 := ((Below.refl (World.drew (World.drew (World.drew wr))).heap.size (World.drew (World.drew (World.drew wr)))).alloc (Nat.le_refl _) _).trans (htu.below hs1 (Nat.le_refl _))
            have bb2 : Below (World.drew wr).heap.size (World.drew wr) w2 := ((Below.refl (World.drew wr).heap.size (World.drew wr)).drew.drew).trans (by exact b12)
            have b2w : Below w.heap.size w w2 := hnb.trans (bb2.mono hnb.size)
            have o2 : OutN B w2 v L us := HOb.out.next bb2
            have x2 := HXb.out.next bb2
            clear hHeld
            refine hK.out _ _ ?_ (fun hHeld => ?_)
            · exact ⟨⟨(b2w.cell (p := ⟨b, _, none⟩) hb0).trans c0w, (b2w.cell (p := ⟨b, _, none⟩) hb0).trans c1w⟩, x2.cells.1⟩
            clear hK K
            refine wpAnyH_take (i := 13) (v := ?_) rfl (by kernel_rfl) (by kernel_rfl) (by kernel_rfl) (fun _ _ _ h => h) (Or.inl ⟨by kernel_rfl, ?_⟩) (by assumption) ?_
            rotate_left
            · intro w hSw; (try dsimp only at hSw); go_simp; try with_reducible rfl
            refine wpAnyH_ready (rs := [14]) (by kernel_rfl) (by simp) ?_
            refine AllReadyH.cons rfl (fun K hK => ?_) AllReadyH.nil
            go_simp
            clear hHeld
            refine hK.out _ _ ?_ (fun hHeld => ?_)
            · exact ⟨⟨((b2w.alloc b2w.size _).cell (p := ⟨b, _, none⟩) hb0).trans c0w, ((b2w.alloc b2w.size _).cell (p := ⟨b, _, none⟩) hb0).trans c1w⟩, (x2.alloc _).cells.1⟩
            clear hK K
            have hj2 : j = (World.drew wr).heap.size ∨ j = (World.drew wr).heap.size + 1 := by rcases hj with e | e; (exact .inl e); (exact .inr (e.trans (World.size_alloc (World.drew wr) (.cells #[] 34))))
            have hjV : (World.drew wr).heap.size ≤ j := by omega
            have hjl : w.heap.size < j ∧ j < w2.heap.size := ⟨by omega, hcv.le⟩
            have eL : (w2.alloc (.cells #[.string rs, .slice qa gn qc] 31)).heap.size = w2.heap.size + 1 := World.size_alloc _ _
            have hBL : B ≤ (w2.alloc (.cells #[.string rs, .slice qa gn qc] 31)).heap.size := by have := b2w.size; omega
            have hqL := (NamK.Box2.new w2 (.string rs) (.slice qa gn qc) 31).cells
            have o3 := o2.next ((Below.refl w2.heap.size w2).alloc (Nat.le_refl _) (.cells #[.string rs, .slice qa gn qc] 31))
            have u3 : OwnT B (w2.alloc (.cells #[.string rs, .slice qa gn qc] 31)) (.slice qa gn qc) rg := own_base (hcv.alloc _).now.1 (by omega)
            refine wpAnyH_ready (rs := [15]) (by kernel_rfl) (by simp) ?_
            refine AllReadyH.cons rfl (fun K hK => ?_) AllReadyH.nil
            refine upon_moreN (B := B) (t := (rs, rg)) (u := .slice qa gn qc) _ _ (by rfl) (by rfl) o3 hBL w2.heap.size (by rfl) hqL u3 (fun y hy i hi e => by have h1 := (HOb.out.lt y hy i hi).2; rw [hjo] at e; have := Option.some.inj e; omega) (fun i hi e => by have h1 := (World.ownsRow.lt HOb.out.1 i e).2; rw [hjo] at hi; have := Option.some.inj hi; omega) hmlb ?_
            intro v4 w4 o4 hg4 hat4
            have x4 : NamK.Box2 w4 w.heap.size (.string s) (.slice xa xn xc) 31 := (hg4.block _ (x2.alloc _).lt (fun e => Nat.lt_irrefl _ (HVb.out _ e.symm))).trans (x2.alloc _)
            have b4 := (b2w.alloc b2w.size (.cells #[.string rs, .slice qa gn qc] 31)).grown hg4 (b2w.alloc b2w.size _).size (fun i hi => Nat.le_of_lt (HVb.out i hi))
            have hv4 : ∀ i, v4.ownBlock = some i → w.heap.size < i := by
              intro i hi
              rcases hat4 with e | e
              · exact HVb.out i (e ▸ hi)
              · rw [e] at hi; have h9 := Option.some.inj hi; have := b2w.size; omega
            have cell4 : ∀ p : Addr, p.block < w.heap.size → w4.cell? p = w.cell? p := fun p hp => b4.cell hp
            clear hHeld
            refine hK.out _ _ ?_ (fun hHeld => ?_)
            · exact ⟨⟨(cell4 ⟨b, _, none⟩ hb0).trans c0w, (cell4 ⟨b, _, none⟩ hb0).trans c1w⟩, x4.cells.1⟩
            clear hK K
            refine wpAnyH_take (i := 16) (v := ?_) rfl (by kernel_rfl) (by kernel_rfl) (by kernel_rfl) (fun _ _ _ h => h) (Or.inl ⟨by kernel_rfl, ?_⟩) (by assumption) ?_
            rotate_left
            · intro w hSw; (try dsimp only at hSw); go_simp; try with_reducible rfl
            refine wpAnyH_done (by kernel_rfl) ?_ _
            try simp only [Act.put, List.setIfInBounds_toArray, List.set_cons_zero, List.set_cons_succ, List.getElem_toArray, List.getElem_cons_zero, List.getElem_cons_succ]
            have I4 : Hid (PutI B w.heap.size w4 v4 false (L ++ [(rs, rg)]) (us ++ [.slice qa gn qc]) (s, g) ts (k + 1)) := Lib.hid (HI.out.copy HT.out hes (.inr hnl) o4 (fun i hi => by rw [hjo] at hi; cases hi; omega) hv4)
            have HX4 := Lib.hid x4
            clear hHeld o4 hg4 hat4 x4 hv4 cell4 x2 o2 o3 u3 b2w hcv htu HA bW HZ HI HX2 HXb HOb HVb hnb c0 c1 c0w c1w d0 d1 z0
            go_wp2_with fail
            go_roundw
            case rel => exact ⟨k + 1, _, false, _, _, by omega, by go_num, rfl, rfl, I4, HX4, b4⟩
            case measure => simp [intOf]; omega
      · go_wp2_with fail
        refine wp_region_any (by kernel_rfl) ?_
        change wpAny _ _ _ _ _ _ _ (World.drew _)
        refine wpAny_take (i := 0) (v := ?_) rfl (by kernel_rfl) (by kernel_rfl) (by kernel_rfl) (fun _ _ _ h => h) (Or.inl ⟨by kernel_rfl, ?_⟩) ?_
        rotate_left
        · intro w; go_simp; try with_reducible rfl
        refine wpAny_take (i := 1) (v := ?_) rfl (by kernel_rfl) (by kernel_rfl) (by kernel_rfl) (fun _ _ _ h => h) (Or.inl ⟨by kernel_rfl, ?_⟩) ?_
        rotate_left
        · intro w; go_simp; try with_reducible rfl
        refine wpAny_take (i := 2) (v := ?_) rfl (by kernel_rfl) (by kernel_rfl) (by kernel_rfl) (fun _ _ _ h => h) (Or.inl ⟨by kernel_rfl, ?_⟩) ?_
        rotate_left
        · intro w; go_simp; try with_reducible rfl
        refine wpAny_take (i := 3) (v := undef) rfl (by kernel_rfl) (by kernel_rfl) (by kernel_rfl) (fun _ _ _ h => h) (Or.inr ⟨by kernel_rfl, rfl⟩) ?_
        refine wpAny_take (i := 4) (v := undef) rfl (by kernel_rfl) (by kernel_rfl) (by kernel_rfl) (fun _ _ _ h => h) (Or.inr ⟨by kernel_rfl, rfl⟩) ?_
        refine wpAny_take (i := 5) (v := undef) rfl (by kernel_rfl) (by kernel_rfl) (by kernel_rfl) (fun _ _ _ h => h) (Or.inr ⟨by kernel_rfl, rfl⟩) ?_
        refine wpAny_take (i := 6) (v := undef) rfl (by kernel_rfl) (by kernel_rfl) (by kernel_rfl) (fun _ _ _ h => h) (Or.inr ⟨by kernel_rfl, rfl⟩) ?_
        refine wpAny_take (i := 7) (v := undef) rfl (by kernel_rfl) (by kernel_rfl) (by kernel_rfl) (fun _ _ _ h => h) (Or.inr ⟨by kernel_rfl, rfl⟩) ?_
        refine wpAny_take (i := 8) (v := undef) rfl (by kernel_rfl) (by kernel_rfl) (by kernel_rfl) (fun _ _ _ h => h) (Or.inr ⟨by kernel_rfl, rfl⟩) ?_
        refine wpAny_take (i := 9) (v := undef) rfl (by kernel_rfl) (by kernel_rfl) (by kernel_rfl) (fun _ _ _ h => h) (Or.inr ⟨by kernel_rfl, rfl⟩) ?_
        refine wpAny_take (i := 10) (v := undef) rfl (by kernel_rfl) (by kernel_rfl) (by kernel_rfl) (fun _ _ _ h => h) (Or.inr ⟨by kernel_rfl, rfl⟩) ?_
        refine wpAny_take (i := 11) (v := ?_) rfl (by kernel_rfl) (by kernel_rfl) (by kernel_rfl) (fun _ _ _ h => h) (Or.inl ⟨by kernel_rfl, ?_⟩) ?_
        rotate_left
        · intro w; go_simp; try with_reducible rfl
        refine wpAny_done (by kernel_rfl) ?_ _
        try simp only [Act.put, List.setIfInBounds_toArray, List.set_cons_zero, List.set_cons_succ, List.getElem_toArray, List.getElem_cons_zero, List.getElem_cons_succ]
        have HOb : Hid (OutN B (World.drew wr) v L us) := Lib.hid (by exact HI.out.1)
        have HXb : Hid (NamK.Box2 (World.drew wr) w.heap.size (.string s) (.slice xa xn xc) 31) := Lib.hid (by exact HX2.out)
        have hnb : Below w.heap.size w (World.drew wr) := hnx.drew
        have hmlb : (L).length ≤ 1048576 := by have := HML.out; omega
        have HVb : Hid (∀ j, v.ownBlock = some j → w.heap.size < j) := Lib.hid (HVB.out)
        have d0 : (World.drew wr).cell? ⟨b, off + k * 2, none⟩ = some (.string rs) := (hnb.cell (p := ⟨b, _, none⟩) hb0).trans c0w
        have d1 : (World.drew wr).cell? ⟨b, off + k * 2 + 1, none⟩ = some (.slice ga gn gc) := (hnb.cell (p := ⟨b, _, none⟩) hb0).trans c1w
        have z0 := HXb.out.cells.1
        by_cases hes : rs = s
        · have E1 := bytes_is hes
          go_wp2_with fail
          refine wp_region_held_drew (S := (fun w' => (w'.cell? ⟨b, off + k * 2, none⟩ = some (.string rs) ∧ w'.cell? ⟨b, off + k * 2 + 1, none⟩ = some (.slice ga gn gc)) ∧ w'.cell? ⟨w.heap.size, 0, none⟩ = some (.string s))) (by kernel_rfl) ?_ (fun hHeld => ?_)
          · exact ⟨⟨d0, d1⟩, z0⟩
          refine wpAnyH_take (i := 0) (v := ?_) rfl (by kernel_rfl) (by kernel_rfl) (by kernel_rfl) (fun _ _ _ h => h) (Or.inl ⟨by kernel_rfl, ?_⟩) (by assumption) ?_
          rotate_left
          · intro w hSw; (try dsimp only at hSw); go_simp; try with_reducible rfl
          refine wpAnyH_take (i := 1) (v := ?_) rfl (by kernel_rfl) (by kernel_rfl) (by kernel_rfl) (fun _ _ _ h => h) (Or.inl ⟨by kernel_rfl, ?_⟩) (by assumption) ?_
          rotate_left
          · intro w hSw; (try dsimp only at hSw); go_simp; try with_reducible rfl
          refine wpAnyH_take (i := 2) (v := ?_) rfl (by kernel_rfl) (by kernel_rfl) (by kernel_rfl) (fun _ _ _ h => h) (Or.inl ⟨by kernel_rfl, ?_⟩) (by assumption) ?_
          rotate_left
          · intro w hSw; (try dsimp only at hSw); go_simp; try with_reducible rfl
          refine wpAnyH_take (i := 3) (v := ?_) rfl (by kernel_rfl) (by kernel_rfl) (by kernel_rfl) (fun _ _ _ h => h) (Or.inl ⟨by kernel_rfl, ?_⟩) (by assumption) ?_
          rotate_left
          · intro w hSw; (try dsimp only at hSw); go_simp; try with_reducible rfl
          refine wpAnyH_take (i := 4) (v := ?_) rfl (by kernel_rfl) (by kernel_rfl) (by kernel_rfl) (fun _ _ _ h => h) (Or.inl ⟨by kernel_rfl, ?_⟩) (by assumption) ?_
          rotate_left
          · intro w hSw; (try dsimp only at hSw); go_simp; try with_reducible rfl
          refine wpAnyH_take (i := 5) (v := ?_) rfl (by kernel_rfl) (by kernel_rfl) (by kernel_rfl) (fun _ _ _ h => h) (Or.inl ⟨by kernel_rfl, ?_⟩) (by assumption) ?_
          rotate_left
          · intro w hSw; (try dsimp only at hSw); go_simp; try with_reducible rfl
          refine wpAnyH_take (i := 6) (v := ?_) rfl (by kernel_rfl) (by kernel_rfl) (by kernel_rfl) (fun _ _ _ h => h) (Or.inl ⟨by kernel_rfl, ?_⟩) (by assumption) ?_
          rotate_left
          · intro w hSw; (try dsimp only at hSw); go_simp; try with_reducible rfl
          refine wpAnyH_take (i := 7) (v := ?_) rfl (by kernel_rfl) (by kernel_rfl) (by kernel_rfl) (fun _ _ _ h => h) (Or.inl ⟨by kernel_rfl, ?_⟩) (by assumption) ?_
          rotate_left
          · intro w hSw; (try dsimp only at hSw); go_simp; try with_reducible rfl
          refine wpAnyH_done (by kernel_rfl) ?_ _
          try simp only [Act.put, List.setIfInBounds_toArray, List.set_cons_zero, List.set_cons_succ, List.getElem_toArray, List.getElem_cons_zero, List.getElem_cons_succ]
          have I4 : Hid (PutI B w.heap.size (World.drew (World.drew wr)) v true L us (s, g) ts (k + 1)) := Lib.hid (PutI.skip (by exact HI.out) HT.out hes (.inl rfl))
          have HX4 : Hid (NamK.Box2 (World.drew (World.drew wr)) w.heap.size (.string s) (.slice xa xn xc) 31) := HX2
          have b4 := hnb.drew
          clear hHeld HI HX2 HXb HOb HVb hnb c0 c1 c0w c1w d0 d1 z0 HZ
          go_wp2_with fail
          go_roundw
          case rel => exact ⟨k + 1, _, true, _, _, by omega, by go_num, rfl, rfl, I4, HX4, b4⟩
          case measure => simp [intOf]; omega
        · have E1 := bytes_not hes
          go_wp2_with fail
          refine wp_region_held_drew (S := (fun w' => (w'.cell? ⟨b, off + k * 2, none⟩ = some (.string rs) ∧ w'.cell? ⟨b, off + k * 2 + 1, none⟩ = some (.slice ga gn gc)) ∧ w'.cell? ⟨w.heap.size, 0, none⟩ = some (.string s))) (by kernel_rfl) ?_ (fun hHeld => ?_)
          · exact ⟨⟨d0, d1⟩, z0⟩
          refine wpAnyH_take (i := 0) (v := ?_) rfl (by kernel_rfl) (by kernel_rfl) (by kernel_rfl) (fun _ _ _ h => h) (Or.inl ⟨by kernel_rfl, ?_⟩) (by assumption) ?_
          rotate_left
          · intro w hSw; (try dsimp only at hSw); go_simp; try with_reducible rfl
          refine wpAnyH_take (i := 1) (v := ?_) rfl (by kernel_rfl) (by kernel_rfl) (by kernel_rfl) (fun _ _ _ h => h) (Or.inl ⟨by kernel_rfl, ?_⟩) (by assumption) ?_
          rotate_left
          · intro w hSw; (try dsimp only at hSw); go_simp; try with_reducible rfl
          refine wpAnyH_take (i := 2) (v := ?_) rfl (by kernel_rfl) (by kernel_rfl) (by kernel_rfl) (fun _ _ _ h => h) (Or.inl ⟨by kernel_rfl, ?_⟩) (by assumption) ?_
          rotate_left
          · intro w hSw; (try dsimp only at hSw); go_simp; try with_reducible rfl
          refine wpAnyH_take (i := 3) (v := ?_) rfl (by kernel_rfl) (by kernel_rfl) (by kernel_rfl) (fun _ _ _ h => h) (Or.inl ⟨by kernel_rfl, ?_⟩) (by assumption) ?_
          rotate_left
          · intro w hSw; (try dsimp only at hSw); go_simp; try with_reducible rfl
          refine wpAnyH_take (i := 4) (v := ?_) rfl (by kernel_rfl) (by kernel_rfl) (by kernel_rfl) (fun _ _ _ h => h) (Or.inl ⟨by kernel_rfl, ?_⟩) (by assumption) ?_
          rotate_left
          · intro w hSw; (try dsimp only at hSw); go_simp; try with_reducible rfl
          refine wpAnyH_take (i := 5) (v := ?_) rfl (by kernel_rfl) (by kernel_rfl) (by kernel_rfl) (fun _ _ _ h => h) (Or.inl ⟨by kernel_rfl, ?_⟩) (by assumption) ?_
          rotate_left
          · intro w hSw; (try dsimp only at hSw); go_simp; try with_reducible rfl
          refine wpAnyH_take (i := 6) (v := ?_) rfl (by kernel_rfl) (by kernel_rfl) (by kernel_rfl) (fun _ _ _ h => h) (Or.inl ⟨by kernel_rfl, ?_⟩) (by assumption) ?_
          rotate_left
          · intro w hSw; (try dsimp only at hSw); go_simp; try with_reducible rfl
          refine wpAnyH_take (i := 7) (v := ?_) rfl (by kernel_rfl) (by kernel_rfl) (by kernel_rfl) (fun _ _ _ h => h) (Or.inl ⟨by kernel_rfl, ?_⟩) (by assumption) ?_
          rotate_left
          · intro w hSw; (try dsimp only at hSw); go_simp; try with_reducible rfl
          refine wpAnyH_done (by kernel_rfl) ?_ _
          try simp only [Act.put, List.setIfInBounds_toArray, List.set_cons_zero, List.set_cons_succ, List.getElem_toArray, List.getElem_cons_zero, List.getElem_cons_succ]
          go_wp2_with fail
          have hxb : w.heap.size < (World.drew wr).heap.size := HXb.out.lt
          have bW : Below w.heap.size w (World.alloc (World.drew (World.drew (World.drew wr))) (.cells #[] 34)) := (hnb.drew.drew).alloc (by exact hnb.size) _
          have HA := Lib.hid (cells_new (World.drew (World.drew (World.drew wr))) #[] 34).now
          refine wp_region_held_drew (S := (fun w' => (w'.cell? ⟨b, off + k * 2, none⟩ = some (.string rs) ∧ w'.cell? ⟨b, off + k * 2 + 1, none⟩ = some (.slice ga gn gc)) ∧ w'.cell? ⟨w.heap.size, 0, none⟩ = some (.string s))) (by kernel_rfl) ?_ (fun hHeld => ?_)
          · exact ⟨⟨d0, d1⟩, z0⟩
          refine wpAnyH_take (i := 0) (v := ?_) rfl (by kernel_rfl) (by kernel_rfl) (by kernel_rfl) (fun _ _ _ h => h) (Or.inl ⟨by kernel_rfl, ?_⟩) (by assumption) ?_
          rotate_left
          · intro w hSw; (try dsimp only at hSw); go_simp; try with_reducible rfl
          refine wpAnyH_take (i := 1) (v := ?_) rfl (by kernel_rfl) (by kernel_rfl) (by kernel_rfl) (fun _ _ _ h => h) (Or.inl ⟨by kernel_rfl, ?_⟩) (by assumption) ?_
          rotate_left
          · intro w hSw; (try dsimp only at hSw); go_simp; try with_reducible rfl
          refine wpAnyH_take (i := 2) (v := ?_) rfl (by kernel_rfl) (by kernel_rfl) (by kernel_rfl) (fun _ _ _ h => h) (Or.inl ⟨by kernel_rfl, ?_⟩) (by assumption) ?_
          rotate_left
          · intro w hSw; (try dsimp only at hSw); go_simp; try with_reducible rfl
          refine wpAnyH_take (i := 3) (v := ?_) rfl (by kernel_rfl) (by kernel_rfl) (by kernel_rfl) (fun _ _ _ h => h) (Or.inl ⟨by kernel_rfl, ?_⟩) (by assumption) ?_
          rotate_left
          · intro w hSw; (try dsimp only at hSw); go_simp; try with_reducible rfl
          refine wpAnyH_take (i := 4) (v := ?_) rfl (by kernel_rfl) (by kernel_rfl) (by kernel_rfl) (fun _ _ _ h => h) (Or.inl ⟨by kernel_rfl, ?_⟩) (by assumption) ?_
          rotate_left
          · intro w hSw; (try dsimp only at hSw); go_simp; try with_reducible rfl
          refine wpAnyH_take (i := 5) (v := ?_) rfl (by kernel_rfl) (by kernel_rfl) (by kernel_rfl) (fun _ _ _ h => h) (Or.inl ⟨by kernel_rfl, ?_⟩) (by assumption) ?_
          rotate_left
          · intro w hSw; (try dsimp only at hSw); go_simp; try with_reducible rfl
          refine wpAnyH_take (i := 7) (v := ?_) rfl (by kernel_rfl) (by kernel_rfl) (by kernel_rfl) (fun _ _ _ h => h) (Or.inl ⟨by kernel_rfl, ?_⟩) (by assumption) ?_
          rotate_left
          · intro w hSw; (try dsimp only at hSw); go_simp; try with_reducible rfl
          refine wpAnyH_take (i := 8) (v := ?_) rfl (by kernel_rfl) (by kernel_rfl) (by kernel_rfl) (fun _ _ _ h => h) (Or.inl ⟨by kernel_rfl, ?_⟩) (by assumption) ?_
          rotate_left
          · intro w hSw; (try dsimp only at hSw); go_simp; try with_reducible rfl
          refine wpAnyH_take (i := 9) (v := ?_) rfl (by kernel_rfl) (by kernel_rfl) (by kernel_rfl) (fun _ _ _ h => h) (Or.inl ⟨by kernel_rfl, ?_⟩) (by assumption) ?_
          rotate_left
          · intro w hSw; (try dsimp only at hSw); go_simp; try with_reducible rfl
          refine wpAnyH_take (i := 10) (v := ?_) rfl (by kernel_rfl) (by kernel_rfl) (by kernel_rfl) (fun _ _ _ h => h) (Or.inl ⟨by kernel_rfl, ?_⟩) (by assumption) ?_
          rotate_left
          · intro w hSw; (try dsimp only at hSw); go_simp; try with_reducible rfl
          refine wpAnyH_take (i := 11) (v := ?_) rfl (by kernel_rfl) (by kernel_rfl) (by kernel_rfl) (fun _ _ _ h => h) (Or.inl ⟨by kernel_rfl, ?_⟩) (by assumption) ?_
          rotate_left
          · intro w hSw; (try dsimp only at hSw); go_simp; try with_reducible rfl
          refine wpAnyH_ready (rs := [6]) (by kernel_rfl) (by simp) ?_
          refine AllReadyH.cons rfl (fun K hK => ?_) AllReadyH.nil
          go_simp
          clear hHeld
          refine hK.out _ _ ?_ (fun hHeld => ?_)
          · exact ⟨⟨(bW.cell (p := ⟨b, _, none⟩) hb0).trans c0w, (bW.cell (p := ⟨b, _, none⟩) hb0).trans c1w⟩, ((HXb.out.next ((Below.refl _ _).drew.drew)).alloc _).cells.1⟩
          clear hK K
          refine wpAnyH_ready (rs := [12]) (by kernel_rfl) (by simp) ?_
          refine AllReadyH.cons rfl (fun K hK => ?_) AllReadyH.nil
          refine upon_copyN _ _ (by rfl) _ (by rfl) HA.out ga gn gc rg (by rfl) (HZ.out.next bW) (by omega) ?_
          intro cv w2 j hj hjo hcv htu
          obtain ⟨qa, qc, hqe⟩ := own_slice_len hcv.now.1
          rw [hgn] at hqe
          subst hqe
          have hs1 : (World.drew (World.drew (World.drew wr))).heap.size ≤ (World.alloc (World.drew (World.drew (World.drew wr))) (.cells #[] 34)).heap.size := by rw [World.size_alloc]; exact Nat.le_succ _
          have b12 : Below (World.drew (World.drew (World.drew wr))).heap.size (World.drew (World.drew (World.drew wr))) w2 := ((Below.refl (World.drew (World.drew (World.drew wr))).heap.size (World.drew (World.drew (World.drew wr)))).alloc (Nat.le_refl _) _).trans (htu.below hs1 (Nat.le_refl _))
          have bb2 : Below (World.drew wr).heap.size (World.drew wr) w2 := ((Below.refl (World.drew wr).heap.size (World.drew wr)).drew.drew).trans (by exact b12)
          have b2w : Below w.heap.size w w2 := hnb.trans (bb2.mono hnb.size)
          have o2 : OutN B w2 v L us := HOb.out.next bb2
          have x2 := HXb.out.next bb2
          clear hHeld
          refine hK.out _ _ ?_ (fun hHeld => ?_)
          · exact ⟨⟨(b2w.cell (p := ⟨b, _, none⟩) hb0).trans c0w, (b2w.cell (p := ⟨b, _, none⟩) hb0).trans c1w⟩, x2.cells.1⟩
          clear hK K
          refine wpAnyH_take (i := 13) (v := ?_) rfl (by kernel_rfl) (by kernel_rfl) (by kernel_rfl) (fun _ _ _ h => h) (Or.inl ⟨by kernel_rfl, ?_⟩) (by assumption) ?_
          rotate_left
          · intro w hSw; (try dsimp only at hSw); go_simp; try with_reducible rfl
          refine wpAnyH_ready (rs := [14]) (by kernel_rfl) (by simp) ?_
          refine AllReadyH.cons rfl (fun K hK => ?_) AllReadyH.nil
          go_simp
          clear hHeld
          refine hK.out _ _ ?_ (fun hHeld => ?_)
          · exact ⟨⟨((b2w.alloc b2w.size _).cell (p := ⟨b, _, none⟩) hb0).trans c0w, ((b2w.alloc b2w.size _).cell (p := ⟨b, _, none⟩) hb0).trans c1w⟩, (x2.alloc _).cells.1⟩
          clear hK K
          have hj2 : j = (World.drew wr).heap.size ∨ j = (World.drew wr).heap.size + 1 := by rcases hj with e | e; (exact .inl e); (exact .inr (e.trans (World.size_alloc (World.drew wr) (.cells #[] 34))))
          have hjV : (World.drew wr).heap.size ≤ j := by omega
          have hjl : w.heap.size < j ∧ j < w2.heap.size := ⟨by omega, hcv.le⟩
          have eL : (w2.alloc (.cells #[.string rs, .slice qa gn qc] 31)).heap.size = w2.heap.size + 1 := World.size_alloc _ _
          have hBL : B ≤ (w2.alloc (.cells #[.string rs, .slice qa gn qc] 31)).heap.size := by have := b2w.size; omega
          have hqL := (NamK.Box2.new w2 (.string rs) (.slice qa gn qc) 31).cells
          have o3 := o2.next ((Below.refl w2.heap.size w2).alloc (Nat.le_refl _) (.cells #[.string rs, .slice qa gn qc] 31))
          have u3 : OwnT B (w2.alloc (.cells #[.string rs, .slice qa gn qc] 31)) (.slice qa gn qc) rg := own_base (hcv.alloc _).now.1 (by omega)
          refine wpAnyH_ready (rs := [15]) (by kernel_rfl) (by simp) ?_
          refine AllReadyH.cons rfl (fun K hK => ?_) AllReadyH.nil
          refine upon_moreN (B := B) (t := (rs, rg)) (u := .slice qa gn qc) _ _ (by rfl) (by rfl) o3 hBL w2.heap.size (by rfl) hqL u3 (fun y hy i hi e => by have h1 := (HOb.out.lt y hy i hi).2; rw [hjo] at e; have := Option.some.inj e; omega) (fun i hi e => by have h1 := (World.ownsRow.lt HOb.out.1 i e).2; rw [hjo] at hi; have := Option.some.inj hi; omega) hmlb ?_
          intro v4 w4 o4 hg4 hat4
          have x4 : NamK.Box2 w4 w.heap.size (.string s) (.slice xa xn xc) 31 := (hg4.block _ (x2.alloc _).lt (fun e => Nat.lt_irrefl _ (HVb.out _ e.symm))).trans (x2.alloc _)
          have b4 := (b2w.alloc b2w.size (.cells #[.string rs, .slice qa gn qc] 31)).grown hg4 (b2w.alloc b2w.size _).size (fun i hi => Nat.le_of_lt (HVb.out i hi))
          have hv4 : ∀ i, v4.ownBlock = some i → w.heap.size < i := by
            intro i hi
            rcases hat4 with e | e
            · exact HVb.out i (e ▸ hi)
            · rw [e] at hi; have h9 := Option.some.inj hi; have := b2w.size; omega
          have cell4 : ∀ p : Addr, p.block < w.heap.size → w4.cell? p = w.cell? p := fun p hp => b4.cell hp
          clear hHeld
          refine hK.out _ _ ?_ (fun hHeld => ?_)
          · exact ⟨⟨(cell4 ⟨b, _, none⟩ hb0).trans c0w, (cell4 ⟨b, _, none⟩ hb0).trans c1w⟩, x4.cells.1⟩
          clear hK K
          refine wpAnyH_take (i := 16) (v := ?_) rfl (by kernel_rfl) (by kernel_rfl) (by kernel_rfl) (fun _ _ _ h => h) (Or.inl ⟨by kernel_rfl, ?_⟩) (by assumption) ?_
          rotate_left
          · intro w hSw; (try dsimp only at hSw); go_simp; try with_reducible rfl
          refine wpAnyH_done (by kernel_rfl) ?_ _
          try simp only [Act.put, List.setIfInBounds_toArray, List.set_cons_zero, List.set_cons_succ, List.getElem_toArray, List.getElem_cons_zero, List.getElem_cons_succ]
          have I4 : Hid (PutI B w.heap.size w4 v4 true (L ++ [(rs, rg)]) (us ++ [.slice qa gn qc]) (s, g) ts (k + 1)) := Lib.hid (HI.out.copy HT.out hes (.inl rfl) o4 (fun i hi => by rw [hjo] at hi; cases hi; omega) hv4)
          have HX4 := Lib.hid x4
          clear hHeld o4 hg4 hat4 x4 hv4 cell4 x2 o2 o3 u3 b2w hcv htu HA bW HZ HI HX2 HXb HOb HVb hnb c0 c1 c0w c1w d0 d1 z0
          go_wp2_with fail
          go_roundw
          case rel => exact ⟨k + 1, _, true, _, _, by omega, by go_num, rfl, rfl, I4, HX4, b4⟩
          case measure => simp [intOf]; omega
    · obtain rfl : k = len := by omega
      have HF : Hid (L ++ putGo (s, g) d [] = putNam ts (s, g)) := Lib.hid (by
        have := HI.out.2.1
        rwa [List.drop_of_length_le (by rw [HL.out]; exact Nat.le_refl _)] at this)
      have HML := Lib.hid (HI.out.most HTL.out)
      have HVB : Hid (∀ j, v.ownBlock = some j → w.heap.size < j) := Lib.hid HI.out.2.2.2
      have HXL : Hid (∀ j, (Value.slice xa xn xc).ownBlock = some j → j < w.heap.size) := Lib.hid (fun j hj => (World.ownsRow.lt HX.out j hj).2)
      have HXO : Hid (OwnT B wr (.slice xa xn xc) g) := Lib.hid (ownTN_kept HX.out hnx)
      have hxw : w.heap.size < wr.heap.size := HX2.out.lt
      obtain ⟨x0, x1⟩ := HX2.out.cells
      cases d
      · have HBa : B ≤ (wr.alloc (.cells #[.string s, .slice xa xn xc] 31)).heap.size := by rw [World.size_alloc]; omega
        have bLa : Below wr.heap.size wr (wr.alloc (.cells #[.string s, .slice xa xn xc] 31)) := (Below.refl _ _).alloc (Nat.le_refl _) _
        have qa := (NamK.Box2.new wr (.string s) (.slice xa xn xc) 31).cells
        go_wp2_with (at_builtin; go_loud (refine wpList_moreN (B := B) (t := (s, g)) (u := .slice xa xn xc) (L := L) (us := us) rfl _ _ rfl rfl (HI.out.1.next bLa) HBa wr.heap.size rfl qa (ownTN_kept HXO.out bLa) (fun y hy j hj e => by have h1 := HI.out.2.2.1 rfl y hy j hj; have h2 := HXL.out j e; omega) (fun j hj e => by have h1 := HVB.out j e; have h2 := HXL.out j hj; omega) (by have := HML.out; omega) ?_))
        intro v5 w5 o5 hg5 hat5
        have n5 : Below w.heap.size w w5 := (hnx.trans (bLa.mono hnx.size)).grown hg5 (hnx.trans (bLa.mono hnx.size)).size (fun i hi => Nat.le_of_lt (HVB.out i hi))
        have e5 : L ++ [(s, g)] = putNam ts (s, g) := HF.out
        rw [e5] at o5
        have HO5 := Lib.hid o5.own
        clear o5 hg5 hat5
        go_wp2_with fail
        go_ret
        exact ⟨_, rfl, HO5.out, n5⟩
      · have e5 : L = putNam ts (s, g) := by rw [← HF.out]; simp [putGo]
        have HO5 : Hid (OwnNs B wr v (putNam ts (s, g))) := Lib.hid (by rw [← e5]; exact HI.out.1.own)
        go_wp2_with fail
        go_ret
        exact ⟨_, rfl, HO5.out, hnx⟩
end Go.Proofs.Ythnpchcfjkepaaa
/- The contracts of the functions on triples: their texts, and which is ahead. -/
namespace Go.Proofs.Ythnpchcfjkepaaa
open Go.RowKit
def triText (s p o : List UInt8) : List UInt8 := if triOk s p o then s ++ 32 :: (p ++ 32 :: (o ++ [32, 46])) else []
theorem join_text (s p o : ByteArray) : s ++ { data := #[32] } ++ p ++ { data := #[32] } ++ o ++ { data := #[32, 46] } = bs (s.data.toList ++ 32 :: (p.data.toList ++ 32 :: (o.data.toList ++ [32, 46]))) := by
  apply bs_eq
  simp
theorem less_irrefl : ∀ a : List UInt8, Op.bytesLess a a = false
  | [] => rfl
  | x :: r => by simp [Op.bytesLess, less_irrefl r]
theorem less_asymm : ∀ a b : List UInt8, Op.bytesLess a b = true → Op.bytesLess b a = false
  | _, [], h => by simp [Op.bytesLess] at h
  | [], _ :: _, _ => by simp [Op.bytesLess]
  | x :: r, y :: q, h => by
    simp only [Op.bytesLess, Bool.or_eq_true, Bool.and_eq_true, decide_eq_true_eq, beq_iff_eq] at h
    simp only [Op.bytesLess, Bool.or_eq_false_iff, Bool.and_eq_false_iff, decide_eq_false_iff_not, beq_eq_false_iff_ne]
    rcases h with h | ⟨rfl, h⟩
    · refine ⟨?_, .inl ?_⟩
      · rw [UInt8.lt_iff_toNat_lt] at h ⊢; omega
      · rintro rfl; rw [UInt8.lt_iff_toNat_lt] at h; omega
    · exact ⟨by rw [UInt8.lt_iff_toNat_lt]; omega, .inr (less_asymm r q h)⟩
theorem less_total : ∀ a b : List UInt8, a ≠ b → Op.bytesLess a b = true ∨ Op.bytesLess b a = true
  | [], [], h => absurd rfl h
  | [], _ :: _, _ => by simp [Op.bytesLess]
  | _ :: _, [], _ => by simp [Op.bytesLess]
  | x :: r, y :: q, h => by
    simp only [Op.bytesLess, Bool.or_eq_true, Bool.and_eq_true, decide_eq_true_eq, beq_iff_eq]
    by_cases e : x = y
    · subst e
      have := less_total r q (fun g => h (by rw [g]))
      rcases this with g | g
      · exact .inl (.inr ⟨rfl, g⟩)
      · exact .inr (.inr ⟨rfl, g⟩)
    · have : x.toNat ≠ y.toNat := fun g => e (UInt8.toNat.inj g)
      rw [UInt8.lt_iff_toNat_lt, UInt8.lt_iff_toNat_lt]
      omega
theorem ahead_both (s p o s' p' o' : List UInt8) : (aheadL s p o s' p' o' && aheadL s' p' o' s p o) = false := by
  unfold aheadL
  have key : ∀ a b : List UInt8, (Op.bytesLess a b && Op.bytesLess b a) = false := by
    intro a b
    cases h : Op.bytesLess a b
    · rfl
    · rw [less_asymm a b h]; rfl
  by_cases h1 : s = s'
  · subst h1
    by_cases h2 : p = p'
    · subst h2; simp [key]
    · simp [h2, Ne.symm h2, key]
  · simp [h1, Ne.symm h1, key]
theorem ahead_one (s p o s' p' o' : List UInt8) : (aheadL s p o s' p' o' || aheadL s' p' o' s p o) = !(s == s' && (p == p' && o == o')) := by
  unfold aheadL
  have key : ∀ a b : List UInt8, (Op.bytesLess a b || Op.bytesLess b a) = !(a == b) := by
    intro a b
    by_cases h : a = b
    · subst h; simp [less_irrefl]
    · have e : (a == b) = false := by simpa using h
      rw [e]
      rcases less_total a b h with g | g <;> simp [g]
  by_cases h1 : s = s'
  · subst h1
    by_cases h2 : p = p'
    · subst h2; simp [key]
    · simp [h2, Ne.symm h2, key]
  · simp [h1, Ne.symm h1, key]
end Go.Proofs.Ythnpchcfjkepaaa
