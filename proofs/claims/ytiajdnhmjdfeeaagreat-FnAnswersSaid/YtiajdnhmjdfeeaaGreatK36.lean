/- The program's own way through rows and triples: the iterator 'joined'.; A range over an iterator that tells of each row where it lies.; Rows projected: the program's own walk. -/
import Derived.Test.YtiajdnhmjdfeeaaGreatK34
import Derived.Test.YtiajdnhmjdfeeaaGreatK35
import Derived.Shelf.SlIter.Collect
import Derived.RangeFuncBound
import Derived.RangeFuncFrom
import Derived.RangeFuncNested
import Derived.Test.YtiajdnhmjdfeeaaGreatK30
namespace Go.Proofs.YtiajdnhmjdfeeaaGreat
open Go.RowKit Go.WideShapes Go.Maps Go.Sort Go.Shelf
def testB (a t : Tri3) : Bool := fitT (blankT a) t && alikeB a t
theorem fitB_blank {x y : ByteArray} (hx : x.data.toList ≠ []) : fitB (blankV x) y = true ↔ (isVarK x.data.toList = true ∨ x = y) := by
  unfold fitB blankV
  by_cases hv : isVarK x.data.toList = true
  · rw [if_pos hv]
    simp [hv, ByteArray.toList_eq]
  · rw [if_neg hv]
    rw [Bool.or_eq_true, ByteArray.toList_eq, ByteArray.toList_eq, beq_iff_eq]
    constructor
    · rintro (h | h)
      · exact absurd (List.isEmpty_iff.1 h) hx
      · exact .inr (data_inj h)
    · rintro (h | h)
      · exact absurd h hv
      · exact .inr (by rw [h])
theorem imp_b {a b c d : ByteArray} : (!(a.toList == b.toList) || c.toList == d.toList) = true ↔ (a = b → c = d) := by
  rw [Bool.or_eq_true, Bool.not_eq_true', beq_eq_false_iff_ne, beq_iff_eq, ByteArray.toList_eq, ByteArray.toList_eq, ByteArray.toList_eq, ByteArray.toList_eq]
  constructor
  · rintro (h | h) e
    · exact absurd (by rw [e]) h
    · exact data_inj h
  · intro h
    by_cases e : a = b
    · exact .inr (by rw [h e])
    · exact .inl (fun e' => e (data_inj e'))
theorem test_is {a t : Tri3} (h : a.1.data.toList ≠ [] ∧ a.2.1.data.toList ≠ [] ∧ a.2.2.data.toList ≠ []) : testB a t = true ↔ fitsM a t ∧ alikeM a t := by
  unfold testB fitT blankT alikeB fitsM alikeM
  simp only [Bool.and_eq_true, fitB_blank h.1, fitB_blank h.2.1, fitB_blank h.2.2, imp_b]
/-- What a row must be like. -/
def GoodR (r : RowV) : Prop := Asc r ∧ PlainV r ∧ (∀ u ∈ r, u.2.data.toList ≠ []) ∧ r.length ≤ 1000 ∧ SmP r
theorem seen_full {r : RowV} {x : ByteArray} (hr : ∀ u ∈ r, u.2.data.toList ≠ []) (hx : x.data.toList ≠ []) : (seen r x).data.toList ≠ [] := by
  rcases seen_has (r := r) x with ⟨v, hv, hs⟩ | ⟨_, hs⟩
  · rw [hs]; exact hr _ hv
  · rw [hs]; exact hx
theorem seen_size {r : RowV} {x : ByteArray} (hr : SmP r) (hx : x.size ≤ 1048576) : (seen r x).size ≤ 1048576 := by
  rcases seen_has (r := r) x with ⟨v, hv, hs⟩ | ⟨_, hs⟩
  · rw [hs]; exact (hr _ hv).2
  · rw [hs]; exact hx
theorem match_test {r : RowV} {p t : Tri3} (hr : GoodR r) (hp : p.1.data.toList ≠ [] ∧ p.2.1.data.toList ≠ [] ∧ p.2.2.data.toList ≠ []) : matchM r p t = if testB (askM r p) t = true then some (boundM r (askM r p) t) else none := by
  have hne : (askM r p).1.data.toList ≠ [] ∧ (askM r p).2.1.data.toList ≠ [] ∧ (askM r p).2.2.data.toList ≠ [] := ⟨seen_full hr.2.2.1 hp.1, seen_full hr.2.2.1 hp.2.1, seen_full hr.2.2.1 hp.2.2⟩
  obtain ⟨h1, h2⟩ := matchM_is (p := p) (t := t) hr.2.1 hr.1
  by_cases h : testB (askM r p) t = true
  · rw [if_pos h]; exact h1 ((test_is hne).1 h)
  · rw [if_neg h]; exact h2 (fun g => h ((test_is hne).2 g))
/-- A row's cells lie below m. -/
def LowB (m : Nat) (a : Option Addr) (n : Nat) : Prop := 0 < n → ∀ x, a = some x → x.block < m
def LowP (m : Nat) (W : World) (a : Option Addr) (n c : Nat) (r : RowV) : Prop := IsPres W a n c r ∧ LowB m a n
theorem add_blockJ (x : Addr) (j : Nat) : (x.add j).block = x.block := by unfold Addr.add; split <;> rfl
theorem cell_low {A B : World} {q : Addr} (h : B.heap[q.block]? = A.heap[q.block]?) : B.cell? q = A.cell? q := by unfold World.cell?; rw [h]
theorem IsPres.lowB {W : World} {a : Option Addr} {n c : Nat} {r : RowV} (h : IsPres W a n c r) : LowB W.heap.size a n := by
  intro h0 x hx
  obtain ⟨b, off, e, hb, _⟩ := h.cells h0
  rw [hx] at e
  cases e
  exact hb
theorem LowP.same {m : Nat} {A B : World} {a : Option Addr} {n c : Nat} {r : RowV} (h : LowP m A a n c r) (hk : ∀ k, k < m → B.heap[k]? = A.heap[k]?) : LowP m B a n c r := by
  obtain ⟨h, hl⟩ := h
  refine ⟨?_, hl⟩
  rcases h with h | ⟨x, rfl, h1, h2, h3, h4⟩
  · exact .inl h
  · refine .inr ⟨x, rfl, h1, h2, h3, fun i t hi => ?_⟩
    have hx := hl (by have := (List.getElem?_eq_some_iff.1 hi).1; omega) x rfl
    obtain ⟨c0, c1, w0, w1⟩ := h4 i t hi
    exact ⟨(cell_low (by rw [add_blockJ]; exact hk _ hx)).trans c0, (cell_low (by rw [add_blockJ]; exact hk _ hx)).trans c1, w0, w1⟩
/-- Rows that lie below m. -/
def IsRowsQ (m : Nat) (w : World) (a : Option Addr) (len cap : Nat) (rs : List RowV) : Prop :=
  (a = none ∧ len = 0 ∧ cap = 0 ∧ rs = []) ∨
  ∃ x, a = some x ∧ len ≤ cap ∧ cap ≤ maxLen ∧ rs.length = len ∧ ∀ (i : Nat) (r : RowV), rs[i]? = some r → x.block < m ∧ ∃ a n c, w.cell? (x.add i) = some (.slice a n c) ∧ LowP m w a n c r
theorem IsRowsQ.len {m : Nat} {w : World} {a : Option Addr} {len cap : Nat} {rs : List RowV} (h : IsRowsQ m w a len cap rs) : rs.length = len := by
  rcases h with ⟨_, rfl, _, rfl⟩ | ⟨x, _, _, _, h, _⟩
  · rfl
  · exact h
theorem IsRows.q {W : World} {a : Option Addr} {len cap : Nat} {rs : List RowV} (h : IsRows W a len cap rs) : IsRowsQ W.heap.size W a len cap rs := by
  rcases h with h | ⟨x, rfl, h1, h2, h3, h4⟩
  · exact .inl h
  · refine .inr ⟨x, rfl, h1, h2, h3, fun i r hi => ?_⟩
    obtain ⟨a', n', c', c0, hp⟩ := h4 i r hi
    exact ⟨by have := World.block_lt_of_cell? _ _ c0; rwa [add_blockJ] at this, a', n', c', c0, hp, hp.lowB⟩
theorem IsRowsQ.same {m : Nat} {A B : World} {a : Option Addr} {len cap : Nat} {rs : List RowV} (h : IsRowsQ m A a len cap rs) (hk : ∀ k, k < m → B.heap[k]? = A.heap[k]?) : IsRowsQ m B a len cap rs := by
  rcases h with h | ⟨x, rfl, h1, h2, h3, h4⟩
  · exact .inl h
  · refine .inr ⟨x, rfl, h1, h2, h3, fun i r hi => ?_⟩
    obtain ⟨hx, a', n', c', c0, hp⟩ := h4 i r hi
    exact ⟨hx, a', n', c', (cell_low (by rw [add_blockJ]; exact hk _ hx)).trans c0, hp.same hk⟩
theorem IsRowsQ.cells {m : Nat} {w : World} {a : Option Addr} {len cap : Nat} {rs : List RowV} (h : IsRowsQ m w a len cap rs) (h0 : 0 < len) : ∃ b off, a = some ⟨b, off, none⟩ ∧ b < w.heap.size ∧ len ≤ cap ∧ cap ≤ maxLen ∧ rs.length = len ∧
    ∀ (i : Nat) (r : RowV), rs[i]? = some r → ∃ a n c, w.cell? ⟨b, off + i, none⟩ = some (.slice a n c) ∧ LowP m w a n c r := by
  rcases h with ⟨_, rfl, _⟩ | ⟨x, rfl, h1, h2, h3, h4⟩
  · omega
  · obtain ⟨b, off, spot⟩ := x
    have ht : rs[0]? = some rs[0] := List.getElem?_eq_getElem (by omega)
    obtain ⟨_, _, _, _, hc, _⟩ := h4 0 _ ht
    obtain rfl : spot = none := by simpa [Addr.add] using World.cell?_spot hc
    refine ⟨b, off, rfl, by have := World.block_lt_of_cell? _ _ hc; simpa [Addr.add] using this, h1, h2, h3, fun i r hi => ?_⟩
    obtain ⟨_, a', n, c, c0, hp⟩ := h4 i r hi
    rw [add_plain] at c0
    exact ⟨a', n, c, c0, hp⟩
/-- A row's handle; its cells lie in a block of pairs. -/
def RowT (W : World) (u : Value) (r : RowV) : Prop := ∃ a n c, u = .slice a n c ∧ IsPres W a n c r ∧ (0 < n → ∃ x cur, a = some x ∧ W.heap[x.block]? = some (.cells cur 55 (0, 0)))
theorem RowT.in {W : World} {u : Value} {r : RowV} (h : RowT W u r) : RowIn W u r := by
  obtain ⟨a, n, c, e, h, _⟩ := h
  exact ⟨a, n, c, e, h⟩
theorem RowT.same {A B : World} {u : Value} {r : RowV} (h : RowT A u r) (hk : ∀ (k : Nat) (cur : Array Value), A.heap[k]? = some (Obj.cells cur 55 (0, 0)) → B.heap[k]? = A.heap[k]?) : RowT B u r := by
  obtain ⟨a, n, c, rfl, h, ht⟩ := h
  rcases h with ⟨rfl, rfl, rfl, rfl⟩ | ⟨x, rfl, h1, h2, h3, h4⟩
  · exact ⟨none, 0, 0, rfl, .inl ⟨rfl, rfl, rfl, rfl⟩, fun h => by omega⟩
  · have hx : 0 < n → B.heap[x.block]? = A.heap[x.block]? := fun h0 => by
      obtain ⟨y, cur, e, hc⟩ := ht h0
      cases e
      exact hk _ _ hc
    refine ⟨_, n, c, rfl, .inr ⟨x, rfl, h1, h2, h3, fun i t hi => ?_⟩, fun h0 => ?_⟩
    · have h0 : 0 < n := by have := (List.getElem?_eq_some_iff.1 hi).1; omega
      obtain ⟨c0, c1, w0, w1⟩ := h4 i t hi
      exact ⟨(cell_low (by rw [add_blockJ]; exact hx h0)).trans c0, (cell_low (by rw [add_blockJ]; exact hx h0)).trans c1, w0, w1⟩
    · obtain ⟨y, cur, e, hc⟩ := ht h0
      cases e
      exact ⟨x, cur, rfl, (hx h0).trans hc⟩
theorem RowT.of {B : Nat} {W : World} {v : Value} {r : RowV} (h : OwnP B W v r) (hm : ∀ t ∈ r, t.1.size ≤ maxLen ∧ t.2.size ≤ maxLen) : RowT W v r := by
  obtain ⟨a, c, e, i⟩ := h.is hm
  refine ⟨a, _, c, e, i, fun h0 => ?_⟩
  rcases h.2 with ⟨_, hl⟩ | ⟨g, cap, cur, e2, _, hg, _⟩
  · omega
  · rw [e] at e2
    simp only [Value.slice.injEq] at e2
    exact ⟨_, cur, e2.1, hg⟩
/-- What the iterator reads. -/
def Stat (m bR bP bG : Nat) (ra : Option Addr) (rn rc : Nat) (R : List RowV) (p : Tri3) (a : Option Addr) (la ca : Nat) (gs : List Tri3) (W : World) : Prop :=
  (W.cell? ⟨bR, 0, none⟩ = some (.slice ra rn rc) ∧ bR < W.heap.size) ∧ IsRowsQ m W ra rn rc R ∧ Box W bP (.string p.1) (.string p.2.1) (.string p.2.2) 65 ∧ (W.cell? ⟨bG, 0, none⟩ = some (.slice a la ca) ∧ bG < W.heap.size) ∧ IsTris W a la ca gs
theorem Stat.next {m bR bP bG : Nat} {ra : Option Addr} {rn rc : Nat} {R : List RowV} {p : Tri3} {a : Option Addr} {la ca : Nat} {gs : List Tri3} {A B : World} (h : Stat m bR bP bG ra rn rc R p a la ca gs A) (hm : m ≤ A.heap.size) (hb : Below A.heap.size A B) : Stat m bR bP bG ra rn rc R p a la ca gs B := by
  obtain ⟨⟨h1, h1'⟩, h2, h3, ⟨h4, h4'⟩, h5⟩ := h
  exact ⟨⟨(hb.cell (p := ⟨bR, 0, none⟩) h1').trans h1, Nat.lt_of_lt_of_le h1' hb.size⟩, h2.same (fun k hk => hb.block k (Nat.lt_of_lt_of_le hk hm)), h3.next hb, ⟨(hb.cell (p := ⟨bG, 0, none⟩) h4').trans h4, Nat.lt_of_lt_of_le h4' hb.size⟩, h5.next hb⟩
set_option maxRecDepth 100000 in
set_option maxHeartbeats 6400000 in
theorem joinedRun (n : Nat) (hn : 3 ≤ n) (m l bR bP bG : Nat) (ra : Option Addr) (rn rc : Nat) (R : List RowV) (p : Tri3) (a : Option Addr) (la ca : Nat) (gs : List Tri3) (Kp : World → World → Prop) (J Jx : List RowV → World → Prop)
    (hR : ∀ r ∈ R, GoodR r) (hp : p.1.data.toList ≠ [] ∧ p.2.1.data.toList ≠ [] ∧ p.2.2.data.toList ≠ []) (hps : p.1.size ≤ 1048576 ∧ p.2.1.size ≤ 1048576 ∧ p.2.2.size ≤ 1048576) (hgs : SmT gs) (hla : la ≤ 1000) (hrn : rn ≤ 1000)
    (hKs : ∀ A B, Kp A B → Stat m bR bP bG ra rn rc R p a la ca gs A → Stat m bR bP bG ra rn rc R p a la ca gs B) (hKl : ∀ A B k, Kp A B → k < m → B.heap[k]? = A.heap[k]?) (hKb : ∀ A B k x y z, Kp A B → Box A k x y z 65 → Box B k x y z 65)
    (hJb : ∀ s A B, J s A → Below A.heap.size A B → J s B)
    (hY : ∀ pre u r A, J pre A → RowT A u r → YieldAt Fence.wide (n - 1) Tryz.prog l #[u] A fun e B => (e = .returned (.bool true) ∧ J (pre ++ [r]) B ∧ Kp A B) ∨ (e = .returned (.bool false) ∧ Jx (pre ++ [r]) B))
    (W : World) (hmW : m ≤ W.heap.size) (hS : Stat m bR bP bG ra rn rc R p a la ca gs W) (hJ : J [] W) (hKz : ∀ A B, Kp A B → A.heap.size ≤ B.heap.size) :
    CallsIn Fence.wide n Tryz.prog 157 #[.func (.yield l) #[] #[], .pointer (some ⟨bR, 0, none⟩), .pointer (some ⟨bP, 0, none⟩), .pointer (some ⟨bG, 0, none⟩)] W fun e W' => (∃ v, e = .returned v) ∧ (J (joinM gs p R) W' ∨ ∃ pre m, joinM gs p R = pre ++ m ∧ Jx pre W') := by
  obtain ⟨ST, hST⟩ : ∃ ST : World → Prop, ST = fun A => m ≤ A.heap.size ∧ Stat m bR bP bG ra rn rc R p a la ca gs A := ⟨_, rfl⟩
  have HST : Hid (∀ A, ST A → Stat m bR bP bG ra rn rc R p a la ca gs A) := Lib.hid (fun A h => by rw [hST] at h; exact h.2)
  have HSM : Hid (∀ A, ST A → m ≤ A.heap.size) := Lib.hid (fun A h => by rw [hST] at h; exact h.1)
  have HSN : Hid (∀ A B, ST A → RowKit.Below A.heap.size A B → ST B) := Lib.hid (fun A B h hb => by rw [hST] at h ⊢; exact ⟨Nat.le_trans h.1 hb.size, h.2.next h.1 hb⟩)
  have HSK : Hid (∀ A B, Kp A B → ST A → ST B) := Lib.hid (fun A B hk h => by rw [hST] at h ⊢; exact ⟨Nat.le_trans h.1 (hKz A B hk), hKs A B hk h.2⟩)
  have HS : Hid (ST W) := Lib.hid (by rw [hST]; exact ⟨hmW, hS⟩)
  have HJ := Lib.hid hJ
  obtain ⟨⟨cR, _⟩, _, _, ⟨cG, _⟩, _⟩ := hS
  clear hST hKs
  refine callsIn_of_wp Tryz.func157 rfl trivial ?_ rfl
  simp only [Tryz.ntmps157, List.size_toArray, List.length_cons, List.length_nil, Nat.reduceAdd, Nat.reduceSub, Array.replicate_succ, Array.replicate_zero, List.push_toArray, List.append_toArray, List.nil_append, List.cons_append]
  gi_wp2
  clear cR cG hJ
  gi_loopw [13] (fun i wr => ∃ k : Nat, k ≤ rn ∧ i = .int .i64 k ∧ Hid (ST wr) ∧ Hid (J (joinM gs p (R.take k)) wr)) (fun i _ => rn - (intOf i).toNat)
  case atStart => exact ⟨0, Nat.zero_le _, rfl, HS, by simpa [joinM] using HJ⟩
  case round =>
    obtain ⟨k, hk, rfl, HS, HJ⟩ := hrel
    obtain ⟨⟨cR, _⟩, hrows, hbp, ⟨cG, _⟩, htris⟩ := HST.out _ HS.out
    have hrl := hrows.len
    by_cases hlt : k < rn
    · obtain ⟨bb, off, rfl, hbb, _, _, hts, hc⟩ := hrows.cells (by omega)
      have ht : R[k]? = some (R[k]'(by omega)) := List.getElem?_eq_getElem (by omega)
      obtain ⟨a1, n1, c1, c0, hz⟩ := hc k _ ht
      have hgr := hR _ (List.getElem_mem (by omega : k < R.length))
      have HRK := Lib.hid ht
      generalize R[k]'(by omega) = r at ht hz hgr HRK
      have HZ := Lib.hid hz
      have HGR := Lib.hid hgr
      have hn1 : n1 ≤ 1048576 := by have := hgr.2.2.2.1; have := hz.1.len; omega
      obtain ⟨d0, d1, d2⟩ := hbp.cells
      have CF := Lib.hid (fun W' (h : RowKit.Below wr.heap.size wr W') => (callsIn_wide (n := n - 1)).2 (implFilledBy a1 n1 c1 r p.1 p.2.1 p.2.2 W' (hz.1.next h) hgr.1 hn1))
      clear ht hc hts hz hgr hrows hbp htris cR cG
      gi_wp2_with fail
      refine ⟨trivial, fun _ => by omega, (CF.out _ (by first | exact Below.refl _ _ | exact Below.drew (Below.refl _ _))).mono ?_⟩
      rintro e w1 ⟨rfl, hb1⟩
      have HS1 := Lib.hid (HSN.out _ _ HS.out hb1)
      have HJ1 := Lib.hid (hJb _ _ _ HJ.out hb1)
      have HZ1 := Lib.hid (HZ.out.same (fun k hk => hb1.block k (Nat.lt_of_lt_of_le hk (HSM.out _ HS.out))))
      have hq1 := seen_size HGR.out.2.2.2.2 hps.1
      have hq2 := seen_size HGR.out.2.2.2.2 hps.2.1
      have hq3 := seen_size HGR.out.2.2.2.2 hps.2.2
      have HMT : Hid (∀ t, matchM r p t = if testB (seen r p.1, seen r p.2.1, seen r p.2.2) t = true then some (boundM r (seen r p.1, seen r p.2.1, seen r p.2.2) t) else none) := Lib.hid (fun t => match_test HGR.out hp)
      generalize seen r p.1 = s1 at hq1 HMT ⊢
      generalize seen r p.2.1 = s2 at hq2 HMT ⊢
      generalize seen r p.2.2 = s3 at hq3 HMT ⊢
      have bA := (Below.refl w1.heap.size w1).alloc (Nat.le_refl _) (.cells #[.string s1, .string s2, .string s3] 65)
      have HSA := Lib.hid (HSN.out _ _ HS1.out bA)
      have HJA := Lib.hid (hJb _ _ _ HJ1.out bA)
      have HZA := Lib.hid (HZ1.out.same (fun k hk => bA.block k (Nat.lt_of_lt_of_le hk (HSM.out _ HS1.out))))
      have cA := Box.new w1 (.string s1) (.string s2) (.string s3) 65
      obtain ⟨a0, a1', a2⟩ := cA.cells
      have CW := Lib.hid (fun W' => (callsIn_wide (n := n - 1)).2 (implWithoutVars s1 s2 s3 W' (by omega)))
      clear hb1 CF c0 d0 d1 d2 HS HJ HZ HS1 HJ1 HZ1
      gi_wp2_with fail
      refine ⟨trivial, fun _ => by omega, (CW.out _).mono ?_⟩
      rintro e w2 ⟨rfl, hb2⟩
      have HS2 := Lib.hid (HSN.out _ _ HSA.out hb2)
      have HJ2 := Lib.hid (hJb _ _ _ HJA.out hb2)
      have HZ2 := Lib.hid (HZA.out.same (fun k hk => hb2.block k (Nat.lt_of_lt_of_le hk (HSM.out _ HSA.out))))
      have HC2 := Lib.hid (cA.next hb2)
      clear hb2 CW bA HSA HJA HZA a0 a1' a2 cA
      generalize w1.heap.size = ab at HC2 ⊢
      have HMT2 : Hid (∀ t, matchM r p t = if (fitT (blankV s1, blankV s2, blankV s3) t && alikeB (s1, s2, s3) t) = true then some (boundM r (s1, s2, s3) t) else none) := Lib.hid (fun t => HMT.out t)
      clear HMT
      generalize blankV s1 = b1 at HMT2 ⊢
      generalize blankV s2 = b2 at HMT2 ⊢
      generalize blankV s3 = b3 at HMT2 ⊢
      have bB := (Below.refl w2.heap.size w2).alloc (Nat.le_refl _) (.cells #[.string b1, .string b2, .string b3] 65)
      have HSB := Lib.hid (HSN.out _ _ HS2.out bB)
      have HJB := Lib.hid (hJb _ _ _ HJ2.out bB)
      have HZB := Lib.hid (HZ2.out.same (fun k hk => bB.block k (Nat.lt_of_lt_of_le hk (HSM.out _ HS2.out))))
      have HCB := Lib.hid (HC2.out.next bB)
      have HDB := Lib.hid (Box.new w2 (.string b1) (.string b2) (.string b3) 65)
      obtain ⟨_, _, _, ⟨cG, _⟩, _⟩ := HST.out _ HSB.out
      clear bB HS2 HJ2 HZ2 HC2
      gi_wp2
      clear cG
      generalize w2.alloc (.cells #[.string b1, .string b2, .string b3] 65) = w3 at HSB HJB HZB HCB HDB ⊢
      generalize w2.heap.size = bb' at HDB ⊢
      gi_loopw [24] (fun i wr => ∃ j : Nat, j ≤ la ∧ i = .int .i64 j ∧ Hid (ST wr) ∧ Hid (J (uptoM gs p R k j) wr) ∧ Hid (LowP m wr a1 n1 c1 r) ∧ Hid (Box wr ab (.string s1) (.string s2) (.string s3) 65) ∧ Hid (Box wr bb' (.string b1) (.string b2) (.string b3) 65)) (fun i _ => la - (intOf i).toNat)
      case atStart => exact ⟨0, Nat.zero_le _, rfl, HSB, by rw [uptoM_start]; exact HJB, HZB, HCB, HDB⟩
      case round =>
        obtain ⟨j, hj, rfl, HS, HJ, HZ, HC, HD⟩ := hrel
        clear HSB HJB HZB HCB HDB
        obtain ⟨_, _, _, _, htris⟩ := HST.out _ HS.out
        by_cases hjl : j < la
        · obtain ⟨tb, to, rfl, htb, _, _, hts, hcs⟩ := htris.cells (by omega)
          have ht : gs[j]? = some (gs[j]'(by omega)) := List.getElem?_eq_getElem (by omega)
          obtain ⟨t0, t1, t2, tm⟩ := hcs j _ ht
          clear tm
          have htsz := hgs _ (List.getElem_mem (by omega : j < gs.length))
          generalize gs[j]'(by omega) = t at ht t0 t1 t2 htsz
          obtain ⟨x, y, z⟩ := t
          dsimp only at t0 t1 t2 htsz
          have HUN := Lib.hid (uptoM_next (p := p) HRK.out ht)
          have HM := Lib.hid (HMT2.out (x, y, z))
          have bT := (Below.refl wr.heap.size wr).alloc (Nat.le_refl _) (.cells #[.string x, .string y, .string z] 65)
          have HS1 := Lib.hid (HSN.out _ _ HS.out bT)
          have HJ1 := Lib.hid (hJb _ _ _ HJ.out bT)
          have HZ1 := Lib.hid (HZ.out.same (fun k hk => bT.block k (Nat.lt_of_lt_of_le hk (HSM.out _ HS.out))))
          have HC1 := Lib.hid (HC.out.next bT)
          have HD1 := Lib.hid (HD.out.next bT)
          have HT1 := Lib.hid (Box.new wr (.string x) (.string y) (.string z) 65)
          obtain ⟨e0, e1, e2⟩ := HT1.out.cells
          obtain ⟨f0, f1, f2⟩ := HD1.out.cells
          have C1' := fun W' => (callsIn_wide (n := n - 1)).2 (implFitsAll (b1, b2, b3) (x, y, z) W')
          have C2' := fun W' => (callsIn_wide (n := n - 1)).2 (implAlike (s1, s2, s3) (x, y, z) W')
          dsimp only at C1' C2'
          obtain ⟨q1, hq1e⟩ : ∃ q, fitT (b1, b2, b3) (x, y, z) = q := ⟨_, rfl⟩
          obtain ⟨q2, hq2e⟩ : ∃ q, alikeB (s1, s2, s3) (x, y, z) = q := ⟨_, rfl⟩
          rw [hq1e] at C1' HM
          rw [hq2e] at C2' HM
          have C1 := Lib.hid C1'
          have C2 := Lib.hid C2'
          clear C1' C2' hq1e hq2e ht hcs hts htris HS HJ HZ HC HD
          gi_wp2_with fail
          refine ⟨trivial, fun _ => by omega, (C1.out _).mono ?_⟩
          rintro e w5 ⟨rfl, hb5⟩
          have HS5 := Lib.hid (HSN.out _ _ HS1.out hb5)
          have HJ5 := Lib.hid (hJb _ _ _ HJ1.out hb5)
          have HZ5 := Lib.hid (HZ1.out.same (fun k hk => hb5.block k (Nat.lt_of_lt_of_le hk (HSM.out _ HS1.out))))
          have HC5 := Lib.hid (HC1.out.next hb5)
          have HD5 := Lib.hid (HD1.out.next hb5)
          have HT5 := Lib.hid (HT1.out.next hb5)
          clear hb5 bT C1 t0 t1 t2 e0 e1 e2 f0 f1 f2 HS1 HJ1 HZ1 HC1 HD1 HT1
          generalize wr.heap.size = wb at HT5 ⊢
          cases q1
          · have HJ6 : Hid (J (uptoM gs p R k (j + 1)) w5) := Lib.hid (by rw [HUN.out, HM.out]; simpa using HJ5.out)
            clear C2
            gi_wp2
            refine ⟨trivial, ?_⟩
            gi_wp2
            refine ⟨trivial, ?_⟩
            gi_wp2
            refine ⟨fun _ h => (by cases h), ?_⟩
            gi_wp2
            go_roundw
            case rel => exact ⟨j + 1, by omega, by go_num, HS5, HJ6, HZ5, HC5, HD5⟩
            case measure => simp [intOf]; omega
          · obtain ⟨e0, e1, e2⟩ := HT5.out.cells
            obtain ⟨f0, f1, f2⟩ := HC5.out.cells
            gi_wp2_with fail
            refine ⟨trivial, fun _ => by omega, (C2.out _).mono ?_⟩
            rintro e w6 ⟨rfl, hb6⟩
            have HS6 := Lib.hid (HSN.out _ _ HS5.out hb6)
            have HJ6 := Lib.hid (hJb _ _ _ HJ5.out hb6)
            have HZ6 := Lib.hid (HZ5.out.same (fun k hk => hb6.block k (Nat.lt_of_lt_of_le hk (HSM.out _ HS5.out))))
            have HC6 := Lib.hid (HC5.out.next hb6)
            have HD6 := Lib.hid (HD5.out.next hb6)
            have HT6 := Lib.hid (HT5.out.next hb6)
            clear hb6 C2 e0 e1 e2 f0 f1 f2 HS5 HJ5 HZ5 HC5 HD5 HT5
            cases q2
            · have HJ7 : Hid (J (uptoM gs p R k (j + 1)) w6) := Lib.hid (by rw [HUN.out, HM.out]; simpa using HJ6.out)
              gi_wp2
              refine ⟨trivial, ?_⟩
              gi_wp2
              refine ⟨fun _ h => (by cases h), ?_⟩
              gi_wp2
              go_roundw
              case rel => exact ⟨j + 1, by omega, by go_num, HS6, HJ7, HZ6, HC6, HD6⟩
              case measure => simp [intOf]; omega
            · obtain ⟨e0, e1, e2⟩ := HT6.out.cells
              obtain ⟨f0, f1, f2⟩ := HC6.out.cells
              have C3 := Lib.hid (fun W' (h : RowKit.Below w6.heap.size w6 W') => (callsIn_wide (n := n - 1)).2 (implBound a1 n1 c1 r (s1, s2, s3) (x, y, z) W' (HZ6.out.1.next h) HGR.out.1 (by have := HGR.out.2.2.2.1; have := HZ6.out.1.len; omega) HGR.out.2.2.2.2 ⟨hq1, hq2, hq3⟩ htsz))
              have HBS : Hid (SmP (boundM r (s1, s2, s3) (x, y, z))) := Lib.hid (matchM_small HGR.out.2.2.2.2 hps htsz (by rw [HM.out]; rfl))
              have HMS : Hid (matchM r p (x, y, z) = some (boundM r (s1, s2, s3) (x, y, z))) := Lib.hid (by rw [HM.out]; rfl)
              gi_wp2_with fail
              refine ⟨trivial, fun _ => by omega, (C3.out _ (by first | exact Below.refl _ _ | exact Below.drew (Below.refl _ _))).mono ?_⟩
              rintro e w7 ⟨v, rfl, ov, hb7⟩
              obtain ⟨va, vc, hve, iv⟩ := ov.is (fun u hu => by have := HBS.out u hu; unfold maxLen; omega)
              have HS7 := Lib.hid (HSN.out _ _ HS6.out hb7)
              have HJ7 := Lib.hid (hJb _ _ _ HJ6.out hb7)
              have HZ7 := Lib.hid (HZ6.out.same (fun k hk => hb7.block k (Nat.lt_of_lt_of_le hk (HSM.out _ HS6.out))))
              have HC7 := Lib.hid (HC6.out.next hb7)
              have HD7 := Lib.hid (HD6.out.next hb7)
              obtain ⟨fn, tmps, assign, body, hy, hRR⟩ := hY _ v _ _ HJ7.out (RowT.of ov (fun u hu => by have := HBS.out u hu; unfold maxLen; omega))
              have HUJ : Hid (uptoM gs p R k (j + 1) = uptoM gs p R k j ++ [boundM r (s1, s2, s3) (x, y, z)]) := Lib.hid (by rw [HUN.out, HMS.out]; rfl)
              clear ov iv hb7 C3 e0 e1 e2 f0 f1 f2 HS6 HJ6 HZ6 HC6 HD6 HT6
              subst hve
              gi_wp2_with fail
              refine ⟨fun _ => by omega, hRR.mono ?_⟩
              rintro e w8 (⟨rfl, hJ8, hK8⟩ | ⟨rfl, hJ8⟩)
              · have HS8 := Lib.hid (HSK.out _ _ hK8 HS7.out)
                have HZ8 := Lib.hid (HZ7.out.same (fun k => hKl _ _ k hK8))
                have HC8 := Lib.hid (hKb _ _ _ _ _ _ hK8 HC7.out)
                have HD8 := Lib.hid (hKb _ _ _ _ _ _ hK8 HD7.out)
                have HJ9 : Hid (J (uptoM gs p R k (j + 1)) w8) := Lib.hid (by rw [HUJ.out]; exact hJ8)
                clear hJ8 hK8 hRR hy HS7 HJ7 HZ7 HC7 HD7
                gi_wp2
                go_roundw
                case rel => exact ⟨j + 1, by omega, by go_num, HS8, HJ9, HZ8, HC8, HD8⟩
                case measure => simp [intOf]; omega
              · obtain ⟨m, em⟩ := uptoM_part (g := gs) (p := p) (j := j + 1) (rows := R) (k := k) (List.getElem?_eq_some_iff.1 HRK.out).1
                have HEM : Hid (joinM gs p R = uptoM gs p R k j ++ [boundM r (s1, s2, s3) (x, y, z)] ++ m) := Lib.hid (by rw [em, HUJ.out])
                have HJX := Lib.hid hJ8
                clear hJ8 hRR hy em HS7 HJ7 HZ7 HC7 HD7
                gi_wp2
                exact bodyPost_ret (results_none rfl _ _ _) rfl ⟨⟨_, rfl⟩, .inr ⟨_, m, HEM.out, HJX.out⟩⟩
        · have HJ5 : Hid (J (joinM gs p (R.take (k + 1))) wr) := Lib.hid (by
            rw [← uptoM_row HRK.out]
            have h1 := HJ.out
            have e : j = gs.length := by have := htris.len; omega
            rw [e] at h1
            exact h1)
          clear htris
          gi_wp2
          go_roundw
          case rel => exact ⟨k + 1, by omega, by go_num, HS, HJ5⟩
          case measure => simp [intOf]; omega
    · have HF : Hid (J (joinM gs p R) wr) := Lib.hid (by
        have h1 := HJ.out
        rw [List.take_of_length_le (by omega)] at h1
        exact h1)
      clear hrows hbp htris cR cG
      gi_wp2
      go_end0
      exact ⟨⟨_, rfl⟩, .inl HF.out⟩
end Go.Proofs.YtiajdnhmjdfeeaaGreat
namespace Go.Proofs.YtiajdnhmjdfeeaaGreat
open Go.RowKit Go.WideShapes Go.Maps Go.Sort Go.Shelf
theorem ownI_next {β : Type} {B : Nat} {I : β → World → Prop} (hI : OwnFrom B I) {s : β} {A C : World} (h : I s A) (hb : RowKit.Below A.heap.size A C) : I s C := hI s A C none h (grown_of_below hb) (fun r e => by cases e)
set_option maxHeartbeats 1000000 in
theorem rangeTold {g : Operand} {ps : Array Tmp} {assign body : Code} {Q : Exit → Act → World → Prop} {a : Act} {w : World} {n : Nat} (h1 : 1 ≤ n) {gf : Nat} {lb : Array Value} (hg : a.eval g = .func (.func gf) #[] lb)
    (eg : ∀ args w, (callFunc gf args).run Tryz.prog w = .ok (.enter gf args) w) (hps : ps.size = 1) (Kp : World → World → Prop) (full : List RowV) (I Ix : List RowV → World → Prop) (a₁ : Value → Act)
    (hrun : ∀ (l : Nat) (J Jx : List RowV → World → Prop) (W : World), RowKit.Below w.heap.size w W → (∀ s A B, J s A → RowKit.Below A.heap.size A B → J s B) →
      (∀ pre u r A, J pre A → RowT A u r → YieldAt Fence.wide (n - 1 - 1) Tryz.prog l #[u] A fun e B => (e = .returned (.bool true) ∧ J (pre ++ [r]) B ∧ Kp A B) ∨ (e = .returned (.bool false) ∧ Jx (pre ++ [r]) B)) → J [] W →
      CallsIn Fence.wide (n - 1) Tryz.prog gf (#[.func (.yield l) #[] #[]] ++ lb) W fun e W' => (∃ v, e = .returned v) ∧ (J full W' ∨ ∃ pre m, full = pre ++ m ∧ Jx pre W'))
    (hKt : ∀ {A B C : World}, Kp A B → Kp B C → Kp A C) (hKo : ∀ (W : World) (l : Nat) (o o' : Obj), w.heap.size ≤ l → W.heap[l]? = some o → o.isCells = false → Kp W (W.putObj l o'))
    (hI : OwnFrom w.heap.size I) (hIx : OwnFrom w.heap.size Ix) (h0 : I [] w)
    (hassign : ∀ (l : Nat) (u : Value) (W : World) (K : Act → World → Prop), K (a₁ u) W → assign.wpIn (Fence.wide.inRound l) (n - 1 - 1) Tryz.prog (Exit.then K (fun _ _ _ => False)) { tmps := (ps.zip #[u]).foldl (fun t (p, v) => t.setIfInBounds p v) a.tmps, defers := [] } W)
    (hbody : ∀ (l : Nat) (pre : List RowV) (u : Value) (r : RowV) (W : World), I pre W → RowT W u r → body.wpIn (Fence.wide.inRound l) (n - 1 - 1) Tryz.prog (ownPostK Kp I (fun c s W => c = .ret ∧ Ix s W) (pre ++ [r]) W) (a₁ u) W)
    (hdone : ∀ (D : Nat) (W : World), w.heap.size ≤ D → I full W → W.heap[D]? = some (.deferred (some [])) → Q .normal { a with defers := { target := .collected D, args := #[] } :: a.defers } W)
    (hstop : ∀ (D : Nat) (pre m : List RowV) (W : World), w.heap.size ≤ D → full = pre ++ m → Ix pre W → W.heap[D]? = some (.deferred (some [])) → Code.wpIn Fence.wide n Tryz.prog .ret Q { a with defers := { target := .collected D, args := #[] } :: a.defers } W) :
    (Code.rangeFunc g ps assign body).wpIn Fence.wide n Tryz.prog Q a w := by
  refine wpIn_rangeFunc ?_
  intro fn hfn
  rw [show Fence.wide.round = none from rfl]
  let rec' : LoopState → Option Code → Loop := fun st pe => { state := st, pending := pe, fn, tmps := a.tmps, params := ps, assign, body, defers := w.heap.size }
  obtain ⟨lrec, hlr⟩ : ∃ lrec : LoopState → Option Code → Loop, lrec = rec' := ⟨_, rfl⟩
  obtain ⟨V, hV⟩ : ∃ V, (w.alloc (.deferred (some []))).alloc (.loop (lrec .ready none)) = V := ⟨_, rfl⟩
  have kL : V.heap[w.heap.size + 1]? = some (.loop (lrec .ready none)) := by
    rw [← hV]
    have q := World.alloc_heap_new (w.alloc (.deferred (some []))) (.loop (lrec .ready none))
    rwa [World.size_alloc] at q
  have kD : V.heap[w.heap.size]? = some (.deferred (some [])) := by
    rw [← hV]
    exact (Below.heap_alloc _ _ _ (by simp)).trans (World.alloc_heap_new w _)
  have kI : I [] V := by
    rw [← hV]
    exact hI.alloc _ (hI.alloc _ h0)
  have kB : RowKit.Below w.heap.size w V := by
    rw [← hV]
    exact ((Below.refl _ w).alloc (Nat.le_refl _) _).alloc (by simp) _
  refine ⟨w.heap.size + 1, [{ target := .collected w.heap.size, args := #[] }], V, { target := .fn (.func gf) lb, args := #[.func (.yield (w.heap.size + 1)) #[] #[]] }, V, gf, #[.func (.yield (w.heap.size + 1)) #[] #[]] ++ lb, V, ?_, ?_, ?_, ?_, fun _ => h1, ?_⟩
  · rw [← hV, hlr]
    exact run_enterLoop_outer _ _ _ _ _
  · simp only [resolve, hg]
    simp [go_sem]
  · intro f' hf'
    trivial
  · simp [invoke, go_sem, eg]
  have bookP : ∀ {s : List RowV} {A : World} {K : List RowV → World → Prop} (hK : OwnFrom w.heap.size K) (o : Obj) (o' : Obj), K s A → A.heap[w.heap.size + 1]? = some o → o.isCells = false → K s (A.putObj (w.heap.size + 1) o') := fun hK o o' h hl ho => hK.putObj _ h (by omega) hl ho
  refine (hrun (w.heap.size + 1) (fun s A => I s A ∧ A.heap[w.heap.size + 1]? = some (.loop (lrec .ready none)) ∧ A.heap[w.heap.size]? = some (.deferred (some [])))
    (fun s A => Ix s A ∧ A.heap[w.heap.size + 1]? = some (.loop (lrec .done (some .ret))) ∧ A.heap[w.heap.size]? = some (.deferred (some []))) V kB
    (fun s A B h hb => ⟨ownI_next hI h.1 hb, (hb.block _ (Array.getElem?_eq_some_iff.1 h.2.1).1).trans h.2.1, (hb.block _ (Array.getElem?_eq_some_iff.1 h.2.2).1).trans h.2.2⟩) ?_ ⟨kI, kL, kD⟩).mono ?_
  · intro pre u r A hJ hT
    obtain ⟨hi, hl, hd⟩ := hJ
    have hlt := (Array.getElem?_eq_some_iff.1 hl).1
    have hy := run_yield (P := Tryz.prog) (args := #[u]) hl (by rw [hlr]; exact hps.symm)
    rw [hlr] at hy
    refine ⟨fn, _, assign, body, hy, roundIn_of_wpIn hfn (hassign _ u A _ ⟨_, run_beginRound hl (by rw [hlr]), ?_⟩)⟩
    obtain ⟨A2, hA2⟩ : ∃ A2, A.putObj (w.heap.size + 1) (.loop { lrec .ready none with state := .busy }) = A2 := ⟨_, rfl⟩
    have l2 : A2.heap[w.heap.size + 1]? = some (.loop { lrec .ready none with state := .busy }) := by rw [← hA2]; exact World.putObj_heap_same hlt
    have d2 : A2.heap[w.heap.size]? = some (.deferred (some [])) := by rw [← hA2]; exact (World.putObj_heap_other (by omega)).trans hd
    have p2 : Kp A A2 := by rw [← hA2]; exact hKo _ _ _ _ (by omega) hl rfl
    have i2 : I pre A2 := by rw [← hA2]; exact bookP hI _ _ hi hl rfl
    have t2 : RowT A2 u r := by rw [← hA2]; exact hT.same (fun k cur hk => World.putObj_heap_other (fun e => by rw [e, hl] at hk; cases hk))
    rw [hA2]
    refine wpIn_mono (hbody _ pre u r A2 i2 t2) ?_
    have close : ∀ (jump : Option Code) (C : World), KeepsOthers A2 C → (Instr.endRound (w.heap.size + 1) jump).run Tryz.prog C = .ok (.bool jump.isNone) (C.putObj (w.heap.size + 1) (.loop (lrec (if jump.isNone then .ready else .done) jump))) ∧ C.heap[w.heap.size + 1]? = some (.loop { lrec .ready none with state := .busy }) ∧
        (C.putObj (w.heap.size + 1) (.loop (lrec (if jump.isNone then .ready else .done) jump))).heap[w.heap.size + 1]? = some (.loop (lrec (if jump.isNone then .ready else .done) jump)) ∧ (C.putObj (w.heap.size + 1) (.loop (lrec (if jump.isNone then .ready else .done) jump))).heap[w.heap.size]? = some (.deferred (some [])) := fun jump C hk => by
      have l3 := hk.same _ _ l2 rfl
      refine ⟨?_, l3, World.putObj_heap_same (Array.getElem?_eq_some_iff.1 l3).1, (World.putObj_heap_other (by omega)).trans (hk.same _ _ d2 rfl)⟩
      have q := run_endRound (P := Tryz.prog) jump l3
      rw [hlr] at q ⊢
      exact q
    rintro e b C hp
    cases e with
    | normal =>
      obtain ⟨hk, hkp, hi3⟩ := hp
      obtain ⟨q1, q2, q3, q4⟩ := close none C hk
      exact ⟨_, _, q1, .inl ⟨rfl, ⟨bookP hI _ _ hi3 q2 rfl, q3, q4⟩, hKt (hKt p2 hkp) (hKo _ _ _ _ (by omega) q2 rfl)⟩⟩
    | ret =>
      obtain ⟨hk, _, hi3⟩ := hp
      obtain ⟨q1, q2, q3, q4⟩ := close (some .ret) C hk
      exact ⟨_, _, q1, .inr ⟨rfl, bookP hIx _ _ hi3 q2 rfl, q3, q4⟩⟩
    | exit id => exact absurd hp.2.1 (by simp)
    | goto t => exact absurd hp.2.1 (by simp)
    | panic ch => exact hp.elim
    | outgrown => exact hp.elim
  · rintro e W2 ⟨⟨v, rfl⟩, (⟨hi, hl, hd⟩ | ⟨pre, m, hf, hi, hl, hd⟩)⟩
    · refine ⟨none, _, by have q := run_endLoop (P := Tryz.prog) hl (by rw [hlr]; simp [rec']); rw [hlr] at q; exact q, hdone _ _ (Nat.le_refl _) (bookP hI _ _ hi hl rfl) ((World.putObj_heap_other (by omega)).trans hd)⟩
    · refine ⟨some .ret, _, by have q := run_endLoop (P := Tryz.prog) hl (by rw [hlr]; simp [rec']); rw [hlr] at q; exact q, hstop _ pre m _ (Nat.le_refl _) hf (bookP hIx _ _ hi hl rfl) ((World.putObj_heap_other (by omega)).trans hd)⟩
end Go.Proofs.YtiajdnhmjdfeeaaGreat
namespace Go.Proofs.YtiajdnhmjdfeeaaGreat
open Go.RowKit Go.WideShapes Go.Maps
theorem one_rows {w : World} {a : Option Addr} {n c : Nat} {r : RowV} (h : IsPres w a n c r) : IsRows (w.alloc (.cells #[.slice a n c] 50)) (some ⟨w.heap.size, 0, none⟩) 1 1 [r] := by
  refine .inr ⟨_, rfl, Nat.le_refl _, by unfold maxLen; omega, rfl, fun i s hi => ?_⟩
  obtain rfl : i = 0 := by have := (List.getElem?_eq_some_iff.1 hi).1; simp at this; omega
  obtain rfl : r = s := by simpa using hi
  refine ⟨a, n, c, ?_, h.next ((Below.refl w.heap.size w).alloc (Nat.le_refl _) _)⟩
  exact one_cellV rfl 0 _ rfl
theorem put_next {w w5 w6 : World} {mb k : Nat} {ks : List RowV} {r : RowV} {us us1 : List Value} (hk : k < ks.length) (hr : ks[k]? = some r) (hU : us.length = k ∧ (∀ (i : Nat) (u : Value) (r : RowV), us[i]? = some u → ks[i]? = some r → RowIn w u r) ∧ OwnMapV w mb k (putV [] (ks.take k) us))
    (hb : Below w.heap.size w w5) (h1 : us1.length = [r].length) (h2 : ∀ (i : Nat) (u : Value) (s : RowV), us1[i]? = some u → [r][i]? = some s → RowIn w6 u s) (h3 : OwnMapV w6 mb (k + 1) (putV (putV [] (ks.take k) us) [r] us1)) (hg : w5.grownBy w6 (some mb)) :
    ∃ us' : List Value, us'.length = k + 1 ∧ (∀ (i : Nat) (u : Value) (r : RowV), us'[i]? = some u → ks[i]? = some r → RowIn w6 u r) ∧ OwnMapV w6 mb (k + 1) (putV [] (ks.take (k + 1)) us') := by
  obtain ⟨a1, a2, a3⟩ := hU
  match us1, h1 with
  | [u1], _ =>
    refine ⟨us ++ [u1], by simp [a1], fun i u s hu hs => ?_, ?_⟩
    · rcases Nat.lt_or_ge i k with g | g
      · rw [List.getElem?_append_left (by omega)] at hu
        exact ((a2 i u s hu hs).next hb).past hg (a3.next hb).isMap
      · obtain rfl : i = k := by have := (List.getElem?_eq_some_iff.1 hu).1; simp [a1] at this; omega
        rw [List.getElem?_append_right (by omega), a1, Nat.sub_self] at hu
        rw [hr] at hs
        obtain rfl := Option.some.inj hs
        exact h2 0 u r hu rfl
    · have e : ks.take (k + 1) = ks.take k ++ [r] := by
        have e1 := List.getElem?_eq_getElem hk
        rw [hr] at e1
        rw [List.take_succ_eq_append_getElem hk, ← Option.some.inj e1]
      rw [e, putV_snoc _ _ _ _ _ (by rw [a1, List.length_take]; omega)]
      exact h3
set_option maxRecDepth 100000 in
set_option maxHeartbeats 3200000 in
theorem implProjected (a b : Option Addr) (la ca lb cb : Nat) (rs : List RowV) (vs : List ByteArray) (w : World) (ha : IsRows w a la ca rs) (hb : IsStrs w b lb cb vs) (hsa : SmR rs) (hsb : ∀ t ∈ vs, t.size ≤ 1048576) (hlb : lb ≤ 1048576) :
    Calls Tryz.prog 31 #[.slice a la ca, .slice b lb cb] w fun e w' => ∃ v, e = .returned (.tuple #[v, .bool (projOk rs vs)]) ∧ OwnRs w.heap.size w' v (projR rs vs) ∧ Below w.heap.size w w' := by
  have C' := implRowsOk a la ca rs w ha hsa
  have HA := Lib.hid ha
  have HB := Lib.hid hb
  have HSB := Lib.hid hsb
  have HVL := Lib.hid hb.len
  have HRL := Lib.hid ha.len
  cases hq : rowsOkL rs
  · rw [hq] at C'
    have C := Lib.hid C'
    have HP : Hid (projOk rs vs = false) := Lib.hid (by unfold projOk; rw [hq, Bool.false_and])
    clear C' hq ha hb hsa hsb
    go_enter Tryz.func31, Tryz.ntmps31
    go_wp2_with fail
    refine C.out.mono ?_
    rintro e w1 ⟨rfl, hb1⟩
    go_wp2_with fail
    go_ret2
    exact ⟨_, by rw [HP.out]; rfl, by rw [projR_no HP.out]; exact OwnRs.none _ _, hb1⟩
  have hla : la ≤ 300 := by have := rowsOk_most hq; rw [ha.len] at this; exact this
  have HROW : Hid (∀ r ∈ rs, r.length ≤ 12) := Lib.hid (fun r hr => rowsOk_row hq hr)
  have HNZ := Lib.hid (rowsOk_noZ hq)
  have HSA := Lib.hid hsa
  have HRQ := Lib.hid hq
  have hmm := @run_makeMap Tryz.prog
  rw [hq] at C'
  have C := Lib.hid C'
  clear C' hq ha hb hsa hsb
  go_enter Tryz.func31, Tryz.ntmps31
  go_wp2_with fail
  refine C.out.mono ?_
  rintro e w1 ⟨rfl, hb1⟩
  have O0 := Lib.hid (OwnSetS.made w1)
  have B0 := hb1.alloc hb1.size (.map #[] 0)
  have HB1 := Lib.hid hb1.size
  clear hb1 C
  go_wp2_with fail
  go_loopw [18] (fun i wr => ∃ k : Nat, k ≤ lb ∧ i = .int .i64 k ∧ Hid ((txts (vs.take k)).all isVarK = true) ∧ Hid (OwnSetS wr w1.heap.size k (addAllS [] (txts (vs.take k)))) ∧ w1.heap.size < wr.heap.size ∧ Below w.heap.size w wr) (fun i _ => lb - (intOf i).toNat)
  case atStart => exact ⟨0, Nat.zero_le _, rfl, Lib.hid rfl, by simpa [txts, addAllS] using O0, by simp, B0⟩
  case round =>
    obtain ⟨k, hk, rfl, hal, hown, hws, hnx⟩ := hrel
    clear O0 B0
    by_cases hlt : k < lb
    · obtain ⟨bb, off, rfl, hbb, _, _, hts, hcs⟩ := HB.out.cells (by omega)
      have ht : vs[k]? = some (vs[k]'(by omega)) := List.getElem?_eq_getElem (by omega)
      have c0 := hcs k _ ht
      have HK : Hid (vs.take (k + 1) = vs.take k ++ [vs[k]'(by omega)]) := Lib.hid (List.take_succ_eq_append_getElem (by omega))
      have hx1 := HSB.out _ (List.getElem_mem (by omega : k < vs.length))
      have HMEM := Lib.hid (List.getElem_mem (by omega : k < vs.length))
      rw [← hnx.cell (p := ⟨bb, _, none⟩) hbb] at c0
      generalize vs[k]'(by omega) = x at c0 HK hx1 HMEM
      have CV' := implIsVar x (by omega)
      have hx2 : x.size ≤ maxLen := by unfold maxLen; omega
      obtain ⟨q, hbq⟩ : ∃ q, isVarK x.data.toList = q := ⟨_, rfl⟩
      rw [hbq] at CV'
      have CV := Lib.hid CV'
      have HBQ := Lib.hid hbq
      clear CV' hbq hts hcs ht hmm
      go_wp2_with fail
      refine (CV.out _).mono ?_
      rintro e w4 ⟨rfl, hb4⟩
      have B4 := hnx.trans (hb4.mono hnx.size)
      have O4 := Lib.hid (hown.out.next hb4)
      have hw4 := hb4.size
      clear hb4 hnx hown CV
      cases q
      · have HP : Hid (projOk rs vs = false) := Lib.hid (by unfold projOk; rw [varsOk_not HMEM.out HBQ.out, Bool.and_false])
        clear O4
        go_wp2_with fail
        go_ret2
        exact ⟨_, by rw [HP.out]; rfl, by rw [projR_no HP.out]; exact OwnRs.none _ _, B4⟩
      · have HN := Lib.hid (varsOk_step hal.out HK.out HBQ.out)
        have hkl : k < maxLen := by unfold maxLen; omega
        go_wp2_with (at_mapUpdate; refine wpList_putS _ rfl _ _ _ rfl w1.heap.size k (addAllS [] (txts (vs.take k))) rfl O4.out hkl x hx2 rfl rfl ?_)
        intro w5 hown5 hg5
        have B5 : Below w.heap.size w w5 := B4.grown hg5 B4.size (fun r e => by cases e; exact HB1.out)
        have HO5 : Hid (OwnSetS w5 w1.heap.size (k + 1) (addAllS [] (txts (vs.take (k + 1))))) := Lib.hid (by rw [HK.out, txts_snoc, addAllS_snoc]; exact hown5)
        have hw5 : w1.heap.size < w5.heap.size := by have := hg5.size; omega
        clear hown5 hg5 O4 B4 hal HK
        go_wp2_with fail
        go_roundw
        case rel => exact ⟨k + 1, by omega, by go_num, HN, HO5, hw5, B5⟩
        case measure => simp [intOf]; omega
    · have hkl : k = lb := by omega
      have hvt : vs.take k = vs := List.take_of_length_le (by rw [HVL.out]; omega)
      have HVO : Hid (projOk rs vs = true) := Lib.hid (by
        have h1 := hal.out
        rw [hvt] at h1
        unfold projOk varsOkL
        rw [HRQ.out, h1]; rfl)
      rw [hvt] at hown
      obtain ⟨wo, rfl⟩ : ∃ x, x = wr := ⟨_, rfl⟩
      have HS2 := Lib.hid (hown.out.alloc (.map #[] 0))
      have OM0 := Lib.hid (OwnMapV.made wo)
      have B2 := hnx.alloc hnx.size (.map #[] 0)
      have HMB := Lib.hid hnx.size
      have HKP : Hid ((rs.map (keepL (addAllS [] (txts vs)))) = rs.map (keepL (txts vs))) := Lib.hid (List.map_congr_left fun r _ => keepL_same _ _)
      obtain ⟨ks, hks⟩ : ∃ ks, rs.map (keepL (addAllS [] (txts vs))) = ks := ⟨_, rfl⟩
      have HKL : Hid (ks.length = la) := Lib.hid (by rw [← hks, List.length_map, HRL.out])
      have HKS := Lib.hid hks
      generalize addAllS [] (txts vs) = nm at HS2 HKS HKP
      rw [HKS.out] at HKP
      have hne : w1.heap.size ≠ wo.heap.size := by omega
      clear hown hnx hal hks hvt hkl hws
      go_wp2_with fail
      clear hmm hlt
      go_loopw [31] (fun i wr => ∃ j : Nat, j ≤ la ∧ i = .int .i64 j ∧ (∃ us : List Value, Hid (us.length = j ∧ (∀ (i : Nat) (u : Value) (r : RowV), us[i]? = some u → ks[i]? = some r → RowIn wr u r) ∧ OwnMapV wr wo.heap.size j (putV [] (ks.take j) us))) ∧ Hid (OwnSetS wr w1.heap.size k nm) ∧ Below w.heap.size w wr) (fun i _ => la - (intOf i).toNat)
      case atStart => exact ⟨0, Nat.zero_le _, rfl, ⟨[], Lib.hid ⟨rfl, by simp, by simpa [putV] using OM0.out⟩⟩, HS2, B2⟩
      case round =>
        obtain ⟨j, hj, rfl, ⟨us, HU⟩, HSS, hnx⟩ := hrel
        clear OM0 HS2 B2
        by_cases hlj : j < la
        · obtain ⟨bb, off, rfl, hbb, _, _, hts, hcs⟩ := HA.out.cells (by omega)
          have ht : rs[j]? = some (rs[j]'(by omega)) := List.getElem?_eq_getElem (by omega)
          obtain ⟨a1, n1, c1, c0, hz0⟩ := hcs j _ ht
          rw [← hnx.cell (p := ⟨bb, _, none⟩) hbb] at c0
          have hrm := List.getElem_mem (by omega : j < rs.length)
          have hr12 := HROW.out _ hrm
          have hsm := HSA.out _ hrm
          have HKJ : Hid (ks[j]? = some (keepL nm (rs[j]'(by omega)))) := Lib.hid (by rw [← HKS.out, List.getElem?_map, ht]; rfl)
          generalize rs[j]'(by omega) = r at hz0 hr12 hsm HKJ
          have hz := hz0.next hnx
          have hn1 := hz.len
          have E1 := Lib.hid (fun W (h : Below wr.heap.size wr W) => implProjectedTo w1.heap.size k nm a1 n1 c1 r W (HSS.out.next h) (hz.next h) (by omega))
          have HSM : Hid (SmP (keepL nm r)) := Lib.hid (fun t ht => hsm t (List.mem_filter.1 ht).1)
          have HKL2 : Hid ((keepL nm r).length ≤ 12) := Lib.hid (Nat.le_trans (keepL_len _ _) hr12)
          generalize keepL nm r = kr at E1 HSM HKL2 HKJ
          clear hts hcs ht hz hz0 hrm hr12 hsm hn1
          go_wp2_with fail
          refine (E1.out _ (by first | exact Below.refl _ _ | exact Below.drew (Below.refl _ _))).mono ?_
          rintro e w4 ⟨u, rfl, ou, hb4⟩
          obtain ⟨ua, uc, rfl, hu⟩ := ou.is (fun t ht => by have := HSM.out t ht; unfold maxLen; omega)
          have hb4' : Below wr.heap.size wr w4 := by first | exact hb4 | exact (Below.drew (Below.refl _ _)).trans hb4
          have B5 := (hb4'.alloc hb4'.size (.cells #[.slice ua kr.length uc] 50))
          have IR := one_rows hu
          have HBW := Lib.hid B5
          have HIR := Lib.hid IR
          have E2 := Lib.hid (fun W (h : Below (w4.alloc (.cells #[.slice ua kr.length uc] 50)).heap.size (w4.alloc (.cells #[.slice ua kr.length uc] 50)) W) => implPut wo.heap.size j (putV [] (ks.take j) us) (some ⟨w4.heap.size, 0, none⟩) 1 1 [kr] W ((HU.out.2.2.next HBW.out).next h) (HIR.out.next h)
            (fun r hr => by
              obtain rfl : r = kr := by simpa using hr
              have := rowText_len HSM.out
              have := HKL2.out
              omega) (by unfold maxLen; omega))
          generalize hkn : kr.length = kn at HKL2 E2 HBW HIR IR B5 ou hu ⊢
          clear ou hu hb4 IR E1 c0 B5 hb4'
          go_wp2_with fail
          refine (E2.out _ (by first | exact Below.refl _ _ | exact Below.drew (Below.refl _ _))).mono ?_
          rintro e w6 ⟨rfl, ⟨us1, hl1, hr1, hM1⟩, hg6⟩
          obtain ⟨us', q1, q2, q3⟩ := put_next (by rw [HKL.out]; exact hlj) HKJ.out HU.out HBW.out hl1 hr1 hM1 hg6
          have HU' := Lib.hid (And.intro q1 (And.intro q2 q3))
          have HS6 := Lib.hid ((HSS.out.next HBW.out).kept hg6 (by simpa using hne))
          have B6 : Below w.heap.size w w6 := (hnx.trans (HBW.out.mono hnx.size)).grown hg6 (by have := HBW.out.size; have := hnx.size; omega) (fun q e => by cases e; exact HMB.out)
          clear hl1 hr1 hM1 hg6 q1 q2 q3 HU HSS hnx HBW HIR E2 HKJ HSM HKL2
          go_wp2_with fail
          go_roundw
          case rel => exact ⟨j + 1, by omega, by go_num, ⟨us', HU'⟩, HS6, B6⟩
          case measure => simp [intOf]; omega
        · have hjl : j = la := by omega
          have HUF : Hid (us.length = ks.length ∧ (∀ (i : Nat) (u : Value) (r : RowV), us[i]? = some u → ks[i]? = some r → RowIn wr u r) ∧ OwnMapV wr wo.heap.size j (putV [] ks us)) := Lib.hid (by
            have h1 := HU.out
            rw [List.take_of_length_le (by rw [HKL.out]; omega)] at h1
            exact ⟨by rw [h1.1, HKL.out, hjl], h1.2⟩)
          have HKM : Hid (∀ r ∈ ks, (∀ t ∈ r, NoZ t) ∧ (r.length ≤ 1048576 ∧ (rowTextL r).length ≤ maxLen)) := Lib.hid (fun r hr => by
            rw [← HKS.out] at hr
            obtain ⟨s, hs, rfl⟩ := List.mem_map.1 hr
            have h1 := HROW.out s hs
            have h2 := keepL_len nm s
            have h3 := rowText_len (r := keepL nm s) (fun t ht => HSA.out s hs t (List.mem_filter.1 ht).1)
            refine ⟨keepL_noZ (HNZ.out s hs), by omega, by unfold maxLen; omega⟩)
          have E3 := Lib.hid (fun W (h : Below wr.heap.size wr W) => implOrdered wo.heap.size j ks us W HUF.out.1 (fun i u r hu hr => (HUF.out.2.1 i u r hu hr).next h) (HUF.out.2.2.next h) (fun r hr => (HKM.out r hr).1) (by rw [HKL.out]; omega) (fun r hr => (HKM.out r hr).2))
          clear HU hjl HSS
          go_wp2_with fail
          refine (E3.out _ (by first | exact Below.refl _ _ | exact Below.drew (Below.refl _ _))).mono ?_
          rintro e w7 ⟨v, rfl, ov, hb7⟩
          have hb7' : Below wr.heap.size wr w7 := by first | exact hb7 | exact (Below.drew (Below.refl _ _)).trans hb7
          have B7 := hnx.trans (hb7'.mono hnx.size)
          have HF : Hid (OwnRs w.heap.size w7 v (projL rs vs)) := Lib.hid (by
            unfold projL
            rw [← HKP.out]
            exact ov.base hnx.size)
          clear ov hb7 hb7' E3
          go_wp2_with fail
          go_ret2
          exact ⟨v, by rw [HVO.out]; rfl, by rw [projR_yes HVO.out]; exact HF.out, B7⟩
end Go.Proofs.YtiajdnhmjdfeeaaGreat
